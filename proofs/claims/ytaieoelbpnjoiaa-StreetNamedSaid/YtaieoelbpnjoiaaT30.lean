import Derived.Test.YtaieoelbpnjoiaaT29
import Derived.Test.YtaieoelbpnjoiaaT25
set_option linter.unusedSimpArgs false
set_option linter.unusedVariables false
namespace Go.Am
open Go.Proofs
variable {T : Tab} {P : Program} {N L : Nat} {H : AHeap} {Q : Bool → Value → AHeap → Prop}
def swL (C : Int) (a : Option Addr) (n cap : Nat) (w ld lf : Int) (fb fc fs : FuncId) (sa sb : List Value) : List Value :=
 [.int .i64 C, .slice a n cap, .int .i64 w, .int .i64 ld, .int .i64 lf, .func (.func fb) ⟨[]⟩ ⟨[]⟩, .func (.func fc) ⟨[jobG C a n cap w ld lf]⟩ ⟨[]⟩, .func (.func fs) ⟨sa⟩ ⟨sb⟩]
structure DirC (H : AHeap) (d : Dir) (l : List Str) (jv : Value) (w ld : Int) (fb fc fs : FuncId) (sa sb : List Value) : Prop where
 ends : ∀ N H' (i : Nat) s b, Fr H H' → l[i]? = some s → acall tabA (aexec tabA Try.prog (N + 40)) 94 [jv, legV i b] H' = some (true, .tuple ⟨[.int .i64 (nearL s b), .int .i64 (farL s b)]⟩, H', H'.size)
 may : ∀ N H' (i : Nat) s b, Fr H H' → l[i]? = some s → acall tabA (aexec tabA Try.prog (N + 40)) 107 [jv, legV i b] H' = some (true, .bool (mayL s b w ld), H', H'.size)
 sides : ∀ N H' (i : Nat) s b, Fr H H' → l[i]? = some s → acall tabA (aexec tabA Try.prog (N + 100)) fs (sa ++ [legV i b] ++ sb) H' = some (true, .tuple ⟨[.int .i64 (d.known s b), .int .i64 (d.other s b)]⟩, H', H'.size)
 cross : ∀ N H' (i : Nat) s b m, Fr H H' → l[i]? = some s → okM m → acall tabA (aexec tabA Try.prog (N + 200)) fc [jv, legV i b, .int .i64 m] H' = some (true, .int .i64 (d.cross s b m), H', H'.size)
 better : ∀ N H' m o, okM m → okM o → acall tabA (aexec tabA Try.prog (N + 200)) fb [.int .i64 m, .int .i64 o] H' = some (true, .bool (decide (d.mu m < d.mu o)), H', H'.size)
theorem DirC.fr {H H₁ : AHeap} {d : Dir} {l : List Str} {jv : Value} {w ld : Int} {fb fc fs : FuncId} {sa sb : List Value} (h : DirC H d l jv w ld fb fc fs sa sb) (f : Fr H H₁) : DirC H₁ d l jv w ld fb fc fs sa sb where
 ends N H' i s b fr hi := h.ends N H' i s b (f.trans fr) hi
 may N H' i s b fr hi := h.may N H' i s b (f.trans fr) hi
 sides N H' i s b fr hi := h.sides N H' i s b (f.trans fr) hi
 cross N H' i s b m fr hi hm := h.cross N H' i s b m (f.trans fr) hi hm
 better := h.better
def zeros8 : List Value := [.int .i64 0, .int .i64 0, .int .i64 0, .int .i64 0, .int .i64 0, .int .i64 0, .int .i64 0, .int .i64 0]
theorem sv_job {C : Int} {a : Option Addr} {n cap m : Nat} {w ld lf : Int} : sameV (m + 2) (jobG C a n cap w ld lf) (jobG C a n cap w ld lf) = true := by
 unfold jobG
 simp only [zgw,zha,zgz,zgs,zgv,Bool.and_self]
section
variable {d : Dir} {l : List Str} {C w ld lf : Int} {a : Option Addr} {cap : Nat} {fb fc fs : FuncId} {sa sb : List Value} {t : List Int}
theorem tv_at {t : List Int} {x : Int} (ht : t.length = 8) (h : 0 ≤ x ∧ x ≤ 7) : (tv t)[x.toNat]? = some (.int .i64 (tg t x)) := tv_get (by omega)
structure SwI (H₀ H' : AHeap) (sw : List Value) (t t' : List Int) (ds : List Nat) : Prop where
 fr : Fr H₀ H'
 sz : H₀.size + 4 ≤ H'.size
 b0 : H'.get H₀.size = .rw sw 148 false []
 b1 : H'.get (H₀.size + 1) = .rw (tv t) 130 false []
 b2 : H'.get (H₀.size + 1 + 1) = .rw zeros8 130 false []
 b3 : H'.get (H₀.size + 1 + 1 + 1) = .rw (tv t') 130 false []
 ok : okT t'
 nd : ds.Nodup
 dd : ∀ k ∈ ds, H₀.size + 4 ≤ k ∧ k < H'.size ∧ H'.get k = .defer
set_option maxHeartbeats 4000000 in
theorem c104 (hd : d.Ok l) (hk : ∀ s ∈ l, ∀ b, 0 ≤ d.known s b ∧ d.known s b ≤ 7) (hC : 1 ≤ C ∧ C ≤ 8) (hl : l.length ≤ 18) (h : DirC H d l (jobG C a l.length cap w ld lf) w ld fb fc fs sa sb) (ht : okT t) :
  acall tabA (aexec tabA Try.prog (N + 1000)) 104 [.agg ⟨swL C a l.length cap w ld lf fb fc fs sa sb⟩, .agg ⟨tv t⟩] H = some (true, .agg ⟨tv (d.spread l w ld C.toNat t)⟩, H, H.size) := by
 refine call_quietD (k := 53) (rs := [.cell 4 130]) rfl fn_104 rfl rfl rfl ?_ (gr_tv _)
 have t8 := ht.1
 have ptv := part_tv t8
 have nall : zee 0 (tv t) [.int .i64 0, .int .i64 0, .int .i64 0, .int .i64 0, .int .i64 0, .int .i64 0, .int .i64 0, .int .i64 0] = tv t := newC_all (by rw [tv_len, t8]; rfl)
 simp only [zee] at nall
 simp (disch:=first|(simp only [yk,seval];done)|omega|(simp only [yz]<;>omega)|fail) only [↓yp,yq0,yq1,yq2,yq3,yq4,yl,ys0,ys1,seval,zed,zee,zfr,zhw,ysu,yrg,swL,ptv,tv_len,t8,one_tv,nall]
 refine W_whileD 0 900 (fun k e H' ds => ∃ x : Nat, k = C.toNat - x ∧ x ≤ C.toNat ∧ gt 53 e 16 = .int .i64 (x : Nat) ∧ gt 53 e 15 = .int .i64 C ∧ gt 53 e 2 = .pointer (some ⟨H.size, 0, none⟩) ∧ gt 53 e 3 = .pointer (some ⟨H.size + 1, 0, none⟩) ∧ gt 53 e 4 = .pointer (some ⟨H.size + 1 + 1, 0, none⟩) ∧ gt 53 e 5 = .pointer (some ⟨H.size + 1 + 1 + 1, 0, none⟩) ∧
   SwI H H' (swL C a l.length cap w ld lf fb fc fs sa sb) t (sweepTo (d.step t) w ld l x t) ds)
  ?_ 8 C.toNat ⟨0, by omega, by omega, by simp (disch:=first|(simp only [yk,seval];done)|omega|(simp only [yz]<;>omega)|fail) only [yg,seval] <;> rfl, by simp (disch:=first|(simp only [yk,seval];done)|omega|(simp only [yz]<;>omega)|fail) only [yg,seval], by simp (disch:=first|(simp only [yk,seval];done)|omega|(simp only [yz]<;>omega)|fail) only [yg,seval], by simp (disch:=first|(simp only [yk,seval];done)|omega|(simp only [yz]<;>omega)|fail) only [yg,seval], by simp (disch:=first|(simp only [yk,seval];done)|omega|(simp only [yz]<;>omega)|fail) only [yg,seval], by simp (disch:=first|(simp only [yk,seval];done)|omega|(simp only [yz]<;>omega)|fail) only [yg,seval], ?_⟩ (by omega) (by omega)
 rotate_left
 ·refine ⟨by (repeat (first | exact Fr.refl _ | assumption | refine Fr.allocd ?_ _ | refine Fr.put ?_ (by first | omega | (simp only [yz] <;> omega)) _)), by (first | omega | (simp only [yz] <;> omega)), ?_, ?_, ?_, ?_, ht, List.nodup_nil, fun k hk => by simp at hk⟩
  ·simp (disch:=first|(simp only [yk,seval];done)|omega|(simp only [yz]<;>omega)|fail) only [yg,seval,swL]
  ·simp (disch:=first|(simp only [yk,seval];done)|omega|(simp only [yz]<;>omega)|fail) only [yg,seval]
  ·simp (disch:=first|(simp only [yk,seval];done)|omega|(simp only [yz]<;>omega)|fail) only [yg,seval,zeros8]
  ·simp (disch:=first|(simp only [yk,seval];done)|omega|(simp only [yz]<;>omega)|fail) only [yg,seval,sweepTo]
 rintro M k e H' ds - ⟨x, rfl, hx, g16, g15, g2, g3, g4, g5, J⟩
 have sz := J.sz
 have j0 := J.b0
 have j1 := J.b1
 have j2 := J.b2
 have j3 := J.b3
 have psw : part (swL C a l.length cap w ld lf fb fc fs sa sb) 0 6 = some (jobG C a l.length cap w ld lf) := rfl
 simp only [jobG] at psw
 simp (disch:=first|(simp only [yk,seval];done)|omega|(simp only [yz]<;>omega)|fail) only [↓yp,yq0,yq1,yq2,yq3,yq4,yl,ys0,ys1,seval,zed,zee,zfr,zhw,ysu,yrg,g16,g15]
 refine ⟨fun hlt => ?_, fun hge => ?_⟩
 ·have hx' : x < C.toNat := by simp at hlt; omega
  simp (disch:=first|(simp only [yk,seval];done)|omega|(simp only [yz]<;>omega)|fail) only [↓yp,yq0,yq1,yq2,yq3,yq4,yl,ys0,ys1,seval,zed,zee,zfr,zhw,ysu,yrg,g16,g2,j0,psw]
  have h106 := fun (N : Nat) (H₁ : AHeap) (Q : Bool → Value → AHeap → Prop) (u : Value) (hu : u.cells.toList = [u]) (hL : H.size ≤ H₁.size) => c106 (N := N) (H := H₁) (Q := Q) (L := H.size) (C := C) (w := w) (ld := ld) (lf := lf) (x := x) (a := a) (n := l.length) (cap := cap) (u := u) hu hL
  simp only [jobG] at h106
  rw [h106 _ _ _ _ rfl (by omega)]
  simp (disch:=first|(simp only [yk,seval];done)|omega|(simp only [yz]<;>omega)|fail) only [↓yp,yq0,yq1,yq2,yq3,yq4,yl,ys0,ys1,seval,zed,zee,zfr,zhw,ysu,yrg]
  refine W_gen (fun e6 H6 => gt 53 e6 25 = .func (.func 123) ⟨[]⟩ ⟨[.pointer (some ⟨H'.size, 0, none⟩), .pointer (some ⟨H'.size + 1, 0, none⟩), .pointer (some ⟨H'.size + 1 + 1, 0, none⟩)]⟩ ∧ gt 53 e6 16 = .int .i64 (x : Nat) ∧ gt 53 e6 15 = .int .i64 C ∧ gt 53 e6 2 = .pointer (some ⟨H.size, 0, none⟩) ∧ gt 53 e6 3 = .pointer (some ⟨H.size + 1, 0, none⟩) ∧ gt 53 e6 4 = .pointer (some ⟨H.size + 1 + 1, 0, none⟩) ∧ gt 53 e6 5 = .pointer (some ⟨H.size + 1 + 1 + 1, 0, none⟩) ∧
   Fr H' H6 ∧ H6.size = H'.size + 3 ∧ cellsOf (H6.get H'.size) = some [.int .i64 C, .slice a l.length cap, .int .i64 w, .int .i64 ld, .int .i64 lf] ∧ cellsOf (H6.get (H'.size + 1)) = some [.int .i64 x] ∧ cellsOf (H6.get (H'.size + 1 + 1)) = some [.func (.func 107) ⟨[jobG C a l.length cap w ld lf]⟩ ⟨[]⟩]) ⟨?_, ?_, ?_, ?_, ?_, ?_, ?_, ?_, ?_, ?_, ?_, ?_⟩ ?_
  ·simp (disch:=first|(simp only [yk,seval];done)|omega|(simp only [yz]<;>omega)|fail) only [yg,seval]
  ·simp (disch:=first|(simp only [yk,seval];done)|omega|(simp only [yz]<;>omega)|fail) only [yg,seval,g16]
  ·simp (disch:=first|(simp only [yk,seval];done)|omega|(simp only [yz]<;>omega)|fail) only [yg,seval,g15]
  ·simp (disch:=first|(simp only [yk,seval];done)|omega|(simp only [yz]<;>omega)|fail) only [yg,seval,g2]
  ·simp (disch:=first|(simp only [yk,seval];done)|omega|(simp only [yz]<;>omega)|fail) only [yg,seval,g3]
  ·simp (disch:=first|(simp only [yk,seval];done)|omega|(simp only [yz]<;>omega)|fail) only [yg,seval,g4]
  ·simp (disch:=first|(simp only [yk,seval];done)|omega|(simp only [yz]<;>omega)|fail) only [yg,seval,g5]
  ·(repeat (first | exact Fr.refl _ | assumption | refine Fr.allocd ?_ _ | refine Fr.put ?_ (by first | omega | (simp only [yz] <;> omega)) _))
  ·(first | omega | (simp only [yz] <;> omega))
  ·simp (disch:=first|(simp only [yk,seval];done)|omega|(simp only [yz]<;>omega)|fail) only [yg,seval]
  ·simp (disch:=first|(simp only [yk,seval];done)|omega|(simp only [yz]<;>omega)|fail) only [yg,seval]
  ·simp (disch:=first|(simp only [yk,seval];done)|omega|(simp only [yz]<;>omega)|fail) only [yg,seval,jobG]
  clear g16 g15 g2 g3 g4 g5
  rintro e6 H6 ⟨g25, g16, g15, g2, g3, g4, g5, fr6, sz6, hjob, hcor, hsuit⟩
  have k0 : H6.get H.size = .rw (swL C a l.length cap w ld lf fb fc fs sa sb) 148 false [] := by rw [fr6.same _ (by omega)]; exact j0
  have k1 : H6.get (H.size + 1) = .rw (tv t) 130 false [] := by rw [fr6.same _ (by omega)]; exact j1
  have k2 : H6.get (H.size + 1 + 1) = .rw zeros8 130 false [] := by rw [fr6.same _ (by omega)]; exact j2
  have k3 : H6.get (H.size + 1 + 1 + 1) = .rw (tv (sweepTo (d.step t) w ld l x t)) 130 false [] := by rw [fr6.same _ (by omega)]; exact j3
  have frJ : ∀ H'' : AHeap, (∀ k, k < H6.size → k ≠ H.size + 1 + 1 + 1 → H''.get k = H6.get k) → H6.size + 2 ≤ H''.size → Fr H H'' := fun H'' h1 h2 =>
   ⟨by omega, fun k hk => by rw [h1 k (by omega) (by omega), fr6.same k (by omega), J.fr.same k hk]⟩
  refine W_legs (J := fun st H'' => (∀ k, k < H6.size → k ≠ H.size + 1 + 1 + 1 → H''.get k = H6.get k) ∧ H''.get (H.size + 1 + 1 + 1) = .rw (tv st) 130 false [] ∧ H6.size + 2 ≤ H''.size ∧ okT st) (f := d.step t) (K₀ := 500) (C := C) (w := w) (ld := ld) (lf := lf) (x := x) (a := a) (cap := cap) (b1 := H'.size) (b2 := H'.size + 1) (b3 := H'.size + 1 + 1) (sweepTo (d.step t) w ld l x t)
   ⟨?_, ?_, fun st H'' h => h.2.2.1, ?_, ?_, ?_, ?_, ?_⟩ ?_ hl (by omega) (by omega) g25 ?_ ?_ (by omega) ?_
  ·rintro st Ha Hb ⟨h1, h2, h3, h4⟩ fr
   have := fr.size
   exact ⟨fun k hk hk' => by rw [fr.same k (by omega)]; exact h1 k hk hk', by rw [fr.same _ (by omega)]; exact h2, by omega, h4⟩
  ·rintro st Ha Hb ⟨h1, h2, h3, h4⟩ fr hb
   exact ⟨fun k hk hk' => by rw [← fr.same k (by omega)]; exact h1 k hk hk', by rw [← fr.same _ (by omega)]; exact h2, hb, h4⟩
  ·rintro st Ha ⟨h1, h2, h3, h4⟩
   rw [h1 _ (by omega) (by omega)]; exact hjob
  ·rintro st Ha ⟨h1, h2, h3, h4⟩
   rw [h1 _ (by omega) (by omega)]; exact hcor
  ·rintro st Ha ⟨h1, h2, h3, h4⟩
   rw [h1 _ (by omega) (by omega)]; exact hsuit
  ·rintro N' st Ha i s b ⟨h1, h2, h3, h4⟩ hi
   exact h.ends _ _ i s b (frJ _ h1 h3) hi
  ·rintro N' st Ha i s b ⟨h1, h2, h3, h4⟩ hi
   exact h.may _ _ i s b (frJ _ h1 h3) hi
  ·rintro st Ha blk ⟨h1, h2, h3, h4⟩
   exact ⟨fun k hk hk' => by rw [zdd (by omega)]; exact h1 k hk hk', by rw [zdd (by omega)]; exact h2, by rw [zdf]; exact h3, h4⟩
  ·intro blk
   refine ⟨fun k hk hk' => ?_, ?_, by (first | omega | (simp only [yz] <;> omega)), J.ok⟩
   ·rw [zdb (by rw [zde]; omega), zdb (by omega)]
   ·rw [zdb (by rw [zde]; omega), zdb (by omega)]; exact k3
  ·rintro M2 hM2 st Ha i s b e' ⟨h1, h2, h3, h4⟩ hi hm hn hlb hdf ge ge'
   obtain ⟨M2, rfl⟩ : ∃ M', M2 = M' + 500 := ⟨M2 - 500, by omega⟩
   have q0 : Ha.get H.size = .rw (swL C a l.length cap w ld lf fb fc fs sa sb) 148 false [] := by rw [h1 _ (by omega) (by omega)]; exact k0
   have q1 : Ha.get (H.size + 1) = .rw (tv t) 130 false [] := by rw [h1 _ (by omega) (by omega)]; exact k1
   have e2 := (ge' 2 (by decide)).trans g2
   have e3 := (ge' 3 (by decide)).trans g3
   have e5 := (ge' 5 (by decide)).trans g5
   have frA := frJ _ h1 h3
   simp only [legV] at ge
   simp (disch:=first|(simp only [yk,seval];done)|omega|(simp only [yz]<;>omega)|fail) only [↓yp,yq0,yq1,yq2,yq3,yq4,yl,ys0,ys1,seval,zed,zee,zfr,zhw,ysu,yrg,ge]
   refine midY_gen (by simp (disch:=first|(simp only [yk,seval];done)|omega|(simp only [yz]<;>omega)|fail) only [yg,seval]; exact hlb) ?_
   intro bz hbz
   simp only [swL] at q0
   have hsides := h.sides
   have hcross := h.cross
   have hbetter := h.better
   simp only [legV] at hsides hcross
   have hkn := hk s (List.mem_of_getElem? hi) b
   have hot := hd.other s (List.mem_of_getElem? hi) b
   have tk := tv_at t8 hkn
   have to := tv_at h4.1 hot
   have okc := hd.cross s (List.mem_of_getElem? hi) b _ (ht.2 (d.known s b))
   simp (disch:=first|(simp only [yk,seval];done)|omega|(simp only [yz]<;>omega)|fail) only [↓yp,yq0,yq1,yq2,yq3,yq4,yl,ys0,ys1,seval,zed,zee,zfr,zhw,ysu,yrg,e2,q0]
   rw [hsides _ _ i s b (by refine Fr.put (Fr.put (Fr.allocd frA _) (by omega) _) (by omega) _) hi]
   simp (disch:=first|(simp only [yk,seval];done)|omega|(simp only [yz]<;>omega)|fail) only [↓yp,yq0,yq1,yq2,yq3,yq4,yl,ys0,ys1,seval,zed,zee,zfr,zhw,ysu,yrg]
   refine W_draw [] rfl (by kernel_rfl) (by kernel_rfl) (by first|omega|(simp only [yz]<;>omega)) ?_
   simp (disch:=first|(simp only [yk,seval];done)|omega|(simp only [yz]<;>omega)|fail) only [↓yp,yq0,yq1,yq2,yq3,yq4,yl,ys0,ys1,seval,zed,zee,zfr,zhw,ysu,yrg,e2,e3,q0,q1,A_indexArr st_arS_130,tk]
   rw [hcross _ _ i s b _ (by refine Fr.put (Fr.put (Fr.allocd frA _) (by omega) _) (by omega) _) hi (ht.2 _)]
   simp (disch:=first|(simp only [yk,seval];done)|omega|(simp only [yz]<;>omega)|fail) only [↓yp,yq0,yq1,yq2,yq3,yq4,yl,ys0,ys1,seval,zed,zee,zfr,zhw,ysu,yrg,e2,e3,q0,q1,A_indexArr st_arS_130,tk]
   rw [hcross _ _ i s b _ (by refine Fr.put (Fr.put (Fr.allocd frA _) (by omega) _) (by omega) _) hi (ht.2 _)]
   simp (disch:=first|(simp only [yk,seval];done)|omega|(simp only [yz]<;>omega)|fail) only [↓yp,yq0,yq1,yq2,yq3,yq4,yl,ys0,ys1,seval,zed,zee,zfr,zhw,ysu,yrg,sv_job]
   refine W_draw [] rfl (by kernel_rfl) (by kernel_rfl) (by first|omega|(simp only [yz]<;>omega)) ?_
   simp (disch:=first|(simp only [yk,seval];done)|omega|(simp only [yz]<;>omega)|fail) only [↓yp,yq0,yq1,yq2,yq3,yq4,yl,ys0,ys1,seval,zed,zee,zfr,zhw,ysu,yrg,e2,e5,q0,h2,A_indexArr st_arS_130,to]
   rw [hbetter _ _ _ _ okc (h4.2 _)]
   simp (disch:=first|(simp only [yk,seval];done)|omega|(simp only [yz]<;>omega)|fail) only [↓yp,yq0,yq1,yq2,yq3,yq4,yl,ys0,ys1,seval,zed,zee,zfr,zhw,ysu,yrg,e2,e5,q0,h2,A_indexArr st_arS_130,to]
   rw [hbetter _ _ _ _ okc (h4.2 _)]
   simp (disch:=first|(simp only [yk,seval];done)|omega|(simp only [yz]<;>omega)|fail) only [↓yp,yq0,yq1,yq2,yq3,yq4,yl,ys0,ys1,seval,zed,zee,zfr,zhw,ysu,yrg]
   have hfit : decide ((d.other s b).toNat ≤ 7) = true := by simp; omega
   have nset : ∀ v, List.take (d.other s b).toNat (tv st) ++ [.int .i64 v] ++ List.drop ((d.other s b).toNat + 1) (tv st) = tv (st.set (d.other s b).toNat v) := fun v => newC_tv (by have := h4.1; omega)
   have hst := (hd.step ht h4 (i := i) (b := b) (List.mem_of_getElem? hi)).1
   refine ⟨fun hB => ?_, fun hB => ?_⟩
   ·have est : d.step t st i s b = st.set (d.other s b).toNat (d.cross s b (tg t (d.known s b))) := by unfold Dir.step; rw [hB]; rfl
    rw [est] at hst ⊢
    simp (disch:=first|(simp only [yk,seval];done)|omega|(simp only [yz]<;>omega)|fail) only [↓yp,yq0,yq1,yq2,yq3,yq4,yl,ys0,ys1,seval,zed,zee,zfr,zhw,ysu,yrg,e5,h2,A_indexArr st_arS_130,tv_len,h4.1,hfit,nset]
    refine endY_normal (by simp (disch:=first|(simp only [yk,seval];done)|omega|(simp only [yz]<;>omega)|fail) only [yg,seval]; exact hbz) ?_
    unfold roundQ
    refine ⟨rfl, ?_, ?_, fun k hk hk' => ?_, ?_, ?_, hst⟩
    ·simp (disch:=first|(simp only [yk,seval];done)|omega|(simp only [yz]<;>omega)|fail) only [yg,seval]
    ·simp (disch:=first|(simp only [yk,seval];done)|omega|(simp only [yz]<;>omega)|fail) only [yg,seval]; exact hdf
    ·simp (disch:=first|(simp only [yk,seval];done)|omega|(simp only [yz]<;>omega)|fail) only [yg,seval]; exact h1 k hk hk'
    ·simp (disch:=first|(simp only [yk,seval];done)|omega|(simp only [yz]<;>omega)|fail) only [yg,seval]
    ·(first | omega | (simp only [yz] <;> omega))
   ·have est : d.step t st i s b = st := by unfold Dir.step; rw [hB]; rfl
    rw [est] at hst ⊢
    simp (disch:=first|(simp only [yk,seval];done)|omega|(simp only [yz]<;>omega)|fail) only [↓yp,yq0,yq1,yq2,yq3,yq4,yl,ys0,ys1,seval,zed,zee,zfr,zhw,ysu,yrg]
    refine endY_normal (by simp (disch:=first|(simp only [yk,seval];done)|omega|(simp only [yz]<;>omega)|fail) only [yg,seval]; exact hbz) ?_
    unfold roundQ
    refine ⟨rfl, ?_, ?_, fun k hk hk' => ?_, ?_, ?_, hst⟩
    ·simp (disch:=first|(simp only [yk,seval];done)|omega|(simp only [yz]<;>omega)|fail) only [yg,seval]
    ·simp (disch:=first|(simp only [yk,seval];done)|omega|(simp only [yz]<;>omega)|fail) only [yg,seval]; exact hdf
    ·simp (disch:=first|(simp only [yk,seval];done)|omega|(simp only [yz]<;>omega)|fail) only [yg,seval]; exact h1 k hk hk'
    ·simp (disch:=first|(simp only [yk,seval];done)|omega|(simp only [yz]<;>omega)|fail) only [yg,seval]; exact h2
    ·(first | omega | (simp only [yz] <;> omega))
  ·rintro H'' blk ⟨h1, h2, h3, h4⟩ hdf
   have hw2 : w64 ((x : Int) + 1) = ((x + 1 : Nat) : Int) := by rw [w64_of (by omega)]; omega
   simp (disch:=first|(simp only [yk,seval];done)|omega|(simp only [yz]<;>omega)|fail) only [↓yp,yq0,yq1,yq2,yq3,yq4,yl,ys0,ys1,seval,zed,zee,zfr,zhw,ysu,yrg,g16,hw2]
   refine ⟨C.toNat - (x + 1), by omega, x + 1, rfl, by omega, ?_, ?_, ?_, ?_, ?_, ?_, ?_⟩
   ·simp (disch:=first|(simp only [yk,seval];done)|omega|(simp only [yz]<;>omega)|fail) only [yg,seval]
   ·simp (disch:=first|(simp only [yk,seval];done)|omega|(simp only [yz]<;>omega)|fail) only [yg,seval,g15]
   ·simp (disch:=first|(simp only [yk,seval];done)|omega|(simp only [yz]<;>omega)|fail) only [yg,seval,g2]
   ·simp (disch:=first|(simp only [yk,seval];done)|omega|(simp only [yz]<;>omega)|fail) only [yg,seval,g3]
   ·simp (disch:=first|(simp only [yk,seval];done)|omega|(simp only [yz]<;>omega)|fail) only [yg,seval,g4]
   ·simp (disch:=first|(simp only [yk,seval];done)|omega|(simp only [yz]<;>omega)|fail) only [yg,seval,g5]
   ·refine ⟨(frJ _ h1 h3).put (by omega) _, by (first | omega | (simp only [yz] <;> omega)), ?_, ?_, ?_, ?_, h4, ?_, ?_⟩
    ·simp (disch:=first|(simp only [yk,seval];done)|omega|(simp only [yz]<;>omega)|fail) only [yg,seval]; rw [h1 _ (by omega) (by omega)]; exact k0
    ·simp (disch:=first|(simp only [yk,seval];done)|omega|(simp only [yz]<;>omega)|fail) only [yg,seval]; rw [h1 _ (by omega) (by omega)]; exact k1
    ·simp (disch:=first|(simp only [yk,seval];done)|omega|(simp only [yz]<;>omega)|fail) only [yg,seval]; rw [h1 _ (by omega) (by omega)]; exact k2
    ·simp (disch:=first|(simp only [yk,seval];done)|omega|(simp only [yz]<;>omega)|fail) only [yg,seval]; exact h2
    ·refine List.nodup_cons.2 ⟨fun hm => ?_, J.nd⟩
     have := (J.dd _ hm).2.1
     omega
    ·intro k hk
     rcases List.mem_cons.1 hk with rfl | hk
     ·exact ⟨by omega, by (first | omega | (simp only [yz] <;> omega)), by simp (disch:=first|(simp only [yk,seval];done)|omega|(simp only [yz]<;>omega)|fail) only [yg,seval]; exact hdf⟩
     ·obtain ⟨d1, d2, d3⟩ := J.dd k hk
      exact ⟨d1, by (first | omega | (simp only [yz] <;> omega)), by simp (disch:=first|(simp only [yk,seval];done)|omega|(simp only [yz]<;>omega)|fail) only [yg,seval]; rw [h1 _ (by omega) (by omega), fr6.same _ d2]; exact d3⟩
 ·have hxC : x = C.toNat := by simp at hge; omega
  subst hxC
  have ht' := J.ok
  rw [show sweepTo (d.step t) w ld l C.toNat t = d.spread l w ld C.toNat t from rfl] at ht' j3
  have ptv' := part_tv ht'.1
  have nall' : zee 0 (tv (d.spread l w ld C.toNat t)) [.int .i64 0, .int .i64 0, .int .i64 0, .int .i64 0, .int .i64 0, .int .i64 0, .int .i64 0, .int .i64 0] = tv (d.spread l w ld C.toNat t) := newC_all (by rw [tv_len, ht'.1]; rfl)
  simp only [zee] at nall'
  simp only [zeros8] at j2
  simp (disch:=first|(simp only [yk,seval];done)|omega|(simp only [yz]<;>omega)|fail) only [↓yp,yq0,yq1,yq2,yq3,yq4,yl,ys0,ys1,seval,zed,zee,zfr,zhw,ysu,yrg,g4,g5,j2,j3,ptv',tv_len,ht'.1,one_tv,nall']
  obtain ⟨H9, h9⟩ := atake_all ds (H'.put (H.size + 1 + 1) (.rw (tv (d.spread l w ld C.toNat t)) 130 false [])) J.nd fun k hk => by
   obtain ⟨d1, d2, d3⟩ := J.dd k hk
   rw [zdd (by omega)]; exact d3
  obtain ⟨a1, a2⟩ := atake_fr h9
  have g9 : H9.get (H.size + 1 + 1) = .rw (tv (d.spread l w ld C.toNat t)) 130 false [] := by
   rw [a2 _ fun hm => by have := (J.dd _ hm).1; omega]
   exact zdc (by omega)
  refine ⟨fun k hk => by have := (J.dd k hk).1; omega, by (first | omega | (simp only [yz] <;> omega)), H9, h9, ?_⟩
  refine ⟨_, ?_, rfl⟩
  simp (disch:=first|(simp only [yk,seval];done)|omega|(simp only [yz]<;>omega)|fail) only [↓yp,yq0,yq1,yq2,yq3,yq4,yl,ys0,ys1,seval,zed,zee,zfr,zhw,ysu,yrg,g4,g9,ptv']
end
end Go.Am
namespace Go.Am
open Go.Proofs
variable {T : Tab} {P : Program} {N L : Nat} {H : AHeap} {Q : Bool → Value → AHeap → Prop}
theorem cellsOf130 : Try.prog.cellsOf 130 = 8 := by kernel_rfl
theorem keyT130 : (Try.prog.keyTypeAt 9 130 && !Try.prog.eqGuardType Try.prog.depth 130) = true := by kernel_rfl
theorem okM_I {v : Int} (h : okM v) : okI v := by
 obtain ⟨h1, h2⟩ := h
 unfold okI Lit.wf
 simp only [Bool.and_eq_true,decide_eq_true_eq]
 have h3 : IntKind.min .i64 = -9223372036854775808 := by kernel_rfl
 have h4 : IntKind.max .i64 = 9223372036854775807 := by kernel_rfl
 rw [h3, h4]
 omega
theorem eqLits_ints : ∀ t t' : List Int, t.length = t'.length → eqLits (t.map (Lit.int .i64)) (t'.map (Lit.int .i64)) = some (decide (t = t'))
 | [], [], _ => rfl
 | a :: t, b :: t', h => by
  simp only [List.map_cons,eqLits]
  rw [eqLits_ints t t' (by simpa using h)]
  simp only [eqLit,decide_true,Bool.true_and,Option.some.injEq,List.cons.injEq]
  rw [Bool.eq_iff_iff]; simp
 | [], _ :: _, h => by simp at h
 | _ :: _, [], h => by simp at h
theorem lits130 {t : List Int} (ht : okT t) : Try.prog.keyLits 9 130 (tv t) = some (t.map (Lit.int .i64)) := by
 obtain ⟨h8, hm⟩ := ht
 have hm' : ∀ i, okI (tg t i) := fun i => okM_I (hm i)
 match t, h8 with
 | [a0, a1, a2, a3, a4, a5, a6, a7], _ =>
  have k0 : okI a0 := hm' 0
  have k1 : okI a1 := hm' 1
  have k2 : okI a2 := hm' 2
  have k3 : okI a3 := hm' 3
  have k4 : okI a4 := hm' 4
  have k5 : okI a5 := hm' 5
  have k6 : okI a6 := hm' 6
  have k7 : okI a7 := hm' 7
  unfold Program.keyLits
  rw [Try.underlying130]
  simp only [tv,List.map_cons,List.map_nil]
  rw [if_pos (by rw [cellsOf130]; rfl)]
  simp [cellsOf3, List.range, List.range.loop, lit_int k0, lit_int k1, lit_int k2, lit_int k3, lit_int k4, lit_int k5, lit_int k6, lit_int k7]
theorem formed130 {t : List Int} (h : t.length = 8) : (Value.agg ⟨tv t⟩).formed Try.prog 130 = true := by
 simp only [Value.formed,Try.underlying130,cellsOf130]
 simp [tv_len, h]
theorem plain_ints : ∀ t : List Int, (t.map (Lit.int .i64)).all plainLit = true
 | [] => rfl
 | a :: t => by
  simp only [List.map_cons,List.all_cons,plain_ints t,Bool.and_true]; rfl
theorem eq130 {t t' : List Int} (ht : okT t) (ht' : okT t') : aEqD Try.prog 130 (.agg ⟨tv t⟩) (.agg ⟨tv t'⟩) = some (decide (t = t')) := by
 unfold aEqD
 simp only [keyT130,formed130 ht.1,formed130 ht'.1,gr_tv,Bool.and_self,cond_true,lits130 ht,lits130 ht',plain_ints]
 exact eqLits_ints t t' (by rw [ht.1, ht'.1])
theorem binV_eql_130 {x y : Operand} {t t' : List Int} (ht : okT t) (ht' : okT t') : binV tabA Try.prog .eql 130 x y (.agg ⟨tv t⟩) (.agg ⟨tv t'⟩) = some (.bool (decide (t = t'))) := by
 have e : aEqV Try.prog .eql 130 (some (.agg ⟨tv t⟩)) (some (.agg ⟨tv t'⟩)) = some (.bool (decide (t = t'))) := by
  show (aEqD Try.prog 130 (.agg ⟨tv t⟩) (.agg ⟨tv t'⟩)).map Value.bool = _
  rw [eq130 ht ht']; rfl
 unfold binV
 rw [e]
section
variable {d : Dir} {l : List Str} {C w ld lf : Int} {a : Option Addr} {cap : Nat} {fb fc fs : FuncId} {sa sb : List Value} {t : List Int}
theorem begT_tv {x m : Int} (hx : 0 ≤ x ∧ x ≤ 7) : zee x.toNat [.int .i64 m] (tv (List.replicate 8 (-1))) = tv (begT x m) := newC_tv (by rw [List.length_replicate]; omega)
theorem part_sw : part (swL C a l.length cap w ld lf fb fc fs sa sb) 0 9 = some (.agg ⟨swL C a l.length cap w ld lf fb fc fs sa sb⟩) := rfl
theorem sum_lt (hd : d.Ok l) (ht : okT t) {j : Nat} {k : Nat} (hmv : ∀ i, i < j → d.spread l w ld k (d.iter l w ld k i t) ≠ d.iter l w ld k i t) : j ≤ 1928 := by
 have h := hd.moves (w := w) (ld := ld) (k := k) ht j hmv
 have h1 := hd.sum ht
 have h2 := hd.sum (hd.iter (w := w) (ld := ld) (k := k) ht j)
 omega
set_option maxHeartbeats 4000000 in
theorem c118 (hd : d.Ok l) (hk : ∀ s ∈ l, ∀ b, 0 ≤ d.known s b ∧ d.known s b ≤ 7) (hC : 1 ≤ C ∧ C ≤ 8) (hl : l.length ≤ 18) (h : DirC H d l (jobG C a l.length cap w ld lf) w ld fb fc fs sa sb) {x m : Int} (hx : 0 ≤ x ∧ x ≤ 7) (hm : okM m) :
  acall tabA (aexec tabA Try.prog (N + 4000)) 118 [.agg ⟨swL C a l.length cap w ld lf fb fc fs sa sb⟩, .int .i64 x, .int .i64 m] H = some (true, .agg ⟨tv (d.iter l w ld C.toNat 2000 (begT x m))⟩, H, H.size) := by
 refine call_quiet (k := 21) (rs := [.cell 6 130]) rfl fn_118 rfl rfl rfl ?_ (gr_tv _)
 have hb := begT_ok hx hm
 have r8 : (List.replicate 8 (-1 : Int)).length = 8 := List.length_replicate
 have nall : zee 0 (tv (List.replicate 8 (-1))) zeros8 = tv (List.replicate 8 (-1)) := newC_all (by rw [tv_len, r8]; rfl)
 have nbeg : List.take x.toNat (tv (List.replicate 8 (-1))) ++ [.int .i64 m] ++ List.drop (x.toNat + 1) (tv (List.replicate 8 (-1))) = tv (begT x m) := begT_tv (m := m) hx
 have hfit : decide (x.toNat ≤ 7) = true := by simp; omega
 simp only [zee,zeros8] at nall
 simp (disch := (first | (simp only [ne_eq,Nat.reduceEqDiff,not_false_eq_true,Nat.reduceLT]; done) | omega | (simp only [yz] <;> omega) | fail)) only [↓yp,yq0,yq1,yq2,yq3,yq4,yl,ys0,ys1,Nat.reduceAdd,Nat.reduceMul,Nat.reduceSub,Nat.reduceBEq,Nat.reduceEqDiff,Nat.reduceLT,Nat.reduceLeDiff,reduceIte,Int.reduceAdd,Int.reduceSub,Int.reduceMul,Int.reduceLT,Int.reduceLE,Int.reduceEq,Int.reduceToNat,Int.reduceNeg,zed,zee,zfr,zhw,ysu,yrg,c101,tv_len,r8,one_tv,nall,nbeg,hfit,A_indexArr st_arS_130]
 refine W_while (n := 21) 1200 (fun k e H' => ∃ j : Nat, k = 1929 - j ∧ (∀ i, i < j → d.spread l w ld C.toNat (d.iter l w ld C.toNat i (begT x m)) ≠ d.iter l w ld C.toNat i (begT x m)) ∧ gt 21 e 3 = .pointer (some ⟨H.size, 0, none⟩) ∧ gt 21 e 6 = .pointer (some ⟨H.size + 1, 0, none⟩) ∧ gt 21 e 7 = .pointer (some ⟨H.size + 1 + 1, 0, none⟩) ∧ Fr H H' ∧ H.size + 3 ≤ H'.size ∧
   H'.get H.size = .rw (swL C a l.length cap w ld lf fb fc fs sa sb) 148 false [] ∧ H'.get (H.size + 1) = .rw zeros8 130 false [] ∧ H'.get (H.size + 1 + 1) = .rw (tv (d.iter l w ld C.toNat j (begT x m))) 130 false [])
  ?_ 1929 1929 ⟨0, by omega, fun i hi => by omega, by simp (disch := (first | (simp only [ne_eq,Nat.reduceEqDiff,not_false_eq_true,Nat.reduceLT]; done) | omega | (simp only [yz] <;> omega) | fail)) only [yg,seval], by simp (disch := (first | (simp only [ne_eq,Nat.reduceEqDiff,not_false_eq_true,Nat.reduceLT]; done) | omega | (simp only [yz] <;> omega) | fail)) only [yg,seval], by simp (disch := (first | (simp only [ne_eq,Nat.reduceEqDiff,not_false_eq_true,Nat.reduceLT]; done) | omega | (simp only [yz] <;> omega) | fail)) only [yg,seval], by (repeat (first | exact Fr.refl _ | assumption | refine Fr.allocd ?_ _ | refine Fr.put ?_ (by first | omega | (simp only [yz] <;> omega)) _)), by (first | omega | (simp only [yz] <;> omega)), by simp (disch := (first | (simp only [ne_eq,Nat.reduceEqDiff,not_false_eq_true,Nat.reduceLT]; done) | omega | (simp only [yz] <;> omega) | fail)) only [yg,seval], by simp (disch := (first | (simp only [ne_eq,Nat.reduceEqDiff,not_false_eq_true,Nat.reduceLT]; done) | omega | (simp only [yz] <;> omega) | fail)) only [yg,seval,zeros8], by simp (disch := (first | (simp only [ne_eq,Nat.reduceEqDiff,not_false_eq_true,Nat.reduceLT]; done) | omega | (simp only [yz] <;> omega) | fail)) only [yg,seval] <;> rfl⟩ (by omega) (by omega)
 rintro M k e H' ⟨j, rfl, hmv, g3, g6, g7, fr, sz, j0, j1, j2⟩
 have hj := sum_lt hd hb hmv
 have okj := hd.iter (w := w) (ld := ld) (k := C.toNat) hb j
 have okj' := (hd.spread (w := w) (ld := ld) (k := C.toNat) okj).1
 have p1 := part_tv okj.1
 have p2 := part_tv okj'.1
 have n2 : zee 0 (tv (d.spread l w ld C.toNat (d.iter l w ld C.toNat j (begT x m)))) zeros8 = tv (d.spread l w ld C.toNat (d.iter l w ld C.toNat j (begT x m))) := newC_all (by rw [tv_len, okj'.1]; rfl)
 have n1 : zee 0 (tv (d.iter l w ld C.toNat j (begT x m))) zeros8 = tv (d.iter l w ld C.toNat j (begT x m)) := newC_all (by rw [tv_len, okj.1]; rfl)
 have n3 : List.drop 8 (tv (d.iter l w ld C.toNat j (begT x m))) = [] := List.drop_of_length_le (by rw [tv_len, okj.1]; exact Nat.le_refl _)
 have psw := part_sw (C := C) (a := a) (l := l) (cap := cap) (w := w) (ld := ld) (lf := lf) (fb := fb) (fc := fc) (fs := fs) (sa := sa) (sb := sb)
 simp only [zee,zeros8] at n1 n2 j1
 simp (disch := (first | (simp only [ne_eq,Nat.reduceEqDiff,not_false_eq_true,Nat.reduceLT]; done) | omega | (simp only [yz] <;> omega) | fail)) only [↓yp,yq0,yq1,yq2,yq3,yq4,yl,ys0,ys1,Nat.reduceAdd,Nat.reduceMul,Nat.reduceSub,Nat.reduceBEq,Nat.reduceEqDiff,Nat.reduceLT,Nat.reduceLeDiff,reduceIte,Int.reduceAdd,Int.reduceSub,Int.reduceMul,Int.reduceLT,Int.reduceLE,Int.reduceEq,Int.reduceToNat,Int.reduceNeg,zed,zee,zfr,zhw,ysu,yrg,g3,g7,j0,j2,psw,p1]
 rw [c104 hd hk hC hl (h.fr fr) okj]
 simp (disch := (first | (simp only [ne_eq,Nat.reduceEqDiff,not_false_eq_true,Nat.reduceLT]; done) | omega | (simp only [yz] <;> omega) | fail)) only [↓yp,yq0,yq1,yq2,yq3,yq4,yl,ys0,ys1,Nat.reduceAdd,Nat.reduceMul,Nat.reduceSub,Nat.reduceBEq,Nat.reduceEqDiff,Nat.reduceLT,Nat.reduceLeDiff,reduceIte,Int.reduceAdd,Int.reduceSub,Int.reduceMul,Int.reduceLT,Int.reduceLE,Int.reduceEq,Int.reduceToNat,Int.reduceNeg,zed,zee,zfr,zhw,ysu,yrg,g7,j2,p1,p2,n2,tv_len,okj'.1,one_tv,binV_eql_130 okj' okj]
 refine ⟨fun hA => ?_, fun hA => ?_⟩
 ·have hst := of_decide_eq_true hA
  simp (disch := (first | (simp only [ne_eq,Nat.reduceEqDiff,not_false_eq_true,Nat.reduceLT]; done) | omega | (simp only [yz] <;> omega) | fail)) only [↓yp,yq0,yq1,yq2,yq3,yq4,yl,ys0,ys1,Nat.reduceAdd,Nat.reduceMul,Nat.reduceSub,Nat.reduceBEq,Nat.reduceEqDiff,Nat.reduceLT,Nat.reduceLeDiff,reduceIte,Int.reduceAdd,Int.reduceSub,Int.reduceMul,Int.reduceLT,Int.reduceLE,Int.reduceEq,Int.reduceToNat,Int.reduceNeg,zed,zee,zfr,zhw,ysu,yrg,g6,g7,j1,j2,p1,n1,tv_len,okj.1,one_tv]
  rw [iter_stay hst 2000 (by omega)]
 ·have hst := of_decide_eq_false hA
  simp (disch := (first | (simp only [ne_eq,Nat.reduceEqDiff,not_false_eq_true,Nat.reduceLT]; done) | omega | (simp only [yz] <;> omega) | fail)) only [↓yp,yq0,yq1,yq2,yq3,yq4,yl,ys0,ys1,Nat.reduceAdd,Nat.reduceMul,Nat.reduceSub,Nat.reduceBEq,Nat.reduceEqDiff,Nat.reduceLT,Nat.reduceLeDiff,reduceIte,Int.reduceAdd,Int.reduceSub,Int.reduceMul,Int.reduceLT,Int.reduceLE,Int.reduceEq,Int.reduceToNat,Int.reduceNeg,zed,zee,zfr,zhw,ysu,yrg,g7,j2,p1,p2,n3,tv_len,okj.1,okj'.1,one_tv]
  have hmv' : ∀ i, i < j + 1 → d.spread l w ld C.toNat (d.iter l w ld C.toNat i (begT x m)) ≠ d.iter l w ld C.toNat i (begT x m) := fun i hi => by
   by_cases e : i = j
   ·subst e; exact hst
   ·exact hmv i (by omega)
  have hj' := sum_lt hd hb hmv'
  refine ⟨1929 - (j + 1), by omega, j + 1, rfl, hmv', ?_, ?_, ?_, ?_, ?_, ?_, ?_, ?_⟩
  ·simp (disch := (first | (simp only [ne_eq,Nat.reduceEqDiff,not_false_eq_true,Nat.reduceLT]; done) | omega | (simp only [yz] <;> omega) | fail)) only [yg,seval,g3]
  ·simp (disch := (first | (simp only [ne_eq,Nat.reduceEqDiff,not_false_eq_true,Nat.reduceLT]; done) | omega | (simp only [yz] <;> omega) | fail)) only [yg,seval,g6]
  ·simp (disch := (first | (simp only [ne_eq,Nat.reduceEqDiff,not_false_eq_true,Nat.reduceLT]; done) | omega | (simp only [yz] <;> omega) | fail)) only [yg,seval,g7]
  ·exact Fr.put (Fr.put (fr.allocd _) (by omega) _) (by omega) _
  ·(first | omega | (simp only [yz] <;> omega))
  ·simp (disch := (first | (simp only [ne_eq,Nat.reduceEqDiff,not_false_eq_true,Nat.reduceLT]; done) | omega | (simp only [yz] <;> omega) | fail)) only [yg,seval,j0]
  ·simp (disch := (first | (simp only [ne_eq,Nat.reduceEqDiff,not_false_eq_true,Nat.reduceLT]; done) | omega | (simp only [yz] <;> omega) | fail)) only [yg,seval,j1,zeros8]
  ·simp (disch := (first | (simp only [ne_eq,Nat.reduceEqDiff,not_false_eq_true,Nat.reduceLT]; done) | omega | (simp only [yz] <;> omega) | fail)) only [yg,seval] <;> rfl
end
end Go.Am
namespace Go.Am
open Go.Proofs
variable {T : Tab} {P : Program} {N L : Nat} {H : AHeap} {Q : Bool → Value → AHeap → Prop}
section
variable {l : List Str} {C w ld lf : Int} {a : Option Addr} {cap : Nat}
theorem gr_sw {n : Nat} {fb fc fs : FuncId} {sa sb : List Value} : gr (.agg ⟨swL C a n cap w ld lf fb fc fs sa sb⟩) = false := by
 show (swL C a n cap w ld lf fb fc fs sa sb).all (ground 5) = false
 rw [List.all_eq_false]
 exact ⟨.func (.func fc) ⟨[jobG C a n cap w ld lf]⟩ ⟨[]⟩, by simp [swL], by simp [ground]⟩
theorem c103 {n : Nat} (hL : L ≤ H.size) : resK (acall tabA (aexec tabA Try.prog (N + 60)) 103 [jobG C a n cap w ld lf] H) L Q =
  Q false (.agg ⟨swL C a n cap w ld lf 122 117 94 [jobG C a n cap w ld lf] []⟩) (((H.alloc (.rw [.int .i64 C, .slice a n cap, .int .i64 w, .int .i64 ld, .int .i64 lf] 124 false [])).alloc (.rw [.int .i64 0, .slice none 0 0, .int .i64 0, .int .i64 0, .int .i64 0, .nilFunc, .nilFunc, .nilFunc] 148 false [])).put (H.size + 1) (.rw (swL C a n cap w ld lf 122 117 94 [jobG C a n cap w ld lf] []) 148 false [])) := by
 refine call_res (k := 9) (rs := [.cell 2 148]) rfl fn_103 rfl rfl rfl ?_ gr_sw hL
 have p8 : ∀ x0 x1 x2 x3 x4 x5 x6 x7 : Value, part [x0, x1, x2, x3, x4, x5, x6, x7] 0 9 = some (.agg ⟨[x0, x1, x2, x3, x4, x5, x6, x7]⟩) := fun _ _ _ _ _ _ _ _ => rfl
 simp (disch:=first|(simp only [yk,seval];done)|omega|(simp only [yz]<;>omega)|fail) only [↓yp,yq0,yq1,yq2,yq3,yq4,yl,ys0,ys1,seval,zed,zee,zfr,zhw,ysu,yrg,jobG,A_build st_bdS_148,p8,swL]
theorem dirF (g : Good C l ld) (hs : Sl H a l) : DirC H (fwd ld) l (jobG C a l.length cap w ld (-1)) w ld 122 117 94 [jobG C a l.length cap w ld (-1)] [] where
 ends N H' i s b f hi := c94 (hs.fr f) hi
 may N H' i s b f hi := c107 (hs.fr f) hi
 sides N H' i s b f hi := c94 (N := N + 60) (hs.fr f) hi
 cross N H' i s b m f hi hm := c117m (N := N + 40) (hs.fr f) hi (g.fit (List.mem_of_getElem? hi)) hm
 better N H' m o hm ho := by
  rw [← fwd_better hm ho]
  exact c122 (N := N + 100)
theorem Good.known (g : Good C l ld) : ∀ s ∈ l, ∀ b, 0 ≤ nearL s b ∧ nearL s b ≤ 7 := fun s h b => by
 have := g.near h b
 have := g.hC
 omega
theorem earT_len (g : Good C l ld) {fr a₀ : Int} (hfr : 0 ≤ fr ∧ fr < C) (ha : 0 ≤ a₀ ∧ a₀ ≤ 240) : (earT C l w ld fr a₀).length = 8 := (earT_ok g hfr ha).1
set_option maxHeartbeats 1000000 in
theorem c88 {fr a₀ : Int} (g : Good C l ld) (hs : Sl H a l) (hl : l.length ≤ 18) (hfr : 0 ≤ fr ∧ fr < C) (ha : 0 ≤ a₀ ∧ a₀ ≤ 240) :
  acall tabA (aexec tabA Try.prog (N + 4200)) 88 [jobG C a l.length cap w ld (-1), .int .i64 fr, .int .i64 a₀] H = some (true, .agg ⟨tv (earT C l w ld fr a₀)⟩, H, H.size) := by
 refine call_quiet (k := 12) (rs := [.cell 6 130]) rfl fn_88 rfl rfl rfl ?_ (gr_tv _)
 have hC := g.hC
 have t8 := earT_len (w := w) g hfr ha
 have ptv := part_tv t8
 have h103 := fun (N : Nat) (H₁ : AHeap) (Q : Bool → Value → AHeap → Prop) (hL : H.size ≤ H₁.size) => c103 (N := N) (H := H₁) (Q := Q) (L := H.size) (C := C) (w := w) (ld := ld) (lf := -1) (a := a) (n := l.length) (cap := cap) hL
 simp only [jobG] at h103
 simp (disch:=first|(simp only [yk,seval];done)|omega|(simp only [yz]<;>omega)|fail) only [↓yp,yq0,yq1,yq2,yq3,yq4,yl,ys0,ys1,seval,zed,zee,zfr,zhw,ysu,yrg,jobG]
 rw [h103 _ _ _ (by first|omega|(simp only [yz]<;>omega))]
 simp (disch:=first|(simp only [yk,seval];done)|omega|(simp only [yz]<;>omega)|fail) only [↓yp,yq0,yq1,yq2,yq3,yq4,yl,ys0,ys1,seval,zed,zee,zfr,zhw,ysu,yrg]
 have h118 := fun (H' : AHeap) (f : Fr H H') (N : Nat) => c118 (N := N) (d := fwd ld) (C := C) (m := a₀) (cap := cap) (fwd_ok g) g.known hC hl (dirF (cap := cap) (w := w) g (hs.fr f)) (x := fr) (by omega) ⟨by omega, by omega⟩
 simp only [jobG] at h118
 rw [h118 _ (by repeat first|exact Fr.refl _|assumption|refine Fr.allocd ?_ _|refine Fr.put ?_ (by first|omega|(simp only [yz]<;>omega)) _)]
 rw [show (fwd ld).iter l w ld C.toNat 2000 (begT fr a₀) = earT C l w ld fr a₀ from rfl]
 simp (disch:=first|(simp only [yk,seval];done)|omega|(simp only [yz]<;>omega)|fail) only [↓yp,yq0,yq1,yq2,yq3,yq4,yl,ys0,ys1,seval,zed,zee,zfr,zhw,ysu,yrg,tv_len,t8,one_tv,ptv]
end
end Go.Am
