import Derived.Test.YtaieoelbpnjoiaaT51
set_option linter.unusedSimpArgs false
set_option linter.unusedVariables false
namespace Go.Am
open Go.Proofs
variable {T : Tab} {P : Program} {N L : Nat} {H : AHeap} {Q : Bool → Value → AHeap → Prop}
theorem W_abs {n : Nat} {r : Option Nat} {c : Code} {e : VT} {ds : List Nat} {Q : Exit → ES → Prop} {F : VT → AHeap → Prop} (h : F e H) (k : ∀ e H, F e H → W T P N r c L ⟨n, e, H, ds⟩ Q) : W T P N r c L ⟨n, e, H, ds⟩ Q := k _ _ h
theorem planN {ops : List Oper} {env : Nat → Value} {H : AHeap} {v : Value} {b n c : Nat} {a : Option Addr} (hd : ops.map (·.dst) = [some 62, some 63, some 64, some 65, some 66, some 67, some 68, some 14, none]) (h7 : env 7 = .pointer (some ⟨b, 0, none⟩)) (hb : H.get b = .rw [v, .slice a n c] 24 false []) :
  tabA.plan ops env H = some [(5, .rw (zrow n) 45 false []), (7, .rw [intZ, .slice none 0 0] 24 false [])] := by
 show planA ops env H = _
 unfold planA
 rw [hd, if_neg (by decide), if_neg (by decide), if_pos rfl, h7]
 simp only [hb,zdh]
def zStr : Str := ⟨0, 0, 0, 0, 0, 0, false, 0, 0⟩
theorem zrow_flat : ∀ n, zrow n = flat (List.replicate n zStr)
 | 0 => rfl
 | n + 1 => by
  show [intZ, intZ, intZ, intZ, intZ, intZ, .bool false, intZ, intZ] ++ zrow n = zStr.enc ++ flat (List.replicate n zStr)
  rw [zrow_flat n]; rfl
theorem flat_app : ∀ (l l' : List Str), flat (l ++ l') = flat l ++ flat l'
 | [], l' => rfl
 | s :: l, l' => by
  show s.enc ++ flat (l ++ l') = s.enc ++ flat l ++ flat l'
  rw [flat_app l l', List.append_assoc]
theorem newC_flat {l : List Str} {k : Nat} {s : Str} (h : k < l.length) : zee (k * 9) s.enc (flat l) = flat (l.set k s) := by
 obtain ⟨r, hr⟩ : ∃ r, l[k] = r := ⟨_, rfl⟩
 have e : l = l.take k ++ (r :: l.drop (k + 1)) := by
  rw [← hr, List.getElem_cons_drop, List.take_append_drop]
 have hk : (flat (l.take k)).length = k * 9 := by rw [flat_length, List.length_take]; congr 1; omega
 have e2 : flat l = flat (l.take k) ++ (r.enc ++ flat (l.drop (k + 1))) := by
  conv => lhs; rw [e]
  rw [flat_app]; rfl
 have e3 : flat (l.set k s) = flat (l.take k) ++ (s.enc ++ flat (l.drop (k + 1))) := by
  rw [List.set_eq_take_append_cons_drop, if_pos h, flat_app]; rfl
 rw [e2, e3, show k * 9 = (flat (l.take k)).length + 0 by omega, newC_app, newC_pre (by rw [enc_len, enc_len]; omega), newC_all (by rw [enc_len, enc_len])]
theorem TN.temps {H : AHeap} {C w ld : Int} {l : List Str} {i8 i9 : Nat} {a' : Option Addr} {cap' : Nat} {fr to wn : Int} {co pl : List Int} {v12 v13 : Value} {e e' : VT} {H' : AHeap} (I : TN H C w ld l i8 i9 a' cap' fr to wn co pl v12 v13 e H') (h : Keep 224 [7, 8, 9, 10, 11, 12, 13] e e') : TN H C w ld l i8 i9 a' cap' fr to wn co pl v12 v13 e' H' := I.next (Fr.refl _) h
def Part (l lst : List Str) (co pl : List Int) (j : Nat) : Prop := lst.length = l.length ∧ ∀ (i : Nat) (s : Str), i < j → l[i]? = some s → lst[(tg pl (i : Int)).toNat]? = some (renS co s)
theorem Part.next {l lst : List Str} {co pl : List Int} {j : Nat} {s : Str} (h : Part l lst co pl j) (hp : pl.Perm (idx l.length)) (hs : l[j]? = some s) : Part l (lst.set (tg pl (j : Int)).toNat (renS co s)) co pl (j + 1) := by
 have hj := (List.getElem?_eq_some_iff.1 hs).1
 have hr := tg_range hp (x := (j : Int)) (by omega)
 refine ⟨by rw [List.length_set]; exact h.1, fun i r hi hr' => ?_⟩
 by_cases e : i = j
 ·subst e
  rw [hs] at hr'
  cases hr'
  rw [List.getElem?_set_self (by rw [h.1]; omega)]
 ·have hi' := (List.getElem?_eq_some_iff.1 hr').1
  have hr2 := tg_range hp (x := (i : Int)) (by omega)
  rw [List.getElem?_set_ne (fun e' => e (by have := tg_inj hp (x := (i : Int)) (y := (j : Int)) (by omega) (by omega) (by omega); omega))]
  exact h.2 i r (by omega) hr'
theorem Part.ren {C : Int} {l lst : List Str} {co pl : List Int} (h : Part l lst co pl l.length) (hc : co.Perm (idx C.toNat)) (hp : pl.Perm (idx l.length)) : Ren C l lst co pl := ⟨hc, hp, h.1, fun i s hs => h.2 i s (List.getElem?_eq_some_iff.1 hs).1 hs⟩
theorem ok_ren {C : Int} {co : List Int} {s : Str} (hc : co.Perm (idx C.toNat)) (h : OkS C s) : OkS C (renS co s) := by
 obtain ⟨h1, h2⟩ := h
 refine ⟨?_, h2⟩
 unfold bad1 at h1 ⊢
 simp only [Bool.or_eq_false_iff,decide_eq_false_iff_not] at h1 ⊢
 have q1 := off_iff.1 h1.1
 have q2 := off_iff.1 h1.2.1
 have p1 := tg_range hc (x := s.fr) (by omega)
 have p2 := tg_range hc (x := s.to) (by omega)
 refine ⟨off_iff.2 ?_, off_iff.2 ?_, fun e => h1.2.2 (tg_inj hc (by omega) (by omega) e)⟩
 ·show 0 ≤ tg co s.fr ∧ tg co s.fr ≤ C - 1; omega
 ·show 0 ≤ tg co s.to ∧ tg co s.to ≤ C - 1; omega
theorem Ren.okl {C : Int} {l l' : List Str} {co pl : List Int} (R : Ren C l l' co pl) (ho : ∀ s ∈ l, OkS C s) : ∀ s ∈ l', OkS C s := fun s' hs' => by
 obtain ⟨j, hj⟩ := List.getElem?_of_mem hs'
 obtain ⟨i, s, hi, rfl, -⟩ := R.back hj
 exact ok_ren R.cp (ho s (List.mem_of_getElem? hi))
structure TO (C : Int) (n : Nat) (lst : List Str) (i14 ks : Nat) (e : VT) (H' : AHeap) : Prop where
 g14 : gt 224 e 14 = .pointer (some ⟨i14, 0, none⟩)
 l14 : i14 < H'.size
 lks : ks < H'.size
 b14 : H'.get i14 = .rw [.int .i64 C, .slice (some ⟨ks, 0, none⟩) n n] 24 false []
 bks : H'.get ks = .rw (flat lst) 45 false []
theorem TO.next {C : Int} {n : Nat} {lst : List Str} {i14 ks : Nat} {e e' : VT} {H' H'' : AHeap} (I : TO C n lst i14 ks e H') (f : Fr H' H'') (h : Keep 224 [14] e e') : TO C n lst i14 ks e' H'' where
 g14 := (h 14 (by simp)).trans I.g14
 l14 := Nat.lt_of_lt_of_le I.l14 f.size
 lks := Nat.lt_of_lt_of_le I.lks f.size
 b14 := (f.same _ I.l14).trans I.b14
 bks := (f.same _ I.lks).trans I.bks
theorem Cu.at_ {H : AHeap} {v : Value} {ts : List Int} {k n : Nat} (h : Cu H v ts k) (hn : ts.length = n) (hp : 0 < n) : ∃ b r al, v = .slice (some ⟨b, 0, none⟩) n (OPEN + 1) ∧ k < b ∧ b < H.size ∧ H.get b = .rw (tv (ts ++ r)) 3 true al ∧ ∀ x : Int, 0 ≤ x → x < n → (tv (ts ++ r))[x.toNat]? = some (.int .i64 (tg ts x)) := by
 rcases h with ⟨_, h⟩ | ⟨b, r, al, h1, h2, h3, h4⟩
 ·rw [h] at hn; simp at hn; omega
 ·rw [hn] at h1
  refine ⟨b, r, al, h1, h2, h3, h4, fun x h0 hx => ?_⟩
  refine tvAt ?_
  rw [List.getElem?_append_left (by omega)]
  unfold tg
  rw [List.getD_eq_getElem?_getD, List.getElem?_eq_getElem (by omega)]
  rfl
def z45 : Value := .agg ⟨[intZ, intZ, intZ, intZ, intZ, intZ, .bool false, intZ, intZ]⟩
theorem st_mkS_22 : mkS tabA 22 = some (45, z45, 9, 72) := by kernel_rfl
theorem made_town : ∀ {n : Nat}, n ≤ 16 → (madeCells z45.cells (n * 9)).toList = zrow n ∧ allGrV (madeCells z45.cells (n * 9)).toList = true
 | 0, _ => by constructor <;> kernel_rfl
 | 1, _ => by constructor <;> kernel_rfl
 | 2, _ => by constructor <;> kernel_rfl
 | 3, _ => by constructor <;> kernel_rfl
 | 4, _ => by constructor <;> kernel_rfl
 | 5, _ => by constructor <;> kernel_rfl
 | 6, _ => by constructor <;> kernel_rfl
 | 7, _ => by constructor <;> kernel_rfl
 | 8, _ => by constructor <;> kernel_rfl
 | 9, _ => by constructor <;> kernel_rfl
 | 10, _ => by constructor <;> kernel_rfl
 | 11, _ => by constructor <;> kernel_rfl
 | 12, _ => by constructor <;> kernel_rfl
 | 13, _ => by constructor <;> kernel_rfl
 | 14, _ => by constructor <;> kernel_rfl
 | 15, _ => by constructor <;> kernel_rfl
 | 16, _ => by constructor <;> kernel_rfl
 | n + 17, h => by omega
theorem newMade_of {t : Operand → Option Value} {ty e : TypeId} {x : Operand} {z : Value} {sz bs : Nat} {m : Int} (hz : mkS T ty = some (e, z, sz, bs)) (hx : t x = some (.int .i64 m)) (h0 : 0 ≤ m) (hb : (bs : Int) * m ≤ 281474976710656) (hm : m ≤ 9223372036854775807) (hg : allGrV (madeCells z.cells (m.toNat * sz)).toList = true) :
  newMade T t ty x x = some (.sl m.toNat m.toNat, .rw (madeCells z.cells (m.toNat * sz)).toList e false []) := by
 unfold mkS at hz
 unfold newMade
 rw [hx]
 cases hu : T.und ty with
 | none => rw [hu] at hz; cases hz
 | some d =>
  cases d with
  | slice el =>
   rw [hu] at hz
   simp only at hz
   cases hie : T.inf el with
   | none => rw [hie] at hz; cases hz
   | some ie =>
    rw [hie] at hz
    simp only at hz
    cases hze : ie.zero with
    | none => rw [hze] at hz; cases hz
    | some ze =>
     rw [hze] at hz
     cases hz
     simp only [hie,hze,h0,hb,hm,hg,Int.le_refl,decide_true,Bool.and_self,cond_true]
  | _ => rw [hu] at hz; cases hz
theorem tm_mk {ty : TypeId} {x y : Operand} : tmpsOf (Op.makeSlice ty x y).operands.toList = tmpsOf [x, y] := nr rfl
def madeK (v : Value) (k : Nat) (H : AHeap) (Q : Value → Prop) (_ : Tag Q := .mk) : Prop := match newMade tabA (fun _ => some v) 22 (.tmp 0) (.tmp 0) with
 | some (p, blk) => (H.get k = blk ∧ k < H.size) ∧ Q (mkV p k)
 | none => False
theorem newK_mk {t : Operand → Option Value} {x : Operand} {k : Nat} {H : AHeap} {Q : Value → Prop} : newK tabA t (.makeSlice 22 x x) k H Q = optK (t x) fun v => madeK v k H Q := by
 show (match newMade tabA t 22 x x with
  | some (p, blk) => (H.get k = blk ∧ k < H.size) ∧ Q (mkV p k)
  | none => False) = _
 cases hx : t x with
 | none =>
  have : newMade tabA t 22 x x = none := by
   unfold newMade
   rw [hx]
   cases tabA.und 22 with
   | none => rfl
   | some d => cases d <;> rfl
  rw [this]; rfl
 | some v =>
  have : newMade tabA t 22 x x = newMade tabA (fun _ => some v) 22 (.tmp 0) (.tmp 0) := by
   unfold newMade
   rw [hx]
  rw [this]; rfl
theorem madeK_int {n k : Nat} {H : AHeap} {Q : Value → Prop} (hn : n ≤ 16) : madeK (.int .i64 (n : Nat)) k H Q = andK (H.get k = .rw (zrow n) 45 false []) (andK (k < H.size) (Q (.slice (some ⟨k, 0, none⟩) n n))) := by
 unfold madeK
 obtain ⟨h1, h2⟩ := made_town hn
 rw [newMade_of (m := (n : Int)) st_mkS_22 rfl (by omega) (by omega) (by omega) (by rw [Int.toNat_natCast]; exact h2)]
 simp only [Int.toNat_natCast,h1,andK,and_assoc]
 rfl
section
variable {R : Exit → ES → Prop} {c c' : Code} {C w ld fr to wn : Int} {l : List Str} {i8 i9 cap' : Nat} {a' : Option Addr} {co pl : List Int} {v12 v13 : Value} {e : VT} {H' : AHeap}
set_option maxHeartbeats 4000000 in
set_option maxRecDepth 10000 in
theorem c16b (X : Nx C w ld l a' cap' fr to wn co pl) (I : TN H C w ld l i8 i9 a' cap' fr to wn co pl v12 v13 e H') (hc : c = sub [true, true, true, true, true, true, true] (bodyOf Try.f16)) (hc' : c' = sub [true, true, true, true, true, true] (bodyOf Try.f16))
  (hr : ∀ e H'' i14 ks, TN H C w ld l i8 i9 a' cap' fr to wn co pl v12 v13 e H' → Fr H' H'' → TO C l.length (List.replicate l.length zStr) i14 ks e H'' → (H'.size ≤ i14 ∧ H'.size ≤ ks ∧ ks ≠ i14) → W tabA Try.prog (N + 23993) none c H.size ⟨224, e, H'', []⟩ R) :
  W tabA Try.prog (N + 23994) none c' H.size ⟨224, e, H', []⟩ R := by
 subst hc hc'
 simp only [Try.f16,bodyOf,sub_nil,sub_seq0,sub_seq1,sub_block,sub_loop,sub_cond0,sub_cond1] at hr ⊢
 have hl16 := X.hl
 have sz := I.q.fr.size
 have g7 := I.q.g8
 have b7 := I.q.b8
 refine W_seqI (fun e' H'' => TN H C w ld l i8 i9 a' cap' fr to wn co pl v12 v13 e' H' ∧ Fr H' H'' ∧ TO C l.length (List.replicate l.length zStr) (H'.size + 1) H'.size e' H'') ?_ ?_
 rotate_left
 ·rintro e H'' ⟨I, f, O⟩
  exact hr _ _ _ _ I f O (by omega)
 refine W_drawR (pl := [(5, .rw (zrow l.length) 45 false []), (7, .rw [intZ, .slice none 0 0] 24 false [])]) [8] [(7, 1)] (planN rfl g7 b7) (by kernel_rfl) (by kernel_rfl) (by kernel_rfl) (by first|omega|(simp only [yz]<;>omega)) ?_
 obtain ⟨A, hA⟩ : ∃ A : ABlk, ABlk.rw (zrow l.length) 45 false [] = A := ⟨_, rfl⟩
 have l8 := I.q.l8
 have y8 : ((H'.alloc A).alloc (.rw [intZ, .slice none 0 0] 24 false [])).get i8 = .rw [.int .i64 C, .slice a' l.length cap'] 24 false [] := by rw [zdb (by first|omega|(simp only [yz]<;>omega)), zdb (by omega)]; exact b7
 have yk : ((H'.alloc A).alloc (.rw [intZ, .slice none 0 0] 24 false [])).get H'.size = A := by rw [zdb (by first|omega|(simp only [yz]<;>omega)), zda rfl]
 have yk1 : ((H'.alloc A).alloc (.rw [intZ, .slice none 0 0] 24 false [])).get (H'.size + 1) = .rw [intZ, .slice none 0 0] 24 false [] := by rw [zda (by first|omega|(simp only [yz]<;>omega))]
 have al24 : alS tabA 24 = some [intZ, .slice none 0 0] := by kernel_rfl
 simp (disch:=first|(simp only [yk,seval];done)|omega|(simp only [yz]<;>omega)|fail) only [↓yp,yq0,yq1,yq2,yq3,yq4,yl,ys0,ys1,seval,zed,zee,zfr,zhw,ysu,yrg,ysv,ysw,ysx,ysz,ysa,g7,y8,lenV_slice zio,newK_mk,tm_mk,madeK_int,A_build zil,hA,yk,al24,yk1]
 refine ⟨I.temps (by (with_reducible repeat first|refine Keep.put ?_ (by decide)|refine Keep.none ?_|assumption|exact Keep.refl _ _ _)), Fr.put (Fr.allocd (Fr.alloc _ _) _) (by omega) _, ?_, by (first | omega | (simp only [yz] <;> omega)), by (first | omega | (simp only [yz] <;> omega)), ?_, ?_⟩
 ·simp (disch:=first|(simp only [yk,seval];done)|omega|(simp only [yz]<;>omega)|fail) only [yg,seval]
 ·rw [zdc (by first|omega|(simp only [yz]<;>omega))]
 ·rw [zdd (by omega), yk, ← hA, zrow_flat]
set_option maxHeartbeats 4000000 in
set_option maxRecDepth 10000 in
theorem c16l {i14 ks : Nat} {H₀ : AHeap} (X : Nx C w ld l a' cap' fr to wn co pl) (I : TN H C w ld l i8 i9 a' cap' fr to wn co pl v12 v13 e H₀) (f0 : Fr H₀ H') (O : TO C l.length (List.replicate l.length zStr) i14 ks e H') (hk : H₀.size ≤ i14 ∧ H₀.size ≤ ks ∧ ks ≠ i14)
  (hc : c = sub [true, true, true, true, true, true, true, true] (bodyOf Try.f16)) (hc' : c' = sub [true, true, true, true, true, true, true] (bodyOf Try.f16))
  (hr : ∀ e H'' lst, TN H C w ld l i8 i9 a' cap' fr to wn co pl v12 v13 e H'' → TO C l.length lst i14 ks e H'' → Ren C l lst co pl → W tabA Try.prog (N + 23992) none c H.size ⟨224, e, H'', []⟩ R) :
  W tabA Try.prog (N + 23993) none c' H.size ⟨224, e, H', []⟩ R := by
 subst hc hc'
 simp only [Try.f16,bodyOf,sub_nil,sub_seq0,sub_seq1,sub_block,sub_loop,sub_cond0,sub_cond1] at hr ⊢
 have hl16 := X.hl
 have hC := X.hC
 have sz := I.q.fr.size
 refine W_seqI (fun e' H'' => ∃ lst, TN H C w ld l i8 i9 a' cap' fr to wn co pl v12 v13 e' H'' ∧ TO C l.length lst i14 ks e' H'' ∧ Ren C l lst co pl) ?_ ?_
 rotate_left
 ·rintro e H'' ⟨lst, I, O, R⟩
  exact hr _ _ _ I O R
 have I' := I.next f0 (Keep.refl _ _ _)
 have f0s := f0.size
 have g7 := I'.q.g8
 have b7 := I'.q.b8
 simp (disch:=first|(simp only [yk,seval];done)|omega|(simp only [yz]<;>omega)|fail) only [↓yp,yq0,yq1,yq2,yq3,yq4,yl,ys0,ys1,seval,zed,zee,zfr,zhw,ysu,yrg,ysv,ysw,ysx,ysz,ysa,g7,b7,lenV_slice zio]
 refine W_while (n := 224) 300 (fun k e' H'' => ∃ (j : Nat) (lst : List Str), k = l.length - j ∧ j ≤ l.length ∧ gt 224 e' 72 = .int .i64 (j : Nat) ∧ gt 224 e' 71 = .int .i64 l.length ∧ gt 224 e' 70 = .slice a' l.length cap' ∧ Keep 224 [7, 8, 9, 10, 11, 12, 13, 14] e e' ∧ Fr H₀ H'' ∧ TO C l.length lst i14 ks e' H'' ∧ Part l lst co pl j)
  ?_ 16 l.length ⟨0, List.replicate l.length zStr, by omega, by omega, by simp (disch:=first|(simp only [yk,seval];done)|omega|(simp only [yz]<;>omega)|fail) only [yg,seval] <;> rfl, by simp (disch:=first|(simp only [yk,seval];done)|omega|(simp only [yz]<;>omega)|fail) only [yg,seval], by simp (disch:=first|(simp only [yk,seval];done)|omega|(simp only [yz]<;>omega)|fail) only [yg,seval], by (with_reducible repeat first|refine Keep.put ?_ (by decide)|refine Keep.none ?_|assumption|exact Keep.refl _ _ _), f0, O.next (Fr.refl _) (by (with_reducible repeat first|refine Keep.put ?_ (by decide)|refine Keep.none ?_|assumption|exact Keep.refl _ _ _)), ⟨by simp, fun i s h => by omega⟩⟩ (by omega) (by omega)
 rintro M1 k1 e2 H2 ⟨j, lst, rfl, hj, g72, g71, g70, hkp, f2, O2, P2⟩
 have f2s := f2.size
 have J := I.next f2 (fun p hp => hkp p (by simp at hp ⊢; omega))
 simp (disch:=first|(simp only [yk,seval];done)|omega|(simp only [yz]<;>omega)|fail) only [↓yp,yq0,yq1,yq2,yq3,yq4,yl,ys0,ys1,seval,zed,zee,zfr,zhw,ysu,yrg,ysv,ysw,ysx,ysz,ysa,g72,g71]
 refine ⟨fun hA => ?_, fun hA => ?_⟩
 rotate_left
 ·have hj' : j = l.length := by have := of_decide_eq_false hA; omega
  subst hj'
  simp (disch:=first|(simp only [yk,seval];done)|omega|(simp only [yz]<;>omega)|fail) only [↓yp,yq0,yq1,yq2,yq3,yq4,yl,ys0,ys1,seval,zed,zee,zfr,zhw,ysu,yrg,ysv,ysw,ysx,ysz,ysa]
  exact ⟨lst, J.next (Fr.refl _) (by (with_reducible repeat first|refine Keep.put ?_ (by decide)|refine Keep.none ?_|assumption|exact Keep.refl _ _ _)), O2.next (Fr.refl _) (by (with_reducible repeat first|refine Keep.put ?_ (by decide)|refine Keep.none ?_|assumption|exact Keep.refl _ _ _)), P2.ren X.hco X.hpl⟩
 have hj' : j < l.length := by have := of_decide_eq_true hA; omega
 have hw2 : w64 ((j : Int) + 1) = ((j + 1 : Nat) : Int) := by rw [w64_of (by omega)]; omega
 obtain ⟨s, hs⟩ : ∃ s, l[j]? = some s := ⟨l[j], by simp [hj']⟩
 have hst := X.good.st s (List.mem_of_getElem? hs)
 have hfr := hst.1
 have hto := hst.2.1
 obtain ⟨bb, o, cl, rfl, hb1, hcc, hp⟩ := J.q.sl.get (fun h => by rw [h] at hj'; simp at hj')
 have hpi := hp j s hs
 simp only [Str.enc] at hpi
 have hcl : co.length = C.toNat := by rw [X.hco.length_eq, idx_len]
 have hpl : pl.length = l.length := by rw [X.hpl.length_eq, idx_len]
 obtain ⟨b12, r12, al12, hv12, s1, s2, s3₀, s4⟩ := I.cc.at_ hcl (by omega)
 have s3 := (f2.same _ s2).trans s3₀
 obtain ⟨b13, r13, al13, hv13, t1, t2, t3₀, t4⟩ := I.cp.at_ hpl (by omega)
 have t3 := (f2.same _ t2).trans t3₀
 have q1 := s4 s.fr (by omega) (by omega)
 have q2 := s4 s.to (by omega) (by omega)
 have q3 := t4 (j : Int) (by omega) (by omega)
 have hpr := tg_range X.hpl (x := (j : Int)) (by omega)
 obtain ⟨pn, hpn⟩ : ∃ pn : Nat, tg pl (j : Int) = pn := ⟨(tg pl (j : Int)).toNat, by omega⟩
 rw [hpn] at q3 hpr
 rw [Int.toNat_natCast] at q3
 obtain ⟨x, hx⟩ : ∃ x, tg co s.fr = x := ⟨_, rfl⟩
 obtain ⟨y, hy⟩ : ∃ y, tg co s.to = y := ⟨_, rfl⟩
 rw [hx] at q1
 rw [hy] at q2
 have g12 := J.g12.trans hv12
 have g13 := J.g13.trans hv13
 have g14 := O2.g14
 have b14 := O2.b14
 have bks := O2.bks
 have l14 := O2.l14
 have lks := O2.lks
 simp (disch:=first|(simp only [yk,seval];done)|omega|(simp only [yz]<;>omega)|fail) only [↓yp,yq0,yq1,yq2,yq3,yq4,yl,ys0,ys1,seval,zed,zee,zfr,zhw,ysu,yrg,ysv,ysw,ysx,ysz,ysa,g72,g70,A_indexSlice zio,hcc,hpi]
 refine W_drawR (pl := []) [11, 13] [(2, 1), (2, 2), (7, 2)] (planB_of rfl (by decide) (by decide) rfl) (by kernel_rfl) (by kernel_rfl) (by kernel_rfl) (by first|omega|(simp only [yz]<;>omega)) ?_
 simp (disch:=first|(simp only [yk,seval];done)|omega|(simp only [yz]<;>omega)|fail) only [↓yp,yq0,yq1,yq2,yq3,yq4,yl,ys0,ys1,seval,zed,zee,zfr,zhw,ysu,yrg,ysv,ysw,ysx,ysz,ysa,g72,g70,g12,A_indexSlice zir,s3,q1,q2]
 refine W_abs (F := fun e3 H3 => Fr H2 H3 ∧ H2.size < H3.size ∧ H3.get H2.size = .rw [.int .i64 x, .int .i64 y, .int .i64 s.mi, .int .i64 s.up, .int .i64 s.wi, .int .i64 s.be, .bool s.bk, .int .i64 s.lo, .int .i64 s.hi] 45 false [] ∧ gt 224 e3 16 = .pointer (some ⟨H2.size, 0, none⟩) ∧ gt 224 e3 15 = .int .i64 (j : Nat) ∧ Keep 224 [7, 8, 9, 10, 11, 12, 13, 14, 70, 71, 72] e2 e3) ⟨?_, ?_, ?_, ?_, ?_, ?_⟩ ?_
 ·(repeat (first | exact Fr.refl _ | assumption | refine Fr.allocd ?_ _ | refine Fr.put ?_ (by first | omega | (simp only [yz] <;> omega)) _))
 ·(first | omega | (simp only [yz] <;> omega))
 ·rw [zdc (by first|omega|(simp only [yz]<;>omega))]
 ·simp (disch:=first|(simp only [yk,seval];done)|omega|(simp only [yz]<;>omega)|fail) only [yg,seval]
 ·simp (disch:=first|(simp only [yk,seval];done)|omega|(simp only [yz]<;>omega)|fail) only [yg,seval]
 ·(with_reducible repeat first|refine Keep.put ?_ (by decide)|refine Keep.none ?_|assumption|exact Keep.refl _ _ _)
 rintro e3 H3 ⟨f3, sz3, b16, g16, g15, hk3⟩
 have hfl : (flat lst).length = l.length * 9 := by rw [flat_length, P2.1]
 have hfit : decide (pn * 9 + 9 ≤ (flat lst).length) = true := decide_eq_true (by omega)
 have hN := newC_flat (l := lst) (k := pn) (s := renS co s) (by rw [P2.1]; omega)
 simp only [zee,Str.enc,renS,hx,hy,List.length_cons,List.length_nil,Nat.reduceAdd,Nat.zero_add] at hN
 have P3 := P2.next X.hpl hs
 rw [hpn, Int.toNat_natCast] at P3
 simp only [renS,hx,hy] at P3
 have g12' := (hk3 12 (by simp)).trans g12
 have g13' := (hk3 13 (by simp)).trans g13
 have g14' := (hk3 14 (by simp)).trans g14
 have g72' := (hk3 72 (by simp)).trans g72
 have b14' := (f3.same _ l14).trans b14
 have bks' := (f3.same _ lks).trans bks
 have t3' := (f3.same b13 (by omega)).trans t3
 obtain ⟨nb, hnb⟩ : ∃ nb : ABlk, ABlk.rw (flat (lst.set pn { fr := x, to := y, mi := s.mi, up := s.up, wi := s.wi, be := s.be, bk := s.bk, lo := s.lo, hi := s.hi })) 45 false [] = nb := ⟨_, rfl⟩
 have p14 : (H3.put ks nb).get i14 = .rw [.int .i64 C, .slice (some ⟨ks, 0, none⟩) l.length l.length] 24 false [] := by rw [zdd (by omega)]; exact b14'
 have p13 : (H3.put ks nb).get b13 = .rw (tv (pl ++ r13)) 3 true al13 := by rw [zdd (by omega)]; exact t3'
 have p16 : (H3.put ks nb).get H2.size = .rw [.int .i64 x, .int .i64 y, .int .i64 s.mi, .int .i64 s.up, .int .i64 s.wi, .int .i64 s.be, .bool s.bk, .int .i64 s.lo, .int .i64 s.hi] 45 false [] := by rw [zdd (by omega)]; exact b16
 refine W_draw [8] rfl (by kernel_rfl) (by kernel_rfl) (by first|omega|(simp only [yz]<;>omega)) ?_
 simp (disch:=first|(simp only [yk,seval];done)|omega|(simp only [yz]<;>omega)|fail) only [↓yp,yq0,yq1,yq2,yq3,yq4,yl,ys0,ys1,seval,zed,zee,zfr,zhw,ysu,yrg,ysv,ysw,ysx,ysz,ysa,g13',g14',g15,g16,b14',b16,A_indexSlice zir,A_indexSlice zio,t3',q3,bks',hfit,hN,hnb,p14,p13,p16,g72',hw2]
 have hk0 : Keep 224 [7, 8, 9, 10, 11, 12, 13, 14] e e3 := fun p hp => (hk3 p (by simp at hp ⊢; omega)).trans (hkp p hp)
 have fks : Fr H₀ (H3.put ks nb) := Fr.put (f2.trans f3) hk.2.1 _
 refine ⟨l.length - (j + 1), by omega, j + 1, _, rfl, by omega, ?_, ?_, ?_, ?_, fks, ⟨?_, by (first | omega | (simp only [yz] <;> omega)), by (first | omega | (simp only [yz] <;> omega)), p14, by rw [zdc (by omega), ← hnb]⟩, P3⟩
 ·simp (disch:=first|(simp only [yk,seval];done)|omega|(simp only [yz]<;>omega)|fail) only [yg,seval]
 ·simp (disch:=first|(simp only [yk,seval];done)|omega|(simp only [yz]<;>omega)|fail) only [yg,seval,(hk3 71 (by simp)).trans g71]
 ·simp (disch:=first|(simp only [yk,seval];done)|omega|(simp only [yz]<;>omega)|fail) only [yg,seval,(hk3 70 (by simp)).trans g70]
 ·(with_reducible repeat first|refine Keep.put ?_ (by decide)|refine Keep.none ?_|assumption|exact Keep.refl _ _ _)
 ·simp (disch:=first|(simp only [yk,seval];done)|omega|(simp only [yz]<;>omega)|fail) only [yg,seval,g14']
end
end Go.Am
