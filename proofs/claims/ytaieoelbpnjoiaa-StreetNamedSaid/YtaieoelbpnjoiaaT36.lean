import Derived.Test.YtaieoelbpnjoiaaT35
import Derived.Test.YtaieoelbpnjoiaaT33
import Derived.Test.YtaieoelbpnjoiaaT31
import Derived.Test.YtaieoelbpnjoiaaT26
import Derived.Test.YtaieoelbpnjoiaaT32
set_option linter.unusedSimpArgs false
set_option linter.unusedVariables false
namespace Go.Am
open Go.Proofs
variable {T : Tab} {P : Program} {N L : Nat} {H : AHeap} {Q : Bool → Value → AHeap → Prop}
section
variable {ty : TypeId} {x y : Operand}
theorem binV_nil_someN {l c z : Nat} {a : Addr} (h : esS T ty = some z) : binV T P .neq ty x y (.slice (some a) l c) (.slice none 0 0) = some (.bool true) := by
 unfold esS at h
 unfold binV nilV
 rw [show gr (.slice (some a) l c) = false from rfl]
 simp only [Bool.false_and,cond_false]
 cases hu : T.und ty with
 | none => rw [hu] at h; cases h
 | some d => cases d <;> first | rfl | (rw [hu] at h; cases h)
end
theorem asked_zero {C w ld : Int} {l : List Str} {cs ms : List Int} (hC : 1 ≤ C ∧ C ≤ 8) (hl : l.length ≤ 16) (ho : ∀ s ∈ l, OkS C s) (hw : 1 ≤ w ∧ w ≤ 9) (hd : 0 ≤ ld ∧ ld ≤ 9) (h1 : ∀ n ∈ cs, 0 ≤ n ∧ n ≤ C - 1) (h3 : ∀ n ∈ ms, 0 ≤ n ∧ n ≤ 240) : asked C l w ld cs [] ms = 0 :=
 asked_of (chk_of hC hl ho) (off_iff.2 hw) (off_iff.2 hd) h1 (by simp) h3
theorem Late.mono {l : List Str} {w ld to bm bm' m x : Int} (h : Late l w ld to bm m x) (hb : bm ≤ bm') (h0 : 0 ≤ bm) : Late l w ld to bm' m x := by
 induction h with
 | stop => exact Late.sooner .stop hb h0
 | wait _ hm ih => exact ih.wait hm
 | go _ hi hm hs h0' ih => exact ih.go hi hm hs h0'
section
variable {l : List Str} {C w ld : Int} {a : Option Addr} {cap : Nat}
set_option maxHeartbeats 1000000 in
theorem c52 {fr m : Int} (hs : Sl H a l) (hl : l.length ≤ 18) (h0 : asked C l w ld [fr] [] [m] = 0) (hL : L ≤ H.size) {M : Nat} (hM : 5500 ≤ M)
  (hq : ∀ k cap' H', Fr H H' → H.size ≤ k → k < H'.size → H'.get k = .rw (tv ((earT C l w ld fr m).take C.toNat)) 3 true [] → Q false (.slice (some ⟨k, 0, none⟩) C.toNat cap') H') :
  resK (acall tabA (aexec tabA Try.prog M) 52 [.agg ⟨[.int .i64 C, .slice a l.length cap]⟩, .agg ⟨[.int .i64 w, .int .i64 ld]⟩, .int .i64 fr, .int .i64 m] H) L Q := by
 obtain ⟨N, rfl⟩ : ∃ N, M = N + 5500 := ⟨M - 5500, by omega⟩
 refine call_fls (R := fun v H' => ∃ k cap', v = .slice (some ⟨k, 0, none⟩) C.toNat cap' ∧ Fr H H' ∧ H.size ≤ k ∧ k < H'.size ∧ H'.get k = .rw (tv ((earT C l w ld fr m).take C.toNat)) 3 true []) (k := 29) (rs := [.tmp 8]) rfl fn_52 rfl rfl rfl hL ?_ ?_ ?_
 rotate_left
 ·rintro v H' ⟨k, cap', rfl, -⟩; rfl
 ·rintro v H' ⟨k, cap', rfl, h1, h2, h3, h4⟩
  exact hq _ _ _ h1 h2 h3 h4
 obtain ⟨hc, hw, hd, hcs, -, hms⟩ := asked_ok h0
 have g := good_of hc hd
 have hC := g.hC
 have hcc : decide (((C.toNat : Nat) : Int) = C) = true := by simp; omega
 simp (disch:=first|(simp only [yk,seval];done)|omega|(simp only [yz]<;>omega)|fail) only [↓yp,yq0,yq1,yq2,yq3,yq4,yl,ys0,ys1,seval,zed,zee,zfr,zhw,ysu,yrg,ysv]
 refine c32k (hs.fr (by repeat first|exact Fr.refl _|assumption|refine Fr.allocd ?_ _|refine Fr.put ?_ (by first|omega|(simp only [yz]<;>omega)) _)) hl h0 (by first|omega|(simp only [yz]<;>omega)) (by omega) ?_
 intro k cap' H3 fr3 h1 h2 h3
 have f3 := fr3.size
 have s3 := fr3.same
 simp only [zde] at f3 h1
 simp (disch:=first|(simp only [yk,seval];done)|omega|(simp only [yz]<;>omega)|fail) only [↓yp,yq0,yq1,yq2,yq3,yq4,yl,ys0,ys1,seval,zed,zee,zfr,zhw,ysu,yrg,ysv,s3,lenV_slice zir,hcc]
 exact ⟨k, cap', rfl, Fr.trans (by repeat first|exact Fr.refl _|assumption|refine Fr.allocd ?_ _|refine Fr.put ?_ (by first|omega|(simp only [yz]<;>omega)) _) fr3, by omega, h2, h3⟩
structure LP (n : Nat) (H : AHeap) (C w ld : Int) (l : List Str) (i8 i9 : Nat) (a' : Option Addr) (cap' : Nat) (e : VT) (H' : AHeap) : Prop where
 g8 : gt n e 8 = .pointer (some ⟨i8, 0, none⟩)
 g9 : gt n e 9 = .pointer (some ⟨i9, 0, none⟩)
 fr : Fr H H'
 l8 : i8 < H'.size
 l9 : i9 < H'.size
 b8 : H'.get i8 = .rw [.int .i64 C, .slice a' l.length cap'] 24 false []
 b9 : H'.get i9 = .rw [.int .i64 w, .int .i64 ld] 26 false []
 sl : Sl H' a' l
theorem LP.next {n i8 i9 : Nat} {a' : Option Addr} {cap' : Nat} {e e' : VT} {H' H'' : AHeap} (I : LP n H C w ld l i8 i9 a' cap' e H') (f : Fr H' H'') (h : Keep n [8, 9] e e') : LP n H C w ld l i8 i9 a' cap' e' H'' where
 g8 := (h 8 (by decide)).trans I.g8
 g9 := (h 9 (by decide)).trans I.g9
 fr := I.fr.trans f
 l8 := Nat.lt_of_lt_of_le I.l8 f.size
 l9 := Nat.lt_of_lt_of_le I.l9 f.size
 b8 := (f.same _ I.l8).trans I.b8
 b9 := (f.same _ I.l9).trans I.b9
 sl := I.sl.fr f
theorem aenv_nilp {n : Nat} {e : VT} : aenv n e (.const (.pointer none)) = some (.pointer none) := nr rfl
theorem Sl.frx {k : Nat} {a' ab : Option Addr} {bs : List Int} {cap : Nat} {H H' : AHeap} (h : Sl H a' l) (hc : Chu H k ab bs cap) (f : FrX k H H') : Sl H' a' l := by
 obtain ⟨u, s, hk, _⟩ := hc.blk
 have ne : ∀ b o s', l ≠ [] → a' = some ⟨b, o, s'⟩ → b ≠ k := by
  rintro b o s' hl rfl rfl
  obtain ⟨b', o', c', h1, h2, h3, h4⟩ := h.get hl
  cases h1
  rw [hk] at h3
  cases h3
  obtain ⟨s, hs⟩ : ∃ s, l[0]? = some s := ⟨l[0]'(List.length_pos_iff.2 hl), by simp⟩
  have := (part_row (h4 0 s hs))
  have h5 := this.2
  rw [← this.1] at h5
  simp only [List.length_take,List.length_drop,List.length_cons,List.length_nil] at h5
  omega
 refine ⟨fun hl => ?_, fun b o s c hl ha hcc => ?_⟩
 ·obtain ⟨b, o, c, h1, h2, h3, h4⟩ := h.get hl
  exact ⟨b, o, c, h1, Nat.lt_of_lt_of_le h2 f.size, by rw [f.same b h2 (ne b o none hl h1)]; exact h3, h4⟩
 ·obtain ⟨b', o', c', h1, h2, h3, h4⟩ := h.get hl
  have e := h1.symm.trans ha
  cases e
  rw [f.same _ h2 (ne _ _ _ hl h1)] at hcc
  exact h.row _ _ _ _ hl ha hcc
theorem LP.frx {n k i8 i9 : Nat} {a' ab : Option Addr} {bs : List Int} {capb cap' : Nat} {e e' : VT} {H' H'' : AHeap} (I : LP n H C w ld l i8 i9 a' cap' e H') (h8 : i8 ≠ k) (h9 : i9 ≠ k) (hk : H.size ≤ k) (hc : Chu H' k ab bs capb) (f : FrX k H' H'') (h : Keep n [8, 9] e e') : LP n H C w ld l i8 i9 a' cap' e' H'' where
 g8 := (h 8 (by decide)).trans I.g8
 g9 := (h 9 (by decide)).trans I.g9
 fr := f.above I.fr hk
 l8 := Nat.lt_of_lt_of_le I.l8 f.size
 l9 := Nat.lt_of_lt_of_le I.l9 f.size
 b8 := (f.same _ I.l8 h8).trans I.b8
 b9 := (f.same _ I.l9 h9).trans I.b9
 sl := I.sl.frx hc f
theorem take_at {t : List Int} {x : Int} (ht : t.length = 8) (hC : 1 ≤ C ∧ C ≤ 8) (hx : 0 ≤ x ∧ x < C) : (tv (t.take C.toNat))[x.toNat]? = some (.int .i64 (tg t x)) := by
 rw [tv_get (by rw [List.length_take]; omega)]
 unfold tg
 rw [List.getD_eq_getElem?_getD, List.getD_eq_getElem?_getD, List.getElem?_take, if_pos (by omega)]
structure Bts (H : AHeap) (a : Option Addr) (bs : List Int) : Prop where
 row : bs ≠ [] → ∃ b o c, a = some ⟨b, o, none⟩ ∧ b < H.size ∧ H.get b = .ro c ∧ ∀ i x, bs[i]? = some x → c[o + i]? = some (.int .u8 x)
 byte : ∀ x ∈ bs, 0 ≤ x ∧ x < 256
 len : bs.length < 9223372036854775808
theorem c48 {bs : List Int} (hb : Bts H a bs) (hL : L ≤ H.size) {M : Nat} (hM : 50 ≤ M) (hq : ∀ H', Fr H H' → H'.size = H.size + 1 → Chu H' H.size a bs cap → Q false (.pointer (some ⟨H.size, 0, none⟩)) H') :
  resK (acall tabA (aexec tabA Try.prog M) 48 [.slice a bs.length cap] H) L Q := by
 obtain ⟨N, rfl⟩ : ∃ N, M = N + 50 := ⟨M - 50, by omega⟩
 refine call_fls (R := fun v H' => v = .pointer (some ⟨H.size, 0, none⟩) ∧ Fr H H' ∧ H'.size = H.size + 1 ∧ Chu H' H.size a bs cap) (k := 6) (rs := [.tmp 2]) rfl fn_48 rfl rfl rfl hL ?_ ?_ ?_
 rotate_left
 ·rintro v H' ⟨rfl, -⟩; rfl
 ·rintro v H' ⟨rfl, h1, h2, h3⟩
  exact hq _ h1 h2 h3
 simp (disch:=first|(simp only [yk,seval];done)|omega|(simp only [yz]<;>omega)|fail) only [↓yp,yq0,yq1,yq2,yq3,yq4,yl,ys0,ys1,seval,zed,zee,zfr,zhw,ysu,yrg,ysv,A_build st_bdS_140,aenv_nilp]
 refine ⟨by (repeat (first | exact Fr.refl _ | assumption | refine Fr.allocd ?_ _ | refine Fr.put ?_ (by first | omega | (simp only [yz] <;> omega)) _)), ⟨by (first | omega | (simp only [yz] <;> omega)), ⟨0, 8191, zcz, by omega, by omega, by omega, by omega⟩, fun hne => ?_, hb.byte, hb.len⟩⟩
 obtain ⟨b, o, c, h1, h2, h3, h4⟩ := hb.row hne
 exact ⟨b, o, c, h1, by (first | omega | (simp only [yz] <;> omega)), by rw [zdb h2]; exact h3, h4⟩
end
end Go.Am
