import Derived.Test.YtaieoelbpnjoiaaT35
import Derived.Test.YtaieoelbpnjoiaaT33
import Derived.Test.YtaieoelbpnjoiaaT31
import Derived.Test.YtaieoelbpnjoiaaT26
import Derived.Test.YtaieoelbpnjoiaaT32
set_option linter.unusedSimpArgs false
set_option linter.unusedVariables false
namespace Go.Am
open Go.Proofs
variable {T : Tab} {P : Program} {N L : Nat} {H : AHeap} {Q : Bool → Value → AHeap → Prop}
section
variable {ty : TypeId} {x y : Operand}
end
theorem Late.mono {l : List Str} {w ld to bm bm' m x : Int} (h : Late l w ld to bm m x) (hb : bm ≤ bm') (h0 : 0 ≤ bm) : Late l w ld to bm' m x := by
  induction h with
  | stop => exact Late.sooner .stop hb h0
  | wait _ hm ih => exact ih.wait hm
  | go _ hi hm hs h0' ih => exact ih.go hi hm hs h0'
section
variable {l : List Str} {C w ld : Int} {a : Option Addr} {cap : Nat}
structure LP (n : Nat) (H : AHeap) (C w ld : Int) (l : List Str) (i8 i9 : Nat) (a' : Option Addr) (cap' : Nat) (e : VT) (H' : AHeap) : Prop where
  g8 : gt n e 8 = .pointer (some ⟨i8, 0, none⟩)
  g9 : gt n e 9 = .pointer (some ⟨i9, 0, none⟩)
  fr : Fr H H'
  l8 : i8 < H'.size
  l9 : i9 < H'.size
  b8 : H'.get i8 = .rw [.int .i64 C, .slice a' l.length cap'] 24 false []
  b9 : H'.get i9 = .rw [.int .i64 w, .int .i64 ld] 26 false []
  sl : Sl H' a' l
theorem LP.next {n i8 i9 : Nat} {a' : Option Addr} {cap' : Nat} {e e' : VT} {H' H'' : AHeap} (I : LP n H C w ld l i8 i9 a' cap' e H') (f : Fr H' H'') (h : Keep n [8, 9] e e') : LP n H C w ld l i8 i9 a' cap' e' H'' where
  g8 := (h 8 (by decide)).trans I.g8
  g9 := (h 9 (by decide)).trans I.g9
  fr := I.fr.trans f
  l8 := Nat.lt_of_lt_of_le I.l8 f.size
  l9 := Nat.lt_of_lt_of_le I.l9 f.size
  b8 := (f.same _ I.l8).trans I.b8
  b9 := (f.same _ I.l9).trans I.b9
  sl := I.sl.fr f
theorem aenv_nilp {n : Nat} {e : VT} : aenv n e (.const (.pointer none)) = some (.pointer none) := nr rfl
theorem Sl.frx {k : Nat} {a' ab : Option Addr} {bs : List Int} {cap : Nat} {H H' : AHeap} (h : Sl H a' l) (hc : Chu H k ab bs cap) (f : FrX k H H') : Sl H' a' l := by
  obtain ⟨u, s, hk, _⟩ := hc.blk
  have ne : ∀ b o s', l ≠ [] → a' = some ⟨b, o, s'⟩ → b ≠ k := by
    rintro b o s' hl rfl rfl
    obtain ⟨b', o', c', h1, h2, h3, h4⟩ := h.get hl
    cases h1
    rw [hk] at h3
    cases h3
    obtain ⟨s, hs⟩ : ∃ s, l[0]? = some s := ⟨l[0]'(List.length_pos_iff.2 hl), by simp⟩
    have := (part_row (h4 0 s hs))
    have h5 := this.2
    rw [← this.1] at h5
    simp only [List.length_take,List.length_drop,List.length_cons,List.length_nil] at h5
    omega
  refine ⟨fun hl => ?_, fun b o s c hl ha hcc => ?_⟩
  · obtain ⟨b, o, c, h1, h2, h3, h4⟩ := h.get hl
    exact ⟨b, o, c, h1, Nat.lt_of_lt_of_le h2 f.size, by rw [f.same b h2 (ne b o none hl h1)]; exact h3, h4⟩
  · obtain ⟨b', o', c', h1, h2, h3, h4⟩ := h.get hl
    have e := h1.symm.trans ha
    cases e
    rw [f.same _ h2 (ne _ _ _ hl h1)] at hcc
    exact h.row _ _ _ _ hl ha hcc
theorem LP.frx {n k i8 i9 : Nat} {a' ab : Option Addr} {bs : List Int} {capb cap' : Nat} {e e' : VT} {H' H'' : AHeap} (I : LP n H C w ld l i8 i9 a' cap' e H') (h8 : i8 ≠ k) (h9 : i9 ≠ k) (hk : H.size ≤ k) (hc : Chu H' k ab bs capb) (f : FrX k H' H'') (h : Keep n [8, 9] e e') : LP n H C w ld l i8 i9 a' cap' e' H'' where
  g8 := (h 8 (by decide)).trans I.g8
  g9 := (h 9 (by decide)).trans I.g9
  fr := f.above I.fr hk
  l8 := Nat.lt_of_lt_of_le I.l8 f.size
  l9 := Nat.lt_of_lt_of_le I.l9 f.size
  b8 := (f.same _ I.l8 h8).trans I.b8
  b9 := (f.same _ I.l9 h9).trans I.b9
  sl := I.sl.frx hc f
structure Bts (H : AHeap) (a : Option Addr) (bs : List Int) : Prop where
  row : bs ≠ [] → ∃ b o c, a = some ⟨b, o, none⟩ ∧ b < H.size ∧ H.get b = .ro c ∧ ∀ i x, bs[i]? = some x → c[o + i]? = some (.int .u8 x)
  byte : ∀ x ∈ bs, 0 ≤ x ∧ x < 256
  len : bs.length < 9223372036854775808
theorem c48 {bs : List Int} (hb : Bts H a bs) (hL : L ≤ H.size) {M : Nat} (hM : 50 ≤ M) (hq : ∀ H', Fr H H' → H'.size = H.size + 1 → Chu H' H.size a bs cap → Q false (.pointer (some ⟨H.size, 0, none⟩)) H') :
    resK (acall tabA (aexec tabA Try.prog M) 48 [.slice a bs.length cap] H) L Q := by
  obtain ⟨N, rfl⟩ : ∃ N, M = N + 50 := ⟨M - 50, by omega⟩
  refine call_fls (R := fun v H' => v = .pointer (some ⟨H.size, 0, none⟩) ∧ Fr H H' ∧ H'.size = H.size + 1 ∧ Chu H' H.size a bs cap) (k := 6) (rs := [.tmp 2]) rfl fn_48 rfl rfl rfl hL ?_ ?_ ?_
  rotate_left
  · rintro v H' ⟨rfl, -⟩; rfl
  · rintro v H' ⟨rfl, h1, h2, h3⟩
    exact hq _ h1 h2 h3
  simp (disch := (first | (simp only [yk,seval]; done) | omega | (simp only [yz] <;> omega) | fail)) only [↓yp,yq0,yq1,yq2,yq3,yq4,yl,ys0,ys1,seval,zed,zee,zfr,zhw,ysu,yrg,ysv,A_build st_bdS_140,aenv_nilp]
  refine ⟨by (repeat (first | exact Fr.refl _ | assumption | refine Fr.allocd ?_ _ | refine Fr.put ?_ (by first | omega | (simp only [yz] <;> omega)) _)), ⟨by (first | omega | (simp only [yz] <;> omega)), ⟨0, 8191, zcz, by omega, by omega, by omega, by omega⟩, fun hne => ?_, hb.byte, hb.len⟩⟩
  obtain ⟨b, o, c, h1, h2, h3, h4⟩ := hb.row hne
  exact ⟨b, o, c, h1, by (first | omega | (simp only [yz] <;> omega)), by rw [zdb h2]; exact h3, h4⟩
end
end Go.Am
