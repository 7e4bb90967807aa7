import Derived.Test.YtjpcaamfcfkmhaaT40
set_option linter.unusedSimpArgs false
set_option linter.unusedVariables false
namespace Go.Am.K
open Go.Proofs
variable {T : Tab} {P : Program} {N L : Nat} {H H' H'' : AHeap} {Q : Bool → Value → AHeap → Prop}
section
variable {a a' al : Option Addr} {cap cap' cl : Nat} {ps : List Pk} {gs : List Gd} {lots : Int} {l m : List Int}
structure LtR (H : AHeap) (a a' al : Option Addr) (ps : List Pk) (gs : List Gd) (lots : Int) (l : List Int) : Prop where
 st : StR H a a' ps gs lots
 rl : Rw intE H al l
 lo : LotOk ps l
theorem LtR.fr (h : LtR H a a' al ps gs lots l) (f : Fr H H') : LtR H' a a' al ps gs lots l := ⟨h.st.fr f, h.rl.fr f, h.lo⟩
theorem LtR.l1 (h : LtR H a a' al ps gs lots l) : 1 ≤ l.length := by rw [h.lo.len]; exact h.st.st.l1
theorem LtR.l4 (h : LtR H a a' al ps gs lots l) : l.length ≤ 4 := by rw [h.lo.len]; exact h.st.st.l4
theorem LtR.mx4 (h : LtR H a a' al ps gs lots l) : (mx l).length = 4 := mx_len h.l4
theorem LtR.in_ (h : LtR H a a' al ps gs lots l) : ∀ n ∈ mx l, 0 ≤ n ∧ n ≤ 6 := mx_in (h.lo.in h.st.pk)
theorem LtR.c78 (h : LtR H a a' al ps gs lots l) {mk : Nat} : acall tabA (aexec tabA Try.prog (N + 300)) 78 [.agg ⟨[.slice a ps.length cap, .slice a' gs.length cap', .int .i64 lots, .map (some mk)]⟩, .agg ⟨tv (mx l)⟩, .agg ⟨[.func (.func (endF false)) ⟨[]⟩ ⟨[]⟩]⟩] H = some (true, .int .i64 (isum (fo false ps l)), H, H.size) := by
 have := K.c78 (N := N) (s := false) (cap := cap) (g := .slice a' gs.length cap') (lo := .int .i64 lots) (mp := .map (some mk)) h.st.hs h.st.st.l4 h.st.pk h.mx4 h.in_
 rw [fo_pad h.lo.len] at this
 exact this
theorem LtR.c76 (h : LtR H a a' al ps gs lots l) {H' : AHeap} : acall tabA (aexec tabA Try.prog (N + 200)) 76 [.agg ⟨tv (mx l)⟩] H' = some (true, .int .i64 (isum l), H', H'.size) := by
 have := K.c76 (N := N) (H := H') (t := mx l) h.mx4 fun x hx => by have := h.in_ x hx; omega
 rw [mx_sum] at this
 exact this
theorem fo_le6 {s : Bool} : ∀ {ps : List Pk} {l : List Int}, (∀ p ∈ ps, p.Ok) → LotOk ps l → ∀ x ∈ fo s ps l, 0 ≤ x ∧ x ≤ 12 := fun hk ho x hx => fo_mem hk (ho.in hk) hx
theorem LtR.fo (h : LtR H a a' al ps gs lots l) {s : Bool} : 0 ≤ isum (fo s ps l) ∧ isum (fo s ps l) ≤ 48 := by
 have := isum_le (l := Go.Am.fo s ps l) (m := 12) (fo_le6 h.st.pk h.lo)
 rw [fo_len (by rw [h.lo.len]; exact Nat.le_refl _)] at this
 have := h.st.st.l4
 omega
end
end Go.Am.K
namespace Go.Am.K
open Go.Proofs
variable {T : Tab} {P : Program} {N L : Nat} {H H' H'' : AHeap} {Q : Bool → Value → AHeap → Prop}
section
variable {a a' al : Option Addr} {cap cap' cl mk : Nat} {ps : List Pk} {gs : List Gd} {lots : Int} {l m : List Int} {op fd : Int}
theorem four (h : m.length = 4) : ∃ p q r s : Int, m = [p, q, r, s] := by
 match m, h with
 | [p, q, r, s], _ => exact ⟨p, q, r, s, rfl⟩
end
end Go.Am.K
namespace Go.Am.K
open Go.Proofs
variable {T : Tab} {P : Program} {N L : Nat} {H H' H'' : AHeap} {Q : Bool → Value → AHeap → Prop}
section
variable {a a' al : Option Addr} {cap cap' cl mk : Nat} {ps : List Pk} {gs : List Gd} {lots : Int} {l m : List Int} {op fd : Int}
end
end Go.Am.K
