import Derived.Test.YtjpcaamfcfkmhaaT39
set_option linter.unusedSimpArgs false
set_option linter.unusedVariables false
namespace Go.Am.K
open Go.Proofs
variable {T : Tab} {P : Program} {N L : Nat} {H H' H'' : AHeap} {Q : Bool → Value → AHeap → Prop}
section
variable {ex : Exec} {t : Operand → Option Value}
end
structure LotOk (ps : List Pk) (l : List Int) : Prop where
 len : l.length = ps.length
 ok : ∀ (j : Nat) (n : Int) (p : Pk), l[j]? = some n → ps[j]? = some p → 0 ≤ n ∧ n ≤ p.s
section
variable {k cap pc cap' : Nat} {a pa pa' : Option Addr} {bs : List Int} {ps : List Pk} {lots : Value}
end
end Go.Am.K
namespace Go.Am.K
open Go.Proofs
variable {T : Tab} {P : Program} {N L : Nat} {H H' H'' : AHeap} {Q : Bool → Value → AHeap → Prop}
structure StR (H : AHeap) (a a' : Option Addr) (ps : List Pk) (gs : List Gd) (lots : Int) : Prop where
 hs : Rw pkE H a ps
 hg : Rw gdE H a' gs
 ok : chkS ps gs lots = 0
section
variable {a a' al : Option Addr} {cap cap' cl : Nat} {ps : List Pk} {gs : List Gd} {lots : Int} {l : List Int}
theorem StR.fr (h : StR H a a' ps gs lots) (f : Fr H H') : StR H' a a' ps gs lots := ⟨h.hs.fr f, h.hg.fr f, h.ok⟩
theorem StR.st (h : StR H a a' ps gs lots) : StOk ps gs lots := chkS_ok h.ok
theorem StR.pk (h : StR H a a' ps gs lots) : ∀ p ∈ ps, p.Ok := fun p hp => Pk.isB_ok (List.all_eq_true.1 h.st.pb p hp)
theorem StR.gd (h : StR H a a' ps gs lots) : ∀ g ∈ gs, g.Ok := fun g hg => by
 have := List.all_eq_true.1 h.st.gb g hg
 unfold Gd.isB wi at this
 simp only [Bool.and_eq_true,decide_eq_true_eq] at this
 exact ⟨this.1, by omega⟩
theorem LotOk.in (h : LotOk ps l) (hk : ∀ p ∈ ps, p.Ok) : ∀ n ∈ l, 0 ≤ n ∧ n ≤ 6 := fun n hn => by
 obtain ⟨j, hj⟩ := List.getElem?_of_mem hn
 have hlt := (List.getElem?_eq_some_iff.1 hj).1
 obtain ⟨p, hp⟩ : ∃ p, ps[j]? = some p := ⟨ps[j]'(by rw [← h.len]; exact hlt), by simp [show j < ps.length by rw [← h.len]; exact hlt]⟩
 have h1 := h.ok j n p hj hp
 have h2 := (hk p (List.mem_of_getElem? hp)).s
 omega
def mx (l : List Int) : List Int := pt l l.length
theorem mx_len (h : l.length ≤ 4) : (mx l).length = 4 := pt_len (Nat.le_refl _) h
theorem mx_in (h : ∀ n ∈ l, 0 ≤ n ∧ n ≤ 6) : ∀ n ∈ mx l, 0 ≤ n ∧ n ≤ 6 := fun n hn => by
 unfold mx pt at hn
 rw [List.take_length] at hn
 rcases List.mem_append.1 hn with hn | hn
 ·exact h n hn
 ·have := List.eq_of_mem_replicate hn; omega
theorem mx_sum : isum (mx l) = isum l := isum_pt
theorem fo_mx {s : Bool} : ∀ {ps : List Pk} {l r : List Int}, l.length = ps.length → fo s ps (l ++ r) = fo s ps l
 | [], [], _, _ => by simp [fo]
 | [], _ :: _, _, h => by simp at h
 | _ :: _, [], _, h => by simp at h
 | p :: ps, n :: l, r, h => by
  simp only [List.cons_append,fo]
  rw [fo_mx (by simpa using h)]
theorem fo_pad {s : Bool} (h : l.length = ps.length) : fo s ps (mx l) = fo s ps l := by
 unfold mx pt
 rw [List.take_length]
 exact fo_mx h
end
end Go.Am.K
