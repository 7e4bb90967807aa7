import Derived.Test.YtaieoelbpnjoiaaT31
import Derived.Test.YtaieoelbpnjoiaaT26
set_option linter.unusedSimpArgs false
set_option linter.unusedVariables false
namespace Go.Am
open Go.Proofs
variable {T : Tab} {P : Program} {N L : Nat} {H : AHeap} {Q : Bool → Value → AHeap → Prop}
structure SH (H₀ H H' : AHeap) (a : Option Addr) (n cap : Nat) (C w ld : Int) (ob : Nat) (al : List Nat) (th : List Bool) (out : List Int) : Prop where
 fr : Fr H₀ H'
 sz : H.size + 3 ≤ H'.size
 b7 : H'.get H.size = .rw [.int .i64 C, .slice a n cap] 34 false []
 b8 : H'.get (H.size + 1) = .rw [.int .i64 w, .int .i64 ld] 50 false []
 bt : H'.get (H.size + 1 + 1) = .rw (bv th) 4 false []
 bo : ∃ al', (∀ j ∈ al', j ∈ al) ∧ H'.get ob = .rw (tv out) 3 true al'
 old : ∀ k, k < H.size → k ≠ ob → k ∉ al → H'.get k = H.get k
theorem SH.th {H₀ H H' : AHeap} {a : Option Addr} {n cap ob : Nat} {C w ld : Int} {al : List Nat} {th : List Bool} {out : List Int} (h : SH H₀ H H' a n cap C w ld ob al th out) (h0 : H₀.size ≤ H.size) (hob : ob < H.size) (th' : List Bool) : SH H₀ H (H'.put (H.size + 1 + 1) (.rw (bv th') 4 false [])) a n cap C w ld ob al th' out where
 fr := h.fr.put (by omega) _
 sz := by rw [zdf]; exact h.sz
 b7 := by rw [zdd (by omega)]; exact h.b7
 b8 := by rw [zdd (by omega)]; exact h.b8
 bt := zdc (by have := h.sz; omega)
 bo := by rw [zdd (by omega)]; exact h.bo
 old k h1 h2 h3 := by rw [zdd (by omega)]; exact h.old k h1 h2 h3
theorem SH.out {H₀ H H' : AHeap} {a : Option Addr} {n cap ob : Nat} {C w ld : Int} {al al' : List Nat} {th : List Bool} {out : List Int} (h : SH H₀ H H' a n cap C w ld ob al th out) (h0 : H₀.size ≤ ob) (hob : ob < H.size) (hal : ∀ j ∈ al, H₀.size ≤ j ∧ j < H.size ∧ j ≠ ob) (ha : ∀ j ∈ al', j ∈ al) (out' : List Int) : SH H₀ H ((H'.kill al').put ob (.rw (tv out') 3 true [])) a n cap C w ld ob al th out' := by
 have hk : ∀ k, (k < H₀.size ∨ H.size ≤ k) → k ∉ al' := fun k hk hm => by have := hal k (ha k hm); omega
 have sz := h.sz
 refine ⟨Fr.put (Fr.kill h.fr fun j hj => (hal j (ha j hj)).1) h0 _, by rw [zdf, zdg]; exact sz, ?_, ?_, ?_, ⟨[], by simp, zdc (by rw [zdg]; omega)⟩, fun k h1 h2 h3 => ?_⟩
 ·rw [zdd (by omega), get_kill (hk _ (by omega))]; exact h.b7
 ·rw [zdd (by omega), get_kill (hk _ (by omega))]; exact h.b8
 ·rw [zdd (by omega), get_kill (hk _ (by omega))]; exact h.bt
 ·rw [zdd h2, get_kill (fun hm => h3 (ha k hm))]; exact h.old k h1 h2 h3
section
variable {H₀ : AHeap} {l : List Str} {C w ld fr a₀ : Int} {a : Option Addr} {cap ob oc : Nat} {al : List Nat}
end
end Go.Am
namespace Go.Am
open Go.Proofs
variable {T : Tab} {P : Program} {N L : Nat} {H : AHeap} {Q : Bool → Value → AHeap → Prop}
section
variable {l : List Str} {C w ld fr a₀ : Int} {a : Option Addr} {cap : Nat}
end
end Go.Am
namespace Go.Am
open Go.Proofs
variable {T : Tab} {P : Program} {N L : Nat} {H : AHeap} {Q : Bool → Value → AHeap → Prop}
section
variable {H H' H'' : AHeap} {a : Option Addr} {n cap tb ob : Nat} {C w ld : Int} {al al' : List Nat} {it : List Bool} {out : List Int}
end
section
variable {l : List Str} {C w ld to bm : Int} {a : Option Addr} {cap : Nat}
end
end Go.Am
namespace Go.Am
open Go.Proofs
variable {T : Tab} {P : Program} {N L : Nat} {H : AHeap} {Q : Bool → Value → AHeap → Prop}
theorem asked_of {C w ld : Int} {l : List Str} {cs ss ms : List Int} (hc : chk C l = 0) (hw : off w 1 9 = false) (hd : off ld 0 9 = false) (h1 : ∀ n ∈ cs, 0 ≤ n ∧ n ≤ C - 1) (h2 : ∀ n ∈ ss, 0 ≤ n ∧ n ≤ (l.length : Int) - 1) (h3 : ∀ n ∈ ms, 0 ≤ n ∧ n ≤ 240) : asked C l w ld cs ss ms = 0 := by
 have key : ∀ {l : List Int} {x y : Int}, (∀ n ∈ l, x ≤ n ∧ n ≤ y) → (l.any fun n => off n x y) = false := fun {l x y} h => by
  rw [List.any_eq_false]
  intro n hn
  rw [off_iff.2 (h n hn)]; simp
 unfold asked
 rw [if_neg (by simpa using hc), hw, hd, key h1, key h2, key h3]
 simp
section
variable {a a1 a2 : Option Addr} {cap cap1 cap2 : Nat} {l : List Str} {C w ld fr to m bm : Int} {e e' : VT} {H' H'' : AHeap}
end
end Go.Am
