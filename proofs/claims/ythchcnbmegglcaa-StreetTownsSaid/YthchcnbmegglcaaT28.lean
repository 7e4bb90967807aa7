/- The statement StreetTowns, for every input. -/
import Derived.Test.YthchcnbmegglcaaT27
import Derived.Test.YthchcnbmegglcaaRows
import Derived.Deep.Slices
import Derived.WalkKit
import Derived.ProofKit
import Derived.OpenShut
import Derived.Carry
set_option linter.unusedSimpArgs false
set_option linter.unusedVariables false
namespace Go.Am
open Go.Proofs Go.Deep Go.RowKit Go.ChangeShapes Go.WideShapes Go.ChangeAt
variable {X : Type} {enc : TypeId × Value → X}
instance : Inhabited Str := ⟨⟨0, 0, 0, 0, 0, 0, false, 0, 0⟩⟩
theorem cellsOf24 : Try.prog.cellsOf 24 = 2 := by kernel_rfl
theorem cellTypes24 : Try.prog.cellTypes Try.prog.depth 24 = some [3, 22] := by kernel_rfl
theorem add_off {a : Addr} (h : a.spot = none) (i : Nat) : a.add i = ⟨a.block, a.off + i, none⟩ := by
  obtain ⟨b, o, s⟩ := a
  simp only at h
  subst h
  unfold Addr.add
  split
  · rename_i h0; subst h0; rfl
  · rfl
theorem shape_lt {W : World} {b : Nat} {s : TypeId × Nat} (h : W.shape? b = some s) : b < W.heap.size := by
  unfold World.shape? at h
  split at h
  · rename_i he
    exact (Array.getElem?_eq_some_iff.1 he).1
  · cases h
set_option maxRecDepth 100000 in
theorem town_read {W : World} {base : Nat} {v : Value} {d : DataW X} {p : List MemPlace} (hv : Value.okWide Try.prog W .any base 24 v) (h : DataW.Trod enc Try.prog W 0 (fun _ => true) true 24 v d p) :
    ∃ (C : Int) (a : Option Addr) (len cap : Nat) (l : List Str), v = .agg ⟨[.int .i64 C, .slice a len cap]⟩ ∧ TownIn W a len cap l := by
  obtain ⟨v0, v1, y0, y1, n, rfl, _, _, h0, h1⟩ := Joins.open_agg2 Try.underlying24 (by kernel_rfl) cellsOf24 hv h
  obtain ⟨C, rfl, _⟩ := read_int h0
  have hcell : Cell.okWide Try.prog W .any base 22 v1 := by
    unfold Value.okWide at hv
    rw [Try.underlying24] at hv
    obtain ⟨cs, hcs, _, ts, hts, _, hrow⟩ := hv
    cases hcs
    rw [cellTypes24] at hts
    cases hts
    obtain ⟨u, hu, hc⟩ := hrow 1 v1 rfl
    cases hu
    exact hc
  rcases open_slice Try.underlying22 h1 with ⟨hn, _⟩ | ⟨a, len, cap, m, n', D, Pl, hn, _, hle, hcap, hm, _, hx⟩
  · obtain rfl : v1 = .slice none 0 0 := by simpa using hn
    exact ⟨C, none, 0, 0, [], rfl, rfl, by unfold OPEN; omega, fun s hs => by simp at hs, fun _ => ⟨rfl, rfl⟩, fun ad h => by cases h⟩
  · obtain rfl : v1 = .slice (some a) len cap := by simpa using hn
    unfold Cell.okWide at hcell
    rw [Try.underlying22] at hcell
    simp only [Cell.ok,Try.underlying22] at hcell
    obtain ⟨_, _, _, hsp, ⟨row, cells, hsh, _⟩⟩ := hcell
    have hb := shape_lt hsh
    have hm' : m = cap := by rw [hm]; rfl
    obtain ⟨S, hS⟩ := choose_lt (α := Str) (p := fun i s => s.Ok ∧ W.cells? 0 (a.add (i * 9)) 9 = some s.enc) (n := len) (fun i hi => by
      obtain ⟨cs', k1, k2⟩ := hx i (by omega)
      rw [cellsOf45] at k1
      obtain ⟨s, k3, rfl⟩ := read_str k2
      exact ⟨s, k3, k1⟩)
    have hget : ∀ i s, ((List.range len).map S)[i]? = some s → i < len ∧ s = S i := fun i s h => by
      rw [List.getElem?_map, Option.map_eq_some_iff] at h
      obtain ⟨j, hj, rfl⟩ := h
      have := List.getElem?_eq_some_iff.1 hj
      obtain ⟨q1, q2⟩ := this
      rw [List.getElem_range] at q2
      subst q2
      exact ⟨by simpa using q1, rfl⟩
    refine ⟨C, some a, len, cap, (List.range len).map S, rfl, by simp, ?_, ?_, (fun h => by cases h), ?_⟩
    · unfold maxLen at hcap
      unfold OPEN
      omega
    · intro s hs
      obtain ⟨i, hi⟩ := List.getElem?_of_mem hs
      obtain ⟨k1, rfl⟩ := hget i s hi
      exact (hS i k1).1
    · intro ad had
      cases had
      refine ⟨hsp, hb, fun i s hi j v hj => ?_⟩
      obtain ⟨k1, rfl⟩ := hget i s hi
      obtain ⟨_, _, hc⟩ := World.cells?_some (hS i k1).2
      have hj9 : j < 9 := by
        have := (List.getElem?_eq_some_iff.1 hj).1
        rwa [enc_len] at this
      have := hc j hj9
      rw [hj, add_add, add_off hsp] at this
      exact this
/-- A law's end: it gave true, and below the old size of memory nothing has turned. -/
theorem law_post {P : Program} {f : Func} {s : ChangeSpec} {fresh handsOn again : Bool} {W W' : World} {args : Array Value} {v : Value} {ds gs : List (DataW X)} {ps : List MemPlace}
    (hW : DataW.Whole enc P f.params.toList s.vars false W args.toList ds gs (ps ++ [])) (hb : Below W.heap.size W W')
    (hres : ∀ (b : Nat) (sp : Nat → Bool) (hd : Bool), DataW.TrodAll enc P W' b sp hd f.resultTypes.toList (v.resultList f.resultTypes.size) (s.fn X (ds ++ gs)).results [])
    (hargs : ∀ sp : Nat → Bool, (∀ p ∈ ps, sp p.block = true) → DataW.TrodAll enc P W' 0 sp true f.params.toList args.toList (s.fn X (ds ++ gs)).args ps)
    (hvars : ∀ sp : Nat → Bool, DataW.TrodVars enc P W' sp s.vars (s.fn X (ds ++ gs)).vars [])
    (hok : ∀ (j : Nat) (t : TypeId) (r : Value), f.resultTypes[j]? = some t → (v.resultList f.resultTypes.size)[j]? = some r → Value.okWide P W' .any 0 t r) :
    s.post enc P f false fresh handsOn again W args v W' := by
  have lt : ∀ p ∈ ps, p.block < W.heap.size := fun p hp => hW.lt p (List.mem_append_left _ hp)
  have all := hargs (fun _ => true) fun _ _ => rfl
  have old := hargs (fun b => decide (b < W.heap.size)) fun p hp => decide_eq_true (lt p hp)
  refine ⟨ds, gs, ps ++ [], [], ps, [], hW, hres _ _ _, old, hvars _, World.keptBut_mono (fun p hp => ⟨hp, .inr (List.mem_append.1 hp)⟩) (hb.frame (· ∈ ps ++ [])), fun _ => ⟨hok, _, _, ([] ++ ps) ++ [], ⟨[] ++ ps, [], trodAll_append all (hres _ _ _), hvars _, rfl, ?_, fun h => by cases h⟩, fun p hp _ => by simpa using hp⟩⟩
  obtain ⟨_, _, _, _, _, hz, _⟩ := hW
  intro b o hp
  have hp' : MemPlace.cell b o ∈ ps ++ [] := by simpa using hp
  rw [hb.frozen (lt _ (by simpa using hp'))]
  exact hz b o hp'
end Go.Am
