/- Streets as they read as data, and the heap that they make. -/
import Derived.Test.YtbbifibhpbjknaaT27
import Derived.Carry
import Derived.ChangeArms
import Derived.Lib.SmallJoins
import Derived.WideKeyArgs
import Derived.Test.YtbbifibhpbjknaaRows
import Derived.Deep.Slices
import Derived.WalkKit
import Derived.ProofKit
import Derived.OpenShut
import Derived.Test.YtbbifibhpbjknaaT37
import Derived.Test.YtbbifibhpbjknaaT50
set_option linter.unusedSimpArgs false
set_option linter.unusedVariables false
namespace Go.Am
open Go.Proofs Go.RowKit
variable {X : Type} {enc : TypeId × Value → X} {w : World} {base : Nat} {sp : Nat → Bool} {held : Bool} {n : Nat} {cs : List Value} {x : DataW X × List MemPlace}

/-- Arguments read in a world that has what was there as they did. -/
theorem trodAll_stays {P : Program} (hl : laidOutB P = true) {W W' : World} {sp' : Nat → Bool} (hsame : ∀ k, k < W.heap.size → W'.heap[k]? = W.heap[k]?) : ∀ {ts : List TypeId} {vs : List Value} {ds : List (DataW X)} {ps : List MemPlace}, (∀ t ∈ ts, P.readableRec t = true ∧ t < P.types.size) →
    DataW.TrodAll enc P W 0 (fun _ => true) true ts vs ds ps → (∀ p ∈ ps, p.block < W.heap.size) → (∀ p ∈ ps, sp' p.block = true) → DataW.TrodAll enc P W' 0 sp' true ts vs ds ps
  | [], [], [], _, _, h, _, _ => h
  | t :: ts, v :: vs, d :: ds, _, ht, ⟨p, q, h1, h2, e⟩, hlt, hs => by
    subst e
    refine ⟨p, q, ?_, trodAll_stays hl hsame (fun t h => ht t (List.mem_cons_of_mem _ h)) h2 (fun x hx => hlt x (List.mem_append_right _ hx)) (fun x hx => hs x (List.mem_append_right _ hx)), rfl⟩
    refine WideElems.Trod_stays hl (ht t (by simp)).1 (ht t (by simp)).2 h1 (fun x hx => ?_) (fun x hx => hs x (List.mem_append_left _ hx))
    cases x with
    | cell b o => exact World.cell?_of_block (w := W) (hsame b (hlt _ (List.mem_append_left _ hx)))
    | map b => exact hsame b (hlt _ (List.mem_append_left _ hx))
/-- A call that changes nothing and gives a value without addresses, in any world in which its arguments stand. -/
theorem calls_below {P : Program} {f : FuncId} {args : List Value} {H : AHeap} {v : Value} (h : SCall P f args H v H H.size) (hg : gr v = true) {σ : Place} {W : World} (r : Rel σ H W) (ha : ∀ x ∈ args, okv σ x) :
    Calls P f (args.map (ren σ)).toArray W fun e w' => e = .returned v ∧ Below W.heap.size W w' := by
  refine callsIn_wide (n := 0).1 ((h Fence.wide 0 σ W free_wide r ha).mono ?_)
  rintro e w' ⟨σ', rfl, _, _, x⟩
  exact ⟨by rw [(gr_ok σ' hg).2], x.os, x.tape, x.output, x.wsize, fun b hb => x.frame b hb fun k s hk hp => absurd (r.lt k b s hp).1 (by omega)⟩
/-- The place of one row that came in. -/
def rowPlace (b o : Nat) : Place := ⟨fun k => if k = 0 then some (b, o) else none, fun _ => 0⟩
def rowHeap (c : List Value) : AHeap := AHeap.alloc ⟨0, .nil⟩ (.ro c)
theorem rowHeap_get {c : List Value} : (rowHeap c).get 0 = .ro c := zda rfl
theorem rowHeap_size {c : List Value} : (rowHeap c).size = 1 := AHeap.size_alloc _ _
theorem rowRel {W : World} {b o : Nat} {c : List Value} (hb : b < W.heap.size) (hg : ∀ (i : Nat) (v : Value), c[i]? = some v → gr v = true) (hc : ∀ (i : Nat) (v : Value), c[i]? = some v → W.cell? ⟨b, o + i, none⟩ = some v) : Rel (rowPlace b o) (rowHeap c) W where
  lt k b' s h := by
    by_cases hk : k = 0
    · subst hk
      simp only [rowPlace,if_true,Option.some.injEq,Prod.mk.injEq] at h
      rw [← h.1]
      exact ⟨by rw [rowHeap_size]; omega, hb⟩
    · simp only [rowPlace,if_neg hk] at h; cases h
  holds k b' s h := by
    by_cases hk : k = 0
    · subst hk
      simp only [rowPlace,if_true,Option.some.injEq,Prod.mk.injEq] at h
      obtain ⟨rfl, rfl⟩ := h
      rw [rowHeap_get]
      intro i v hi
      exact ⟨(gr_ok _ (hg i v hi)).1, by rw [(gr_ok _ (hg i v hi)).2]; exact hc i v hi⟩
    · simp only [rowPlace,if_neg hk] at h; cases h
  excl k k' b' s s' h h' hne al hal := by
    by_cases hk : k = 0
    · subst hk
      rw [rowHeap_get] at hal
      cases hal
    · simp only [rowPlace,if_neg hk] at h; cases h
end Go.Am
/- The statement StreetTowns, for every input. -/
namespace Go.Am
open Go.Proofs Go.Deep Go.RowKit Go.ChangeShapes Go.WideShapes Go.ChangeAt
variable {X : Type} {enc : TypeId × Value → X}
instance : Inhabited Str := ⟨⟨0, 0, 0, 0, 0, 0, false, 0, 0⟩⟩
theorem add_off {a : Addr} (h : a.spot = none) (i : Nat) : a.add i = ⟨a.block, a.off + i, none⟩ := by
  obtain ⟨b, o, s⟩ := a
  simp only at h
  subst h
  unfold Addr.add
  split
  · rename_i h0; subst h0; rfl
  · rfl
theorem shape_lt {W : World} {b : Nat} {s : TypeId × Nat} (h : W.shape? b = some s) : b < W.heap.size := by
  unfold World.shape? at h
  split at h
  · rename_i he
    exact (Array.getElem?_eq_some_iff.1 he).1
  · cases h
/-- A law's end: it gave true, and below the old size of memory nothing has turned. -/
theorem law_post {P : Program} {f : Func} {s : ChangeSpec} {fresh handsOn again : Bool} {W W' : World} {args : Array Value} {v : Value} {ds gs : List (DataW X)} {ps : List MemPlace}
    (hW : DataW.Whole enc P f.params.toList s.vars false W args.toList ds gs (ps ++ [])) (hb : Below W.heap.size W W')
    (hres : ∀ (b : Nat) (sp : Nat → Bool) (hd : Bool), DataW.TrodAll enc P W' b sp hd f.resultTypes.toList (v.resultList f.resultTypes.size) (s.fn X (ds ++ gs)).results [])
    (hargs : ∀ sp : Nat → Bool, (∀ p ∈ ps, sp p.block = true) → DataW.TrodAll enc P W' 0 sp true f.params.toList args.toList (s.fn X (ds ++ gs)).args ps)
    (hvars : ∀ sp : Nat → Bool, DataW.TrodVars enc P W' sp s.vars (s.fn X (ds ++ gs)).vars [])
    (hok : ∀ (j : Nat) (t : TypeId) (r : Value), f.resultTypes[j]? = some t → (v.resultList f.resultTypes.size)[j]? = some r → Value.okWide P W' .any 0 t r) :
    s.post enc P f false fresh handsOn again W args v W' := by
  have lt : ∀ p ∈ ps, p.block < W.heap.size := fun p hp => hW.lt p (List.mem_append_left _ hp)
  have all := hargs (fun _ => true) fun _ _ => rfl
  have old := hargs (fun b => decide (b < W.heap.size)) fun p hp => decide_eq_true (lt p hp)
  refine ⟨ds, gs, ps ++ [], [], ps, [], hW, hres _ _ _, old, hvars _, World.keptBut_mono (fun p hp => ⟨hp, .inr (List.mem_append.1 hp)⟩) (hb.frame (· ∈ ps ++ [])), fun _ => ⟨hok, _, _, ([] ++ ps) ++ [], ⟨[] ++ ps, [], trodAll_append all (hres _ _ _), hvars _, rfl, ?_, fun h => by cases h⟩, fun p hp _ => by simpa using hp⟩⟩
  obtain ⟨_, _, _, _, _, hz, _⟩ := hW
  intro b o hp
  have hp' : MemPlace.cell b o ∈ ps ++ [] := by simpa using hp
  rw [hb.frozen (lt _ (by simpa using hp'))]
  exact hz b o hp'
end Go.Am
/- More arguments that are read. -/
namespace Go.Am
open Go.Proofs Go.ChangeShapes
variable {H : Type} {enc : TypeId × Value → H} {P : Program} {w : World} {base : Nat} {spare : Nat → Bool} {held : Bool}
end Go.Am
/- Bytes as they read as data, and the heap that they make. -/
namespace Go.Am
open Go.Proofs Go.Deep Go.RowKit Go.ChangeShapes Go.WideShapes Go.ChangeAt
variable {X : Type} {enc : TypeId × Value → X} {w : World} {base : Nat} {sp : Nat → Bool} {held : Bool} {n : Nat} {cs : List Value} {x : DataW X × List MemPlace}
theorem wf_u8 {i : Int} (h : (Lit.int .u8 i).wf = true) : 0 ≤ i ∧ i < 256 := by
  unfold Lit.wf at h
  simp only [Bool.and_eq_true,decide_eq_true_eq] at h
  have h1 : IntKind.u8.min = 0 := rfl
  have h2 : IntKind.u8.max = 255 := rfl
  omega
theorem read_u8 {c : Value} {y : DataW X × List MemPlace} (h : DataW.trod enc Try.prog w base sp held n 5 [c] = some y) : ∃ i, c = .int .u8 i ∧ 0 ≤ i ∧ i < 256 := by
  obtain ⟨i, h1, _, h3⟩ := DataW.trod_int Try.underlying5 h
  exact ⟨i, by simpa using h1, (wf_u8 h3).1, (wf_u8 h3).2⟩
theorem cellsOf5 : Try.prog.cellsOf 5 = 1 := by kernel_rfl
/-- Bytes that came in: none, or bytes that lie in a row. -/
structure BytesIn (W : World) (a : Option Addr) (len cap : Nat) (bs : List Int) : Prop where
  hlen : len = bs.length
  hcap : cap < OPEN
  lt : bs.length < 9223372036854775808
  byte : ∀ x ∈ bs, 0 ≤ x ∧ x < 256
  nl : a = none → cap = 0 ∧ bs = []
  row : ∀ ad, a = some ad → ad.spot = none ∧ ad.block < W.heap.size ∧ ∀ i x, bs[i]? = some x → W.cell? ⟨ad.block, ad.off + i, none⟩ = some (.int .u8 x)
def u8s (bs : List Int) : List Value := bs.map fun b => .int .u8 b
theorem u8s_get {bs : List Int} {i : Nat} {v : Value} (h : (u8s bs)[i]? = some v) : ∃ x, bs[i]? = some x ∧ v = .int .u8 x := by
  unfold u8s at h
  rw [List.getElem?_map, Option.map_eq_some_iff] at h
  obtain ⟨x, h1, h2⟩ := h
  exact ⟨x, h1, h2.symm⟩
theorem bytes_calls {W : World} {a : Option Addr} {len cap : Nat} {bs : List Int} (t : BytesIn W a len cap bs) {f : FuncId} {rest : List Value} (hr : allGrV rest = true) {n : Nat}
    (h : ∀ (H : AHeap) (a' : Option Addr), Bts H a' bs → acall tabA (aexec tabA Try.prog n) f (.slice a' bs.length cap :: rest) H = some (true, .bool true, H, H.size)) :
    Calls Try.prog f (.slice a len cap :: rest).toArray W fun e w' => e = .returned (.bool true) ∧ Below W.heap.size W w' := by
  obtain rfl := t.hlen
  cases a with
  | none =>
    obtain ⟨hc, rfl⟩ := t.nl rfl
    have h1 := call_ok tabA_fits (h ⟨0, .nil⟩ none ⟨fun h => absurd rfl h, t.byte, t.lt⟩)
    have hall : allGrV (.slice none 0 cap :: rest) = true := by
      subst hc
      show (gr (.slice none 0 0) && allGrV rest) = true
      rw [hr]; rfl
    have h2 := calls_below h1 rfl (rel_nowhere _ W) fun x hx => (gr_ok nowhere (allGrV_mem hall x hx)).1
    rw [show (Value.slice none ([] : List Int).length cap :: rest).map (ren nowhere) = Value.slice none ([] : List Int).length cap :: rest from allGrV_ren hall] at h2
    exact h2
  | some ad =>
    obtain ⟨b, o, s⟩ := ad
    obtain ⟨hs, hb, hrow⟩ := t.row _ rfl
    simp only at hs hb hrow
    subst hs
    have hbt : Bts (rowHeap (u8s bs)) (some ⟨0, 0, none⟩) bs := ⟨fun _ => ⟨0, 0, u8s bs, rfl, by rw [rowHeap_size]; omega, rowHeap_get, fun i x hi => by
      unfold u8s
      rw [Nat.zero_add, List.getElem?_map, hi]; rfl⟩, t.byte, t.lt⟩
    have h1 := call_ok tabA_fits (h (rowHeap (u8s bs)) (some ⟨0, 0, none⟩) hbt)
    have hR : Rel (rowPlace b o) (rowHeap (u8s bs)) W := rowRel hb (fun i v hi => by
      obtain ⟨x, _, rfl⟩ := u8s_get hi
      rfl) (fun i v hi => by
      obtain ⟨x, h1, rfl⟩ := u8s_get hi
      exact hrow i x h1)
    have h2 := calls_below h1 rfl hR fun x hx => by
      rcases List.mem_cons.1 hx with rfl | hx
      · simp only [okv]
        exact ⟨trivial, rfl, fun hc => absurd t.hcap (by omega)⟩
      · exact (gr_ok _ (allGrV_mem hr x hx)).1
    have e : (Value.slice (some ⟨0, 0, none⟩) bs.length cap :: rest).map (ren (rowPlace b o)) = Value.slice (some ⟨b, o, none⟩) bs.length cap :: rest := by
      rw [List.map_cons, allGrV_ren hr]
      congr 1
      simp [ren, Place.cap, t.hcap, Place.addr, rowPlace]
    rw [e] at h2
    exact h2
instance : Inhabited Int := ⟨0⟩
set_option maxRecDepth 100000 in
theorem bytes_read {W : World} {base : Nat} {v : Value} {d : DataW X} {p : List MemPlace} (hv : Value.okWide Try.prog W .any base 81 v) (h : DataW.Trod enc Try.prog W 0 (fun _ => true) true 81 v d p) :
    ∃ (a : Option Addr) (len cap : Nat) (bs : List Int), v = .slice a len cap ∧ BytesIn W a len cap bs := by
  obtain ⟨fuel, h⟩ := h
  have key : ∀ a len cap, v = .slice a len cap → ∃ (a : Option Addr) (len cap : Nat) (bs : List Int), v = .slice a len cap ∧ BytesIn W a len cap bs := by
    rintro a₀ len₀ cap₀ rfl
    rcases open_slice Try.underlying81 h with ⟨hn, _⟩ | ⟨a, len, cap, m, n', D, Pl, hn, _, hle, hcap, hm, _, hx⟩
    · have hn' : Value.slice a₀ len₀ cap₀ = .slice none 0 0 := by simpa [Value.cells] using hn
      cases hn'
      exact ⟨none, 0, 0, [], rfl, rfl, by unfold OPEN; omega, by simp, by simp, fun _ => ⟨rfl, rfl⟩, fun ad h => by cases h⟩
    · have hn' : Value.slice a₀ len₀ cap₀ = .slice (some a) len cap := by simpa [Value.cells] using hn
      obtain ⟨rfl, rfl, rfl⟩ : a₀ = some a ∧ len₀ = len ∧ cap₀ = cap := by simpa using hn'
      unfold Value.okWide at hv
      rw [Try.underlying81] at hv
      simp only [Cell.okWide,Cell.ok,Try.underlying81] at hv
      obtain ⟨_, _, _, hsp, ⟨row, cells, hsh, _⟩⟩ := hv
      have hb := shape_lt hsh
      have hm' : m = cap₀ := by rw [hm]; rfl
      obtain ⟨S, hS⟩ := choose_lt (α := Int) (p := fun i s => (0 ≤ s ∧ s < 256) ∧ W.cells? 0 (a.add i) 1 = some [.int .u8 s]) (n := len₀) (fun i hi => by
        obtain ⟨cs', k1, k2⟩ := hx i (by omega)
        rw [cellsOf5, Nat.mul_one] at k1
        have hl1 : cs'.length = 1 := (World.cells?_some k1).2.1
        match cs', hl1 with
        | [c], _ =>
          obtain ⟨s, rfl, k3, k4⟩ := read_u8 k2
          exact ⟨s, ⟨k3, k4⟩, k1⟩)
      have hget : ∀ i s, ((List.range len₀).map S)[i]? = some s → i < len₀ ∧ s = S i := fun i s h => by
        rw [List.getElem?_map, Option.map_eq_some_iff] at h
        obtain ⟨j, hj, rfl⟩ := h
        have := List.getElem?_eq_some_iff.1 hj
        obtain ⟨q1, q2⟩ := this
        rw [List.getElem_range] at q2
        subst q2
        exact ⟨by simpa using q1, rfl⟩
      unfold maxLen at hcap
      refine ⟨some a, len₀, cap₀, (List.range len₀).map S, rfl, by simp, by unfold OPEN; omega, by simp; omega, ?_, (fun h => by cases h), ?_⟩
      · intro s hs
        obtain ⟨i, hi⟩ := List.getElem?_of_mem hs
        obtain ⟨k1, rfl⟩ := hget i s hi
        exact (hS i k1).1
      · intro ad had
        cases had
        refine ⟨hsp, hb, fun i s hi => ?_⟩
        obtain ⟨k1, rfl⟩ := hget i s hi
        obtain ⟨_, _, hc⟩ := World.cells?_some (hS i k1).2
        have := hc 0 (by omega)
        rw [add_add, add_off hsp] at this
        simpa using this
  cases v with
  | slice a len cap => exact key _ _ _ rfl
  | _ =>
    exfalso
    unfold Value.okWide at hv
    rw [Try.underlying81] at hv
    simp [Cell.okWide, Cell.ok, Try.underlying81] at hv
set_option maxRecDepth 100000 in
theorem byte_read {W : World} {base : Nat} {v : Value} {d : DataW X} {p : List MemPlace} (hv : Value.okWide Try.prog W .any base 5 v) (h : DataW.Trod enc Try.prog W 0 (fun _ => true) true 5 v d p) : ∃ x, v = .int .u8 x ∧ 0 ≤ x ∧ x < 256 := by
  obtain ⟨x, rfl, _, _, hw⟩ := open_int Try.underlying5 hv h
  exact ⟨x, rfl, wf_u8 hw⟩
end Go.Am
/- The statement StreetMissed: for all numbers (bytes), and any two bytes, the law gives true, and its arguments read as before. No condition. -/
namespace Go.Proofs.Ytbbifibhpbjknaa.streetMissed
open Go.ChangeShapes Go.WideShapes Go.ChangeAt Go.RowKit Go.Am Go.Proofs
set_option linter.unusedVariables false

theorem own : ownKnob Try.prog.godebug = none := by kernel_rfl
theorem laidOut : laidOutB Try.prog = true := by kernel_rfl

set_option maxRecDepth 100000 in
theorem lifted (os : Os) (started : os.Started) (H : Type) (enc : TypeId × Value → H) :
    ReturnsInHanded {} Try.checked os 15 .any (Rows.streetMissedSpec.pre6 enc Try.prog Try.f15 Rows.streetMissedRow.domain false) (Rows.streetMissedSpec.post enc Try.prog Try.f15 false true false false) := by
  refine returnsInHanded_of_change (C := Try.checked) own started (by kernel_rfl) Try.func15
    (ChangeSpec.witness6 (enc := enc) (C := Try.checked) false ⟨#[], #[.slice none 0 0, .int .u8 0, .int .u8 0], []⟩ 8 (by kernel_rfl) (by kernel_rfl) (by kernel_rfl) (by kernel_rfl)) ?_
  intro W base args ds gs before hval0 hW hcnd _
  have hval : ∀ (j : Nat) t v, Try.f15.params[j]? = some t → args[j]? = some v → Value.okWide Try.prog W .any base t v := hval0
  have hW' := hW
  obtain ⟨p, q, hA0, hV, rfl, hfz, hnd⟩ := hW
  have hA : DataW.TrodAll enc Try.prog W 0 (fun _ => true) true Try.f15.params.toList args.toList ds p := hA0
  rw [Try.params15] at hA hval
  obtain ⟨v0, v1, v2, d0, d1, d2, p0, p1, p2, rfl, rfl, rfl, h0, h1, h2⟩ := trodAll_three hA
  obtain ⟨rfl, rfl⟩ := trodVars_none hV
  obtain ⟨a, len, cap, bs, rfl, bin⟩ := bytes_read (hval 0 81 v0 rfl rfl) h0
  obtain ⟨x, rfl, hx⟩ := byte_read (hval 1 5 v1 rfl rfl) h1
  obtain ⟨y, rfl, hy⟩ := byte_read (hval 2 5 v2 rfl rfl) h2
  refine (bytes_calls bin (f := 15) (rest := [.int .u8 x, .int .u8 y]) rfl (n := 40009) (fun H a' hb => c15 (N := 0) hb hx hy)).mono ?_
  rintro e W' ⟨rfl, hb⟩
  refine ⟨_, rfl, law_post (ps := p0 ++ p1 ++ p2) hW' hb (fun _ _ _ => trodAll_mk1 (shut_bool Try.underlying4 _)) (fun sp hs => ?_) (fun _ => rfl) (ok_one (by kernel_rfl) rfl (okWide_bool_mk Try.underlying4 _))⟩
  refine trodAll_stays laidOut hb.block (fun t ht => ?_) hA0 (fun p hp => hW'.lt p (List.mem_append_left _ hp)) hs
  have hall : (Try.f15.params.toList.all fun t => Try.prog.readableRec t && decide (t < Try.prog.types.size)) = true := by kernel_rfl
  have := List.all_eq_true.1 hall t ht
  simp only [Bool.and_eq_true,decide_eq_true_eq] at this
  exact this

theorem over : Rows.streetMissedRow.holds Try.pinned (OpenSpec.ofChange Rows.streetMissedSpec) :=
  OpenClaim.holds_of_wide 15 Try.f15 rfl rfl rfl rfl rfl rfl rfl ⟨rfl, rfl, rfl, rfl, rfl⟩ rfl rfl rfl rfl rfl (by kernel_rfl) Try.func15 (by kernel_rfl)
    (of_decide_eq_true (by kernel_rfl)) (by unfold Func.isWrapper; first | (rw [if_pos (by decide +kernel)]; kernel_rfl) | (rw [if_neg (by decide +kernel)]; exact ⟨rfl, rfl⟩))
    (fun os started H enc _ => lifted os started H enc)

theorem proved : Rows.StreetMissedSaid := over

#print axioms proved
end Go.Proofs.Ytbbifibhpbjknaa.streetMissed
