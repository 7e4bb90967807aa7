/- Streets as they read as data, and the heap that they make. -/
import Derived.Test.YtdjklljbninmgaaT26
import Derived.Carry
import Derived.ChangeArms
import Derived.Lib.SmallJoins
import Derived.WideKeyArgs
import Derived.Test.YtdjklljbninmgaaRows
import Derived.Deep.Slices
import Derived.WalkKit
import Derived.ProofKit
import Derived.OpenShut
import Derived.Test.YtdjklljbninmgaaT36
import Derived.Test.YtdjklljbninmgaaT51
set_option linter.unusedSimpArgs false
set_option linter.unusedVariables false
namespace Go.Am
open Go.Proofs Go.RowKit
variable {X : Type} {enc : TypeId × Value → X} {w : World} {base : Nat} {sp : Nat → Bool} {held : Bool} {n : Nat} {cs : List Value} {x : DataW X × List MemPlace}

theorem field_of {P : Program} {fs : Array Field} {xs : List (DataW X × List MemPlace)} (hlen : xs.length = fs.size) (hf : ∀ (i : Nat) (f : Field), fs[i]? = some f → DataW.trod enc P w base sp held n f.type ((cs.drop f.offset).take (P.cellsOf f.type)) = xs[i]?) (i : Nat) {f : Field} (hi : fs[i]? = some f) :
    ∃ y, DataW.trod enc P w base sp held n f.type ((cs.drop f.offset).take (P.cellsOf f.type)) = some y := by
  have hlt : i < fs.size := by
    rw [Array.getElem?_eq_some_iff] at hi
    exact hi.1
  exact ⟨xs[i]'(by omega), by rw [hf i f hi]; simp⟩
theorem read_int {c : Value} {y : DataW X × List MemPlace} (h : DataW.trod enc Try.prog w base sp held n 3 [c] = some y) : ∃ i, c = .int .i64 i ∧ okI i := by
  obtain ⟨i, h1, _, h3⟩ := DataW.trod_int Try.underlying3 h
  exact ⟨i, by simpa using h1, h3⟩
theorem read_bool {c : Value} {y : DataW X × List MemPlace} (h : DataW.trod enc Try.prog w base sp held n 4 [c] = some y) : ∃ b, c = .bool b := by
  obtain ⟨b, h1, _⟩ := DataW.trod_bool Try.underlying4 h
  exact ⟨b, by simpa using h1⟩
theorem read_span {c c' : Value} {y : DataW X × List MemPlace} (h : DataW.trod enc Try.prog w base sp held n 43 [c, c'] = some y) : ∃ i j, c = .int .i64 i ∧ c' = .int .i64 j ∧ okI i ∧ okI j := by
  obtain ⟨xs, n, _, rfl, hl, hlen, hf⟩ := DataW.trod_struct Try.underlying43 h
  obtain ⟨y0, h0⟩ := field_of hlen hf 0 rfl
  obtain ⟨y1, h1⟩ := field_of hlen hf 1 rfl
  obtain ⟨i, rfl, hi⟩ := read_int (c := c) (by simpa [cellsOf3] using h0)
  obtain ⟨j, rfl, hj⟩ := read_int (c := c') (by simpa [cellsOf3] using h1)
  exact ⟨i, j, rfl, rfl, hi, hj⟩
set_option maxRecDepth 10000 in
theorem read_str (h : DataW.trod enc Try.prog w base sp held n 45 cs = some x) : ∃ s : Str, s.Ok ∧ cs = s.enc := by
  obtain ⟨xs, n, _, rfl, hl, hlen, hf⟩ := DataW.trod_struct Try.underlying45 h
  rw [cellsOf45] at hl
  match cs, hl with
  | [c0, c1, c2, c3, c4, c5, c6, c7, c8], _ =>
    obtain ⟨y0, h0⟩ := field_of hlen hf 0 rfl
    obtain ⟨y1, h1⟩ := field_of hlen hf 1 rfl
    obtain ⟨y2, h2⟩ := field_of hlen hf 2 rfl
    obtain ⟨y3, h3⟩ := field_of hlen hf 3 rfl
    obtain ⟨y4, h4⟩ := field_of hlen hf 4 rfl
    obtain ⟨y5, h5⟩ := field_of hlen hf 5 rfl
    obtain ⟨y6, h6⟩ := field_of hlen hf 6 rfl
    obtain ⟨y7, h7⟩ := field_of hlen hf 7 rfl
    obtain ⟨i0, rfl, k0⟩ := read_int (c := c0) (by simpa [cellsOf3] using h0)
    obtain ⟨i1, rfl, k1⟩ := read_int (c := c1) (by simpa [cellsOf3] using h1)
    obtain ⟨i2, rfl, k2⟩ := read_int (c := c2) (by simpa [cellsOf3] using h2)
    obtain ⟨i3, rfl, k3⟩ := read_int (c := c3) (by simpa [cellsOf3] using h3)
    obtain ⟨i4, rfl, k4⟩ := read_int (c := c4) (by simpa [cellsOf3] using h4)
    obtain ⟨i5, rfl, k5⟩ := read_int (c := c5) (by simpa [cellsOf3] using h5)
    obtain ⟨b6, rfl⟩ := read_bool (c := c6) (by simpa [cellsOf4] using h6)
    obtain ⟨i7, i8, rfl, rfl, k7, k8⟩ := read_span (c := c7) (c' := c8) (by simpa [cellsOf43] using h7)
    exact ⟨⟨i0, i1, i2, i3, i4, i5, b6, i7, i8⟩, ⟨k0, k1, k2, k3, k4, k5, k7, k8⟩, rfl⟩
/-- Arguments read in a world that has what was there as they did. -/
theorem trodAll_stays {P : Program} (hl : laidOutB P = true) {W W' : World} {sp' : Nat → Bool} (hsame : ∀ k, k < W.heap.size → W'.heap[k]? = W.heap[k]?) : ∀ {ts : List TypeId} {vs : List Value} {ds : List (DataW X)} {ps : List MemPlace}, (∀ t ∈ ts, P.readableRec t = true ∧ t < P.types.size) →
    DataW.TrodAll enc P W 0 (fun _ => true) true ts vs ds ps → (∀ p ∈ ps, p.block < W.heap.size) → (∀ p ∈ ps, sp' p.block = true) → DataW.TrodAll enc P W' 0 sp' true ts vs ds ps
  | [], [], [], _, _, h, _, _ => h
  | t :: ts, v :: vs, d :: ds, _, ht, ⟨p, q, h1, h2, e⟩, hlt, hs => by
    subst e
    refine ⟨p, q, ?_, trodAll_stays hl hsame (fun t h => ht t (List.mem_cons_of_mem _ h)) h2 (fun x hx => hlt x (List.mem_append_right _ hx)) (fun x hx => hs x (List.mem_append_right _ hx)), rfl⟩
    refine WideElems.Trod_stays hl (ht t (by simp)).1 (ht t (by simp)).2 h1 (fun x hx => ?_) (fun x hx => hs x (List.mem_append_left _ hx))
    cases x with
    | cell b o => exact World.cell?_of_block (w := W) (hsame b (hlt _ (List.mem_append_left _ hx)))
    | map b => exact hsame b (hlt _ (List.mem_append_left _ hx))
/-- A call that changes nothing and gives a value without addresses, in any world in which its arguments stand. -/
theorem calls_below {P : Program} {f : FuncId} {args : List Value} {H : AHeap} {v : Value} (h : SCall P f args H v H H.size) (hg : gr v = true) {σ : Place} {W : World} (r : Rel σ H W) (ha : ∀ x ∈ args, okv σ x) :
    Calls P f (args.map (ren σ)).toArray W fun e w' => e = .returned v ∧ Below W.heap.size W w' := by
  refine callsIn_wide (n := 0).1 ((h Fence.wide 0 σ W free_wide r ha).mono ?_)
  rintro e w' ⟨σ', rfl, _, _, x⟩
  exact ⟨by rw [(gr_ok σ' hg).2], x.os, x.tape, x.output, x.wsize, fun b hb => x.frame b hb fun k s hk hp => absurd (r.lt k b s hp).1 (by omega)⟩
theorem enc_int : ∀ (s : Str) (j : Nat) (v : Value), s.enc[j]? = some v → gr v = true
  | s, 0, v, h | s, 1, v, h | s, 2, v, h | s, 3, v, h | s, 4, v, h | s, 5, v, h | s, 6, v, h | s, 7, v, h | s, 8, v, h => by cases h; rfl
  | s, j + 9, v, h => by cases h
theorem flat_get : ∀ (l : List Str) (i : Nat) (v : Value), (flat l)[i]? = some v → ∃ s, l[i / 9]? = some s ∧ s.enc[i % 9]? = some v
  | [], i, v, h => by simp [flat] at h
  | t :: l, i, v, h => by
    by_cases hi : i < 9
    · refine ⟨t, by rw [Nat.div_eq_of_lt hi]; rfl, ?_⟩
      rw [Nat.mod_eq_of_lt hi]
      rwa [flat, List.getElem?_append_left (by rw [enc_len]; exact hi)] at h
    · rw [flat, List.getElem?_append_right (by rw [enc_len]; omega), enc_len] at h
      obtain ⟨s, h1, h2⟩ := flat_get l (i - 9) v h
      refine ⟨s, ?_, ?_⟩
      · rw [show i / 9 = (i - 9) / 9 + 1 by omega]
        simpa using h1
      · rw [show i % 9 = (i - 9) % 9 by omega]; exact h2
def rowHeap (c : List Value) : AHeap := AHeap.alloc ⟨0, .nil⟩ (.ro c)
theorem rowHeap_get {c : List Value} : (rowHeap c).get 0 = .ro c := zda rfl
theorem rowHeap_size {c : List Value} : (rowHeap c).size = 1 := AHeap.size_alloc _ _
/-- A town that came in: none of its streets, or streets that lie in a row. -/
structure TownIn (W : World) (a : Option Addr) (len cap : Nat) (l : List Str) : Prop where
  hlen : len = l.length
  hcap : cap < OPEN
  ok : ∀ s ∈ l, s.Ok
  nl : a = none → cap = 0 ∧ l = []
  row : ∀ ad, a = some ad → ad.spot = none ∧ ad.block < W.heap.size ∧ ∀ i s, l[i]? = some s → ∀ j v, s.enc[j]? = some v → W.cell? ⟨ad.block, ad.off + (i * 9 + j), none⟩ = some v
end Go.Am
/- The statement StreetTowns, for every input. -/
namespace Go.Am
open Go.Proofs Go.Deep Go.RowKit Go.ChangeShapes Go.WideShapes Go.ChangeAt
variable {X : Type} {enc : TypeId × Value → X}
instance : Inhabited Str := ⟨⟨0, 0, 0, 0, 0, 0, false, 0, 0⟩⟩
theorem cellsOf24 : Try.prog.cellsOf 24 = 2 := by kernel_rfl
theorem cellTypes24 : Try.prog.cellTypes Try.prog.depth 24 = some [3, 22] := by kernel_rfl
theorem add_off {a : Addr} (h : a.spot = none) (i : Nat) : a.add i = ⟨a.block, a.off + i, none⟩ := by
  obtain ⟨b, o, s⟩ := a
  simp only at h
  subst h
  unfold Addr.add
  split
  · rename_i h0; subst h0; rfl
  · rfl
theorem shape_lt {W : World} {b : Nat} {s : TypeId × Nat} (h : W.shape? b = some s) : b < W.heap.size := by
  unfold World.shape? at h
  split at h
  · rename_i he
    exact (Array.getElem?_eq_some_iff.1 he).1
  · cases h
set_option maxRecDepth 100000 in
theorem town_read {W : World} {base : Nat} {v : Value} {d : DataW X} {p : List MemPlace} (hv : Value.okWide Try.prog W .any base 24 v) (h : DataW.Trod enc Try.prog W 0 (fun _ => true) true 24 v d p) :
    ∃ (C : Int) (a : Option Addr) (len cap : Nat) (l : List Str), v = .agg ⟨[.int .i64 C, .slice a len cap]⟩ ∧ TownIn W a len cap l := by
  obtain ⟨v0, v1, y0, y1, n, rfl, _, _, h0, h1⟩ := Joins.open_agg2 Try.underlying24 (by kernel_rfl) cellsOf24 hv h
  obtain ⟨C, rfl, _⟩ := read_int h0
  have hcell : Cell.okWide Try.prog W .any base 22 v1 := by
    unfold Value.okWide at hv
    rw [Try.underlying24] at hv
    obtain ⟨cs, hcs, _, ts, hts, _, hrow⟩ := hv
    cases hcs
    rw [cellTypes24] at hts
    cases hts
    obtain ⟨u, hu, hc⟩ := hrow 1 v1 rfl
    cases hu
    exact hc
  rcases open_slice Try.underlying22 h1 with ⟨hn, _⟩ | ⟨a, len, cap, m, n', D, Pl, hn, _, hle, hcap, hm, _, hx⟩
  · obtain rfl : v1 = .slice none 0 0 := by simpa using hn
    exact ⟨C, none, 0, 0, [], rfl, rfl, by unfold OPEN; omega, fun s hs => by simp at hs, fun _ => ⟨rfl, rfl⟩, fun ad h => by cases h⟩
  · obtain rfl : v1 = .slice (some a) len cap := by simpa using hn
    unfold Cell.okWide at hcell
    rw [Try.underlying22] at hcell
    simp only [Cell.ok,Try.underlying22] at hcell
    obtain ⟨_, _, _, hsp, ⟨row, cells, hsh, _⟩⟩ := hcell
    have hb := shape_lt hsh
    have hm' : m = cap := by rw [hm]; rfl
    obtain ⟨S, hS⟩ := choose_lt (α := Str) (p := fun i s => s.Ok ∧ W.cells? 0 (a.add (i * 9)) 9 = some s.enc) (n := len) (fun i hi => by
      obtain ⟨cs', k1, k2⟩ := hx i (by omega)
      rw [cellsOf45] at k1
      obtain ⟨s, k3, rfl⟩ := read_str k2
      exact ⟨s, k3, k1⟩)
    have hget : ∀ i s, ((List.range len).map S)[i]? = some s → i < len ∧ s = S i := fun i s h => by
      rw [List.getElem?_map, Option.map_eq_some_iff] at h
      obtain ⟨j, hj, rfl⟩ := h
      have := List.getElem?_eq_some_iff.1 hj
      obtain ⟨q1, q2⟩ := this
      rw [List.getElem_range] at q2
      subst q2
      exact ⟨by simpa using q1, rfl⟩
    refine ⟨C, some a, len, cap, (List.range len).map S, rfl, by simp, ?_, ?_, (fun h => by cases h), ?_⟩
    · unfold maxLen at hcap
      unfold OPEN
      omega
    · intro s hs
      obtain ⟨i, hi⟩ := List.getElem?_of_mem hs
      obtain ⟨k1, rfl⟩ := hget i s hi
      exact (hS i k1).1
    · intro ad had
      cases had
      refine ⟨hsp, hb, fun i s hi j v hj => ?_⟩
      obtain ⟨k1, rfl⟩ := hget i s hi
      obtain ⟨_, _, hc⟩ := World.cells?_some (hS i k1).2
      have hj9 : j < 9 := by
        have := (List.getElem?_eq_some_iff.1 hj).1
        rwa [enc_len] at this
      have := hc j hj9
      rw [hj, add_add, add_off hsp] at this
      exact this
/-- A law's end: it gave true, and below the old size of memory nothing has turned. -/
theorem law_post {P : Program} {f : Func} {s : ChangeSpec} {fresh handsOn again : Bool} {W W' : World} {args : Array Value} {v : Value} {ds gs : List (DataW X)} {ps : List MemPlace}
    (hW : DataW.Whole enc P f.params.toList s.vars false W args.toList ds gs (ps ++ [])) (hb : Below W.heap.size W W')
    (hres : ∀ (b : Nat) (sp : Nat → Bool) (hd : Bool), DataW.TrodAll enc P W' b sp hd f.resultTypes.toList (v.resultList f.resultTypes.size) (s.fn X (ds ++ gs)).results [])
    (hargs : ∀ sp : Nat → Bool, (∀ p ∈ ps, sp p.block = true) → DataW.TrodAll enc P W' 0 sp true f.params.toList args.toList (s.fn X (ds ++ gs)).args ps)
    (hvars : ∀ sp : Nat → Bool, DataW.TrodVars enc P W' sp s.vars (s.fn X (ds ++ gs)).vars [])
    (hok : ∀ (j : Nat) (t : TypeId) (r : Value), f.resultTypes[j]? = some t → (v.resultList f.resultTypes.size)[j]? = some r → Value.okWide P W' .any 0 t r) :
    s.post enc P f false fresh handsOn again W args v W' := by
  have lt : ∀ p ∈ ps, p.block < W.heap.size := fun p hp => hW.lt p (List.mem_append_left _ hp)
  have all := hargs (fun _ => true) fun _ _ => rfl
  have old := hargs (fun b => decide (b < W.heap.size)) fun p hp => decide_eq_true (lt p hp)
  refine ⟨ds, gs, ps ++ [], [], ps, [], hW, hres _ _ _, old, hvars _, World.keptBut_mono (fun p hp => ⟨hp, .inr (List.mem_append.1 hp)⟩) (hb.frame (· ∈ ps ++ [])), fun _ => ⟨hok, _, _, ([] ++ ps) ++ [], ⟨[] ++ ps, [], trodAll_append all (hres _ _ _), hvars _, rfl, ?_, fun h => by cases h⟩, fun p hp _ => by simpa using hp⟩⟩
  obtain ⟨_, _, _, _, _, hz, _⟩ := hW
  intro b o hp
  have hp' : MemPlace.cell b o ∈ ps ++ [] := by simpa using hp
  rw [hb.frozen (lt _ (by simpa using hp'))]
  exact hz b o hp'
end Go.Am
/- More arguments that are read. -/
namespace Go.Am
open Go.Proofs Go.ChangeShapes
variable {H : Type} {enc : TypeId × Value → H} {P : Program} {w : World} {base : Nat} {spare : Nat → Bool} {held : Bool}
theorem trodAll_six {t0 t1 t2 t3 t4 t5 : TypeId} {args : Array Value} {ds : List (DataW H)} {ps : List MemPlace} (h : DataW.TrodAll enc P w base spare held [t0, t1, t2, t3, t4, t5] args.toList ds ps) :
    ∃ v0 v1 v2 v3 v4 v5 d0 d1 d2 d3 d4 d5 p0 p1 p2 p3 p4 p5, args = #[v0, v1, v2, v3, v4, v5] ∧ ds = [d0, d1, d2, d3, d4, d5] ∧ ps = p0 ++ p1 ++ p2 ++ p3 ++ p4 ++ p5 ∧ DataW.Trod enc P w base spare held t0 v0 d0 p0 ∧ DataW.Trod enc P w base spare held t1 v1 d1 p1 ∧ DataW.Trod enc P w base spare held t2 v2 d2 p2 ∧ DataW.Trod enc P w base spare held t3 v3 d3 p3 ∧ DataW.Trod enc P w base spare held t4 v4 d4 p4 ∧ DataW.Trod enc P w base spare held t5 v5 d5 p5 := by
  obtain ⟨v0, vs0, d0, ds0, p0, q0, hargs, rfl, rfl, hd0, hr0⟩ := trodAll_cons h
  obtain ⟨v1, vs1, d1, ds1, p1, q1, rfl, rfl, rfl, hd1, hr1⟩ := trodAll_cons hr0
  obtain ⟨v2, vs2, d2, ds2, p2, q2, rfl, rfl, rfl, hd2, hr2⟩ := trodAll_cons hr1
  obtain ⟨v3, vs3, d3, ds3, p3, q3, rfl, rfl, rfl, hd3, hr3⟩ := trodAll_cons hr2
  obtain ⟨v4, vs4, d4, ds4, p4, q4, rfl, rfl, rfl, hd4, hr4⟩ := trodAll_cons hr3
  obtain ⟨v5, vs5, d5, ds5, p5, q5, rfl, rfl, rfl, hd5, hr5⟩ := trodAll_cons hr4
  obtain ⟨rfl, rfl, rfl⟩ := trodAll_nil hr5
  exact ⟨v0, v1, v2, v3, v4, v5, d0, d1, d2, d3, d4, d5, p0, p1, p2, p3, p4, p5, by cases args; simp_all, rfl, by simp, hd0, hd1, hd2, hd3, hd4, hd5⟩
end Go.Am
/- Bytes as they read as data, and the heap that they make. -/
namespace Go.Am
open Go.Proofs Go.Deep Go.RowKit Go.ChangeShapes Go.WideShapes Go.ChangeAt
variable {X : Type} {enc : TypeId × Value → X} {w : World} {base : Nat} {sp : Nat → Bool} {held : Bool} {n : Nat} {cs : List Value} {x : DataW X × List MemPlace}
/-- Bytes that came in: none, or bytes that lie in a row. -/
structure BytesIn (W : World) (a : Option Addr) (len cap : Nat) (bs : List Int) : Prop where
  hlen : len = bs.length
  hcap : cap < OPEN
  lt : bs.length < 9223372036854775808
  byte : ∀ x ∈ bs, 0 ≤ x ∧ x < 256
  nl : a = none → cap = 0 ∧ bs = []
  row : ∀ ad, a = some ad → ad.spot = none ∧ ad.block < W.heap.size ∧ ∀ i x, bs[i]? = some x → W.cell? ⟨ad.block, ad.off + i, none⟩ = some (.int .u8 x)
def u8s (bs : List Int) : List Value := bs.map fun b => .int .u8 b
theorem u8s_get {bs : List Int} {i : Nat} {v : Value} (h : (u8s bs)[i]? = some v) : ∃ x, bs[i]? = some x ∧ v = .int .u8 x := by
  unfold u8s at h
  rw [List.getElem?_map, Option.map_eq_some_iff] at h
  obtain ⟨x, h1, h2⟩ := h
  exact ⟨x, h1, h2.symm⟩
instance : Inhabited Int := ⟨0⟩
end Go.Am
/- Two rows of bytes that come in. -/
namespace Go.Am
open Go.Proofs Go.Deep Go.RowKit Go.ChangeShapes Go.WideShapes Go.ChangeAt
def twoPlace (p q : Option Addr) : Place := ⟨fun k => if k = 0 then p.map fun a => (a.block, a.off) else if k = 1 then q.map fun a => (a.block, a.off) else none, fun _ => 0⟩
def twoHeap (c d : List Value) : AHeap := (rowHeap c).alloc (.ro d)
theorem twoHeap_get0 {c d : List Value} : (twoHeap c d).get 0 = .ro c := by
  unfold twoHeap
  rw [zdb (by rw [rowHeap_size]; omega)]
  exact rowHeap_get
theorem twoHeap_get1 {c d : List Value} : (twoHeap c d).get 1 = .ro d := zda (by rw [rowHeap_size])
theorem twoHeap_size {c d : List Value} : (twoHeap c d).size = 2 := by
  unfold twoHeap
  rw [zde, rowHeap_size]
theorem twoRel {W : World} {p q : Option Addr} {c d : List Value} (hp : ∀ a, p = some a → a.block < W.heap.size ∧ ∀ (i : Nat) (v : Value), c[i]? = some v → gr v = true ∧ W.cell? ⟨a.block, a.off + i, none⟩ = some v)
    (hq : ∀ a, q = some a → a.block < W.heap.size ∧ ∀ (i : Nat) (v : Value), d[i]? = some v → gr v = true ∧ W.cell? ⟨a.block, a.off + i, none⟩ = some v) : Rel (twoPlace p q) (twoHeap c d) W where
  lt k b' s h := by
    rw [twoHeap_size]
    unfold twoPlace at h
    simp only at h
    split at h
    · rename_i hk
      obtain ⟨a, ha, he⟩ := Option.map_eq_some_iff.1 h
      cases he
      exact ⟨by omega, (hp a ha).1⟩
    · split at h
      · obtain ⟨a, ha, he⟩ := Option.map_eq_some_iff.1 h
        cases he
        exact ⟨by omega, (hq a ha).1⟩
      · cases h
  holds k b' s h := by
    unfold twoPlace at h
    simp only at h
    split at h
    · rename_i hk
      subst hk
      obtain ⟨a, ha, he⟩ := Option.map_eq_some_iff.1 h
      cases he
      rw [twoHeap_get0]
      intro i v hi
      obtain ⟨g1, g2⟩ := (hp a ha).2 i v hi
      exact ⟨(gr_ok _ g1).1, by rw [(gr_ok _ g1).2]; exact g2⟩
    · split at h
      · rename_i hk
        subst hk
        obtain ⟨a, ha, he⟩ := Option.map_eq_some_iff.1 h
        cases he
        rw [twoHeap_get1]
        intro i v hi
        obtain ⟨g1, g2⟩ := (hq a ha).2 i v hi
        exact ⟨(gr_ok _ g1).1, by rw [(gr_ok _ g1).2]; exact g2⟩
      · cases h
  excl k k' b' s s' h h' hne al hal := by
    unfold twoPlace at h
    simp only at h
    split at h
    · rename_i hk
      subst hk
      rw [twoHeap_get0] at hal
      cases hal
    · split at h
      · rename_i hk
        subst hk
        rw [twoHeap_get1] at hal
        cases hal
      · cases h
/-- Where a row of bytes lies on the machine. -/
def atK (k : Nat) (a : Option Addr) : Option Addr := a.map fun _ => ⟨k, 0, none⟩
theorem BytesIn.cells {W : World} {a : Option Addr} {len cap : Nat} {bs : List Int} (t : BytesIn W a len cap bs) : ∀ ad, a = some ad → ad.block < W.heap.size ∧ ∀ (i : Nat) (v : Value), (u8s bs)[i]? = some v → gr v = true ∧ W.cell? ⟨ad.block, ad.off + i, none⟩ = some v := fun ad h => by
  obtain ⟨_, hb, hrow⟩ := t.row ad h
  refine ⟨hb, fun i v hi => ?_⟩
  obtain ⟨x, h1, rfl⟩ := u8s_get hi
  exact ⟨rfl, hrow i x h1⟩
theorem BytesIn.okv {W : World} {a : Option Addr} {len cap : Nat} {bs : List Int} (t : BytesIn W a len cap bs) {σ : Place} {k : Nat} (h : σ.at_ k = a.map fun ad => (ad.block, ad.off)) : Go.Am.okv σ (.slice (atK k a) bs.length cap) := by
  cases a with
  | none =>
    have := t.hcap
    simpa [Go.Am.okv, atK] using this
  | some ad =>
    simp only [atK,Option.map_some,Go.Am.okv]
    exact ⟨trivial, by rw [h]; rfl, fun hc => absurd t.hcap (by omega)⟩
theorem BytesIn.ren {W : World} {a : Option Addr} {len cap : Nat} {bs : List Int} (t : BytesIn W a len cap bs) {σ : Place} {k : Nat} (h : σ.at_ k = a.map fun ad => (ad.block, ad.off)) : Go.Am.ren σ (.slice (atK k a) bs.length cap) = .slice a bs.length cap := by
  cases a with
  | none =>
    obtain ⟨rfl, rfl⟩ := t.nl rfl
    exact (gr_ok σ (v := .slice none 0 0) rfl).2
  | some ad =>
    obtain ⟨b, o, s⟩ := ad
    obtain ⟨hs, _, _⟩ := t.row _ rfl
    simp only at hs
    subst hs
    simp [Go.Am.ren, atK, Place.cap, t.hcap, Place.addr, h]
end Go.Am
/- A town and legs that come in. -/
namespace Go.Am
open Go.Proofs Go.Deep Go.RowKit Go.ChangeShapes Go.WideShapes Go.ChangeAt
variable {X : Type} {enc : TypeId × Value → X}
/-- Legs that came in: none, or legs that lie in a row. -/
structure LegsIn (W : World) (a : Option Addr) (len cap : Nat) (ls : List (Int × Bool)) : Prop where
  hlen : len = ls.length
  hcap : cap < OPEN
  nl : a = none → cap = 0 ∧ ls = []
  row : ∀ ad, a = some ad → ad.spot = none ∧ ad.block < W.heap.size ∧ ∀ i p, ls[i]? = some p → ∀ j v, [Value.int .i64 p.1, .bool p.2][j]? = some v → W.cell? ⟨ad.block, ad.off + (i * 2 + j), none⟩ = some v
theorem cellsOf28 : Try.prog.cellsOf 28 = 2 := by kernel_rfl
theorem lgs_get : ∀ (l : List (Int × Bool)) (i : Nat) (v : Value), (lgs l)[i]? = some v → ∃ p, l[i / 2]? = some p ∧ [Value.int .i64 p.1, .bool p.2][i % 2]? = some v
  | [], i, v, h => by simp [lgs] at h
  | p :: l, 0, v, h => ⟨p, rfl, by simpa [lgs] using h⟩
  | p :: l, 1, v, h => ⟨p, rfl, by simpa [lgs] using h⟩
  | p :: l, i + 2, v, h => by
    obtain ⟨q, h1, h2⟩ := lgs_get l i v (by simpa [lgs] using h)
    refine ⟨q, ?_, ?_⟩
    · rw [show (i + 2) / 2 = i / 2 + 1 by omega]
      simpa using h1
    · rw [show (i + 2) % 2 = i % 2 by omega]; exact h2
theorem leg_gr {p : Int × Bool} : ∀ (j : Nat) (v : Value), [Value.int .i64 p.1, .bool p.2][j]? = some v → gr v = true
  | 0, v, h => by cases h; rfl
  | 1, v, h => by cases h; rfl
  | j + 2, v, h => by simp at h
section
variable {w : World} {base n : Nat} {sp : Nat → Bool} {held : Bool} {cs : List Value} {x : DataW X × List MemPlace}
set_option maxRecDepth 100000 in
theorem read_leg (h : DataW.trod enc Try.prog w base sp held n 28 cs = some x) : ∃ p : Int × Bool, cs = [.int .i64 p.1, .bool p.2] := by
  obtain ⟨xs, n, _, rfl, hl, hlen, hf⟩ := DataW.trod_struct Try.underlying28 h
  rw [cellsOf28] at hl
  match cs, hl with
  | [c0, c1], _ =>
    obtain ⟨y0, h0⟩ := field_of hlen hf 0 rfl
    obtain ⟨y1, h1⟩ := field_of hlen hf 1 rfl
    obtain ⟨i0, rfl, k0⟩ := read_int (c := c0) (by simpa [cellsOf3] using h0)
    obtain ⟨b1, rfl⟩ := read_bool (c := c1) (by simpa [cellsOf4] using h1)
    exact ⟨(i0, b1), rfl⟩
end
instance : Inhabited (Int × Bool) := ⟨(0, false)⟩
set_option maxRecDepth 100000 in
theorem legs_read {W : World} {base : Nat} {v : Value} {d : DataW X} {p : List MemPlace} (hv : Value.okWide Try.prog W .any base 65 v) (h : DataW.Trod enc Try.prog W 0 (fun _ => true) true 65 v d p) :
    ∃ (a : Option Addr) (len cap : Nat) (ls : List (Int × Bool)), v = .slice a len cap ∧ LegsIn W a len cap ls := by
  obtain ⟨fuel, h⟩ := h
  have key : ∀ a len cap, v = .slice a len cap → ∃ (a : Option Addr) (len cap : Nat) (ls : List (Int × Bool)), v = .slice a len cap ∧ LegsIn W a len cap ls := by
    rintro a₀ len₀ cap₀ rfl
    rcases open_slice Try.underlying65 h with ⟨hn, _⟩ | ⟨a, len, cap, m, n', D, Pl, hn, _, hle, hcap, hm, _, hx⟩
    · have hn' : Value.slice a₀ len₀ cap₀ = .slice none 0 0 := by simpa [Value.cells] using hn
      cases hn'
      exact ⟨none, 0, 0, [], rfl, rfl, by unfold OPEN; omega, fun _ => ⟨rfl, rfl⟩, fun ad h => by cases h⟩
    · have hn' : Value.slice a₀ len₀ cap₀ = .slice (some a) len cap := by simpa [Value.cells] using hn
      obtain ⟨rfl, rfl, rfl⟩ : a₀ = some a ∧ len₀ = len ∧ cap₀ = cap := by simpa using hn'
      unfold Value.okWide at hv
      rw [Try.underlying65] at hv
      simp only [Cell.okWide,Cell.ok,Try.underlying65] at hv
      obtain ⟨_, _, _, hsp, ⟨row, cells, hsh, _⟩⟩ := hv
      have hb := shape_lt hsh
      have hm' : m = cap₀ := by rw [hm]; rfl
      obtain ⟨S, hS⟩ := choose_lt (α := Int × Bool) (p := fun i s => W.cells? 0 (a.add (i * 2)) 2 = some [.int .i64 s.1, .bool s.2]) (n := len₀) (fun i hi => by
        obtain ⟨cs', k1, k2⟩ := hx i (by omega)
        rw [cellsOf28] at k1
        obtain ⟨s, rfl⟩ := read_leg k2
        exact ⟨s, k1⟩)
      have hget : ∀ i s, ((List.range len₀).map S)[i]? = some s → i < len₀ ∧ s = S i := fun i s h => by
        rw [List.getElem?_map, Option.map_eq_some_iff] at h
        obtain ⟨j, hj, rfl⟩ := h
        have := List.getElem?_eq_some_iff.1 hj
        obtain ⟨q1, q2⟩ := this
        rw [List.getElem_range] at q2
        subst q2
        exact ⟨by simpa using q1, rfl⟩
      unfold maxLen at hcap
      refine ⟨some a, len₀, cap₀, (List.range len₀).map S, rfl, by simp, by unfold OPEN; omega, (fun h => by cases h), ?_⟩
      intro ad had
      cases had
      refine ⟨hsp, hb, fun i s hi j v hj => ?_⟩
      obtain ⟨k1, rfl⟩ := hget i s hi
      obtain ⟨_, _, hc⟩ := World.cells?_some (hS i k1)
      have hj2 : j < 2 := by
        have := (List.getElem?_eq_some_iff.1 hj).1
        simpa using this
      have := hc j hj2
      rw [hj, add_add, add_off hsp] at this
      exact this
  cases v with
  | slice a len cap => exact key _ _ _ rfl
  | _ =>
    exfalso
    unfold Value.okWide at hv
    rw [Try.underlying65] at hv
    first | exact hv | (simp only [Cell.okWide,Cell.ok,Try.underlying65] at hv) | (simp at hv)
theorem okvK {σ : Place} {a : Option Addr} {k n cap : Nat} (h : σ.at_ k = a.map fun ad => (ad.block, ad.off)) (hc : cap < OPEN) : Go.Am.okv σ (.slice (atK k a) n cap) := by
  cases a with
  | none => simpa [Go.Am.okv, atK] using hc
  | some ad =>
    simp only [atK,Option.map_some,Go.Am.okv]
    exact ⟨trivial, by rw [h]; rfl, fun hc' => absurd hc (by omega)⟩
theorem renK {σ : Place} {a : Option Addr} {k n cap : Nat} (h : σ.at_ k = a.map fun ad => (ad.block, ad.off)) (hc : cap < OPEN) (hn : a = none → n = 0 ∧ cap = 0) (hs : ∀ ad, a = some ad → ad.spot = none) : Go.Am.ren σ (.slice (atK k a) n cap) = .slice a n cap := by
  cases a with
  | none =>
    obtain ⟨rfl, rfl⟩ := hn rfl
    exact (gr_ok σ (v := .slice none 0 0) rfl).2
  | some ad =>
    obtain ⟨b, o, s⟩ := ad
    have := hs _ rfl
    simp only at this
    subst this
    simp [Go.Am.ren, atK, Place.cap, hc, Place.addr, h]
theorem town_legs_calls {W : World} {a al : Option Addr} {len cap len2 cap2 : Nat} {l : List Str} {ls : List (Int × Bool)} (t : TownIn W a len cap l) (t2 : LegsIn W al len2 cap2 ls) {f : FuncId} {C : Int} {mid : List Value} (hr : allGrV mid = true) {n : Nat}
    (h : ∀ (H : AHeap) (a' al' : Option Addr), Sl H a' l → (a' = none → cap = 0) → Lg H al' ls → acall tabA (aexec tabA Try.prog n) f (.agg ⟨[.int .i64 C, .slice a' l.length cap]⟩ :: (mid ++ [.slice al' ls.length cap2])) H = some (true, .bool true, H, H.size)) :
    Calls Try.prog f (.agg ⟨[.int .i64 C, .slice a len cap]⟩ :: (mid ++ [.slice al len2 cap2])).toArray W fun e w' => e = .returned (.bool true) ∧ Below W.heap.size W w' := by
  obtain rfl := t.hlen
  obtain rfl := t2.hlen
  have hsl : Sl (twoHeap (flat l) (lgs ls)) (atK 0 a) l := by
    cases a with
    | none =>
      obtain ⟨_, rfl⟩ := t.nl rfl
      exact ⟨fun h => absurd rfl h, fun _ _ _ _ h => absurd rfl h⟩
    | some ad => exact sl_flat (by rw [twoHeap_size]; omega) (by rw [twoHeap_get0]; rfl)
  have hlg : Lg (twoHeap (flat l) (lgs ls)) (atK 1 al) ls := by
    cases al with
    | none =>
      obtain ⟨_, rfl⟩ := t2.nl rfl
      exact Lg.nil
    | some ad => exact ⟨fun _ => ⟨1, 0, lgs ls, rfl, by rw [twoHeap_size]; omega, by rw [twoHeap_get1]; rfl, fun i p hi => by rw [Nat.zero_add]; exact lgs_part hi⟩⟩
  have hcap0 : atK 0 a = none → cap = 0 := fun h => by
    cases a with
    | none => exact (t.nl rfl).1
    | some ad => cases h
  have h1 := call_ok tabA_fits (h (twoHeap (flat l) (lgs ls)) (atK 0 a) (atK 1 al) hsl hcap0 hlg)
  have hR : Rel (twoPlace a al) (twoHeap (flat l) (lgs ls)) W := twoRel (fun ad had => by
      obtain ⟨_, hb, hrow⟩ := t.row ad had
      refine ⟨hb, fun i v hi => ?_⟩
      obtain ⟨s, k1, k2⟩ := flat_get l i v hi
      have := hrow _ s k1 _ v k2
      rw [show i / 9 * 9 + i % 9 = i by omega] at this
      exact ⟨enc_int s _ v k2, this⟩) (fun ad had => by
      obtain ⟨_, hb, hrow⟩ := t2.row ad had
      refine ⟨hb, fun i v hi => ?_⟩
      obtain ⟨s, k1, k2⟩ := lgs_get ls i v hi
      have := hrow _ s k1 _ v k2
      rw [show i / 2 * 2 + i % 2 = i by omega] at this
      exact ⟨leg_gr _ v k2, this⟩)
  have e1 : (twoPlace a al).at_ 0 = a.map fun ad => (ad.block, ad.off) := rfl
  have e2 : (twoPlace a al).at_ 1 = al.map fun ad => (ad.block, ad.off) := rfl
  have h2 := calls_below h1 rfl hR fun x hx => by
    rcases List.mem_cons.1 hx with rfl | hx
    · simp only [okv]
      intro v hv
      simp only [Array.mem_def,List.mem_cons,List.not_mem_nil,or_false] at hv
      rcases hv with rfl | rfl
      · simp only [okv]
      · exact okvK e1 t.hcap
    rcases List.mem_append.1 hx with hx | hx
    · exact (gr_ok _ (allGrV_mem hr x hx)).1
    · simp only [List.mem_singleton] at hx
      subst hx
      exact okvK e2 t2.hcap
  have e : (Value.agg ⟨[.int .i64 C, .slice (atK 0 a) l.length cap]⟩ :: (mid ++ [.slice (atK 1 al) ls.length cap2])).map (ren (twoPlace a al)) = Value.agg ⟨[.int .i64 C, .slice a l.length cap]⟩ :: (mid ++ [.slice al ls.length cap2]) := by
    have r1 := renK (n := l.length) e1 t.hcap (fun h => by have := t.nl h; exact ⟨by rw [this.2]; rfl, this.1⟩) (fun ad h => (t.row ad h).1)
    have r2 := renK (n := ls.length) e2 t2.hcap (fun h => by have := t2.nl h; exact ⟨by rw [this.2]; rfl, this.1⟩) (fun ad h => (t2.row ad h).1)
    rw [List.map_cons, List.map_append, allGrV_ren hr, List.map_cons, List.map_nil, r2]
    congr 1
    simp [ren, r1]
  rw [e] at h2
  exact h2
end Go.Am
