/- Bytes as they read as data, and the heap that they make. -/
import Derived.Test.YtnibabkgeolenaaT30
import Derived.Test.YtnibabkgeolenaaRows
import Derived.Carry
import Derived.ChangeArms
import Derived.Lib.SmallJoins
import Derived.WideKeyArgs
import Derived.Deep.Slices
import Derived.WalkKit
import Derived.ProofKit
import Derived.OpenShut
set_option linter.unusedSimpArgs false
set_option linter.unusedVariables false
namespace Go.Am
open Go.Proofs Go.Deep Go.RowKit Go.ChangeShapes Go.WideShapes Go.ChangeAt
variable {X : Type} {enc : TypeId × Value → X} {w : World} {base : Nat} {sp : Nat → Bool} {held : Bool} {n : Nat} {cs : List Value} {x : DataW X × List MemPlace}
/-- Arguments read in a world that has what was there as they did. -/
theorem trodAll_stays {P : Program} (hl : laidOutB P = true) {W W' : World} {sp' : Nat → Bool} (hsame : ∀ k, k < W.heap.size → W'.heap[k]? = W.heap[k]?) : ∀ {ts : List TypeId} {vs : List Value} {ds : List (DataW X)} {ps : List MemPlace}, (∀ t ∈ ts, P.readableRec t = true ∧ t < P.types.size) →
    DataW.TrodAll enc P W 0 (fun _ => true) true ts vs ds ps → (∀ p ∈ ps, p.block < W.heap.size) → (∀ p ∈ ps, sp' p.block = true) → DataW.TrodAll enc P W' 0 sp' true ts vs ds ps
  | [], [], [], _, _, h, _, _ => h
  | t :: ts, v :: vs, d :: ds, _, ht, ⟨p, q, h1, h2, e⟩, hlt, hs => by
    subst e
    refine ⟨p, q, ?_, trodAll_stays hl hsame (fun t h => ht t (List.mem_cons_of_mem _ h)) h2 (fun x hx => hlt x (List.mem_append_right _ hx)) (fun x hx => hs x (List.mem_append_right _ hx)), rfl⟩
    refine WideElems.Trod_stays hl (ht t (by simp)).1 (ht t (by simp)).2 h1 (fun x hx => ?_) (fun x hx => hs x (List.mem_append_left _ hx))
    cases x with
    | cell b o => exact World.cell?_of_block (w := W) (hsame b (hlt _ (List.mem_append_left _ hx)))
    | map b => exact hsame b (hlt _ (List.mem_append_left _ hx))
/-- A call that changes nothing and gives a value without addresses, in any world in which its arguments stand. -/
theorem calls_below {P : Program} {f : FuncId} {args : List Value} {H : AHeap} {v : Value} (h : SCall P f args H v H H.size) (hg : gr v = true) {σ : Place} {W : World} (r : Rel σ H W) (ha : ∀ x ∈ args, okv σ x) :
    Calls P f (args.map (ren σ)).toArray W fun e w' => e = .returned v ∧ Below W.heap.size W w' := by
  refine callsIn_wide (n := 0).1 ((h Fence.wide 0 σ W free_wide r ha).mono ?_)
  rintro e w' ⟨σ', rfl, _, _, x⟩
  exact ⟨by rw [(gr_ok σ' hg).2], x.os, x.tape, x.output, x.wsize, fun b hb => x.frame b hb fun k s hk hp => absurd (r.lt k b s hp).1 (by omega)⟩
/-- The place of one row that came in. -/
def rowPlace (b o : Nat) : Place := ⟨fun k => if k = 0 then some (b, o) else none, fun _ => 0⟩
def rowHeap (c : List Value) : AHeap := AHeap.alloc ⟨0, .nil⟩ (.ro c)
theorem rowHeap_get {c : List Value} : (rowHeap c).get 0 = .ro c := get_alloc_eq rfl
theorem rowHeap_size {c : List Value} : (rowHeap c).size = 1 := AHeap.size_alloc _ _
theorem rowRel {W : World} {b o : Nat} {c : List Value} (hb : b < W.heap.size) (hg : ∀ (i : Nat) (v : Value), c[i]? = some v → gr v = true) (hc : ∀ (i : Nat) (v : Value), c[i]? = some v → W.cell? ⟨b, o + i, none⟩ = some v) : Rel (rowPlace b o) (rowHeap c) W where
  lt k b' s h := by
    by_cases hk : k = 0
    · subst hk
      simp only [rowPlace,if_true,Option.some.injEq,Prod.mk.injEq] at h
      rw [← h.1]
      exact ⟨by rw [rowHeap_size]; omega, hb⟩
    · simp only [rowPlace,if_neg hk] at h; cases h
  holds k b' s h := by
    by_cases hk : k = 0
    · subst hk
      simp only [rowPlace,if_true,Option.some.injEq,Prod.mk.injEq] at h
      obtain ⟨rfl, rfl⟩ := h
      rw [rowHeap_get]
      intro i v hi
      exact ⟨(gr_ok _ (hg i v hi)).1, by rw [(gr_ok _ (hg i v hi)).2]; exact hc i v hi⟩
    · simp only [rowPlace,if_neg hk] at h; cases h
  excl k k' b' s s' h h' hne al hal := by
    by_cases hk : k = 0
    · subst hk
      rw [rowHeap_get] at hal
      cases hal
    · simp only [rowPlace,if_neg hk] at h; cases h
theorem add_off {a : Addr} (h : a.spot = none) (i : Nat) : a.add i = ⟨a.block, a.off + i, none⟩ := by
  obtain ⟨b, o, s⟩ := a
  simp only at h
  subst h
  unfold Addr.add
  split
  · rename_i h0; subst h0; rfl
  · rfl
theorem shape_lt {W : World} {b : Nat} {s : TypeId × Nat} (h : W.shape? b = some s) : b < W.heap.size := by
  unfold World.shape? at h
  split at h
  · rename_i he
    exact (Array.getElem?_eq_some_iff.1 he).1
  · cases h
/-- A law's end: it gave true, and below the old size of memory nothing has turned. -/
theorem law_post {P : Program} {f : Func} {s : ChangeSpec} {fresh handsOn again : Bool} {W W' : World} {args : Array Value} {v : Value} {ds gs : List (DataW X)} {ps : List MemPlace}
    (hW : DataW.Whole enc P f.params.toList s.vars false W args.toList ds gs (ps ++ [])) (hb : Below W.heap.size W W')
    (hres : ∀ (b : Nat) (sp : Nat → Bool) (hd : Bool), DataW.TrodAll enc P W' b sp hd f.resultTypes.toList (v.resultList f.resultTypes.size) (s.fn X (ds ++ gs)).results [])
    (hargs : ∀ sp : Nat → Bool, (∀ p ∈ ps, sp p.block = true) → DataW.TrodAll enc P W' 0 sp true f.params.toList args.toList (s.fn X (ds ++ gs)).args ps)
    (hvars : ∀ sp : Nat → Bool, DataW.TrodVars enc P W' sp s.vars (s.fn X (ds ++ gs)).vars [])
    (hok : ∀ (j : Nat) (t : TypeId) (r : Value), f.resultTypes[j]? = some t → (v.resultList f.resultTypes.size)[j]? = some r → Value.okWide P W' .any 0 t r) :
    s.post enc P f false fresh handsOn again W args v W' := by
  have lt : ∀ p ∈ ps, p.block < W.heap.size := fun p hp => hW.lt p (List.mem_append_left _ hp)
  have all := hargs (fun _ => true) fun _ _ => rfl
  have old := hargs (fun b => decide (b < W.heap.size)) fun p hp => decide_eq_true (lt p hp)
  refine ⟨ds, gs, ps ++ [], [], ps, [], hW, hres _ _ _, old, hvars _, World.keptBut_mono (fun p hp => ⟨hp, .inr (List.mem_append.1 hp)⟩) (hb.frame (· ∈ ps ++ [])), fun _ => ⟨hok, _, _, ([] ++ ps) ++ [], ⟨[] ++ ps, [], trodAll_append all (hres _ _ _), hvars _, rfl, ?_, fun h => by cases h⟩, fun p hp _ => by simpa using hp⟩⟩
  obtain ⟨_, _, _, _, _, hz, _⟩ := hW
  intro b o hp
  have hp' : MemPlace.cell b o ∈ ps ++ [] := by simpa using hp
  rw [hb.frozen (lt _ (by simpa using hp'))]
  exact hz b o hp'
theorem wf_u8 {i : Int} (h : (Lit.int .u8 i).wf = true) : 0 ≤ i ∧ i < 256 := by
  unfold Lit.wf at h
  simp only [Bool.and_eq_true,decide_eq_true_eq] at h
  have h1 : IntKind.u8.min = 0 := rfl
  have h2 : IntKind.u8.max = 255 := rfl
  omega
theorem read_u8 {c : Value} {y : DataW X × List MemPlace} (h : DataW.trod enc Try.prog w base sp held n 5 [c] = some y) : ∃ i, c = .int .u8 i ∧ 0 ≤ i ∧ i < 256 := by
  obtain ⟨i, h1, _, h3⟩ := DataW.trod_int Try.underlying5 h
  exact ⟨i, by simpa using h1, (wf_u8 h3).1, (wf_u8 h3).2⟩
theorem cellsOf5 : Try.prog.cellsOf 5 = 1 := by kernel_rfl
/-- Bytes that came in: none, or bytes that lie in a row. -/
structure BytesIn (W : World) (a : Option Addr) (len cap : Nat) (bs : List Int) : Prop where
  hlen : len = bs.length
  hcap : cap < OPEN
  lt : bs.length < 9223372036854775808
  byte : ∀ x ∈ bs, 0 ≤ x ∧ x < 256
  nl : a = none → cap = 0 ∧ bs = []
  row : ∀ ad, a = some ad → ad.spot = none ∧ ad.block < W.heap.size ∧ ∀ i x, bs[i]? = some x → W.cell? ⟨ad.block, ad.off + i, none⟩ = some (.int .u8 x)
def u8s (bs : List Int) : List Value := bs.map fun b => .int .u8 b
theorem u8s_get {bs : List Int} {i : Nat} {v : Value} (h : (u8s bs)[i]? = some v) : ∃ x, bs[i]? = some x ∧ v = .int .u8 x := by
  unfold u8s at h
  rw [List.getElem?_map, Option.map_eq_some_iff] at h
  obtain ⟨x, h1, h2⟩ := h
  exact ⟨x, h1, h2.symm⟩
theorem bytes_calls {W : World} {a : Option Addr} {len cap : Nat} {bs : List Int} (t : BytesIn W a len cap bs) {f : FuncId} {rest : List Value} (hr : allGrV rest = true) {n : Nat}
    (h : ∀ (H : AHeap) (a' : Option Addr), Bts H a' bs → acall tabA (aexec tabA Try.prog n) f (.slice a' bs.length cap :: rest) H = some (true, .bool true, H, H.size)) :
    Calls Try.prog f (.slice a len cap :: rest).toArray W fun e w' => e = .returned (.bool true) ∧ Below W.heap.size W w' := by
  obtain rfl := t.hlen
  cases a with
  | none =>
    obtain ⟨hc, rfl⟩ := t.nl rfl
    have h1 := call_ok tabA_fits (h ⟨0, .nil⟩ none ⟨fun h => absurd rfl h, t.byte, t.lt⟩)
    have hall : allGrV (.slice none 0 cap :: rest) = true := by
      subst hc
      show (gr (.slice none 0 0) && allGrV rest) = true
      rw [hr]; rfl
    have h2 := calls_below h1 rfl (rel_nowhere _ W) fun x hx => (gr_ok nowhere (allGrV_mem hall x hx)).1
    rw [show (Value.slice none ([] : List Int).length cap :: rest).map (ren nowhere) = Value.slice none ([] : List Int).length cap :: rest from allGrV_ren hall] at h2
    exact h2
  | some ad =>
    obtain ⟨b, o, s⟩ := ad
    obtain ⟨hs, hb, hrow⟩ := t.row _ rfl
    simp only at hs hb hrow
    subst hs
    have hbt : Bts (rowHeap (u8s bs)) (some ⟨0, 0, none⟩) bs := ⟨fun _ => ⟨0, 0, u8s bs, rfl, by rw [rowHeap_size]; omega, rowHeap_get, fun i x hi => by
      unfold u8s
      rw [Nat.zero_add, List.getElem?_map, hi]; rfl⟩, t.byte, t.lt⟩
    have h1 := call_ok tabA_fits (h (rowHeap (u8s bs)) (some ⟨0, 0, none⟩) hbt)
    have hR : Rel (rowPlace b o) (rowHeap (u8s bs)) W := rowRel hb (fun i v hi => by
      obtain ⟨x, _, rfl⟩ := u8s_get hi
      rfl) (fun i v hi => by
      obtain ⟨x, h1, rfl⟩ := u8s_get hi
      exact hrow i x h1)
    have h2 := calls_below h1 rfl hR fun x hx => by
      rcases List.mem_cons.1 hx with rfl | hx
      · simp only [okv]
        exact ⟨trivial, rfl, fun hc => absurd t.hcap (by omega)⟩
      · exact (gr_ok _ (allGrV_mem hr x hx)).1
    have e : (Value.slice (some ⟨0, 0, none⟩) bs.length cap :: rest).map (ren (rowPlace b o)) = Value.slice (some ⟨b, o, none⟩) bs.length cap :: rest := by
      rw [List.map_cons, allGrV_ren hr]
      congr 1
      simp [ren, Place.cap, t.hcap, Place.addr, rowPlace]
    rw [e] at h2
    exact h2
instance : Inhabited Int := ⟨0⟩
set_option maxRecDepth 100000 in
theorem bytes_read {W : World} {base : Nat} {v : Value} {d : DataW X} {p : List MemPlace} (hv : Value.okWide Try.prog W .any base 67 v) (h : DataW.Trod enc Try.prog W 0 (fun _ => true) true 67 v d p) :
    ∃ (a : Option Addr) (len cap : Nat) (bs : List Int), v = .slice a len cap ∧ BytesIn W a len cap bs := by
  obtain ⟨fuel, h⟩ := h
  have key : ∀ a len cap, v = .slice a len cap → ∃ (a : Option Addr) (len cap : Nat) (bs : List Int), v = .slice a len cap ∧ BytesIn W a len cap bs := by
    rintro a₀ len₀ cap₀ rfl
    rcases open_slice Try.underlying67 h with ⟨hn, _⟩ | ⟨a, len, cap, m, n', D, Pl, hn, _, hle, hcap, hm, _, hx⟩
    · have hn' : Value.slice a₀ len₀ cap₀ = .slice none 0 0 := by simpa [Value.cells] using hn
      cases hn'
      exact ⟨none, 0, 0, [], rfl, rfl, by unfold OPEN; omega, by simp, by simp, fun _ => ⟨rfl, rfl⟩, fun ad h => by cases h⟩
    · have hn' : Value.slice a₀ len₀ cap₀ = .slice (some a) len cap := by simpa [Value.cells] using hn
      obtain ⟨rfl, rfl, rfl⟩ : a₀ = some a ∧ len₀ = len ∧ cap₀ = cap := by simpa using hn'
      unfold Value.okWide at hv
      rw [Try.underlying67] at hv
      simp only [Cell.okWide,Cell.ok,Try.underlying67] at hv
      obtain ⟨_, _, _, hsp, ⟨row, cells, hsh, _⟩⟩ := hv
      have hb := shape_lt hsh
      have hm' : m = cap₀ := by rw [hm]; rfl
      obtain ⟨S, hS⟩ := choose_lt (α := Int) (p := fun i s => (0 ≤ s ∧ s < 256) ∧ W.cells? 0 (a.add i) 1 = some [.int .u8 s]) (n := len₀) (fun i hi => by
        obtain ⟨cs', k1, k2⟩ := hx i (by omega)
        rw [cellsOf5, Nat.mul_one] at k1
        have hl1 : cs'.length = 1 := (World.cells?_some k1).2.1
        match cs', hl1 with
        | [c], _ =>
          obtain ⟨s, rfl, k3, k4⟩ := read_u8 k2
          exact ⟨s, ⟨k3, k4⟩, k1⟩)
      have hget : ∀ i s, ((List.range len₀).map S)[i]? = some s → i < len₀ ∧ s = S i := fun i s h => by
        rw [List.getElem?_map, Option.map_eq_some_iff] at h
        obtain ⟨j, hj, rfl⟩ := h
        have := List.getElem?_eq_some_iff.1 hj
        obtain ⟨q1, q2⟩ := this
        rw [List.getElem_range] at q2
        subst q2
        exact ⟨by simpa using q1, rfl⟩
      unfold maxLen at hcap
      refine ⟨some a, len₀, cap₀, (List.range len₀).map S, rfl, by simp, by unfold OPEN; omega, by simp; omega, ?_, (fun h => by cases h), ?_⟩
      · intro s hs
        obtain ⟨i, hi⟩ := List.getElem?_of_mem hs
        obtain ⟨k1, rfl⟩ := hget i s hi
        exact (hS i k1).1
      · intro ad had
        cases had
        refine ⟨hsp, hb, fun i s hi => ?_⟩
        obtain ⟨k1, rfl⟩ := hget i s hi
        obtain ⟨_, _, hc⟩ := World.cells?_some (hS i k1).2
        have := hc 0 (by omega)
        rw [add_add, add_off hsp] at this
        simpa using this
  cases v with
  | slice a len cap => exact key _ _ _ rfl
  | _ =>
    exfalso
    unfold Value.okWide at hv
    rw [Try.underlying67] at hv
    simp [Cell.okWide, Cell.ok, Try.underlying67] at hv
/-- Where a row of bytes lies on the machine. -/
def atK (k : Nat) (a : Option Addr) : Option Addr := a.map fun _ => ⟨k, 0, none⟩
theorem BytesIn.cells {W : World} {a : Option Addr} {len cap : Nat} {bs : List Int} (t : BytesIn W a len cap bs) : ∀ ad, a = some ad → ad.block < W.heap.size ∧ ∀ (i : Nat) (v : Value), (u8s bs)[i]? = some v → gr v = true ∧ W.cell? ⟨ad.block, ad.off + i, none⟩ = some v := fun ad h => by
  obtain ⟨_, hb, hrow⟩ := t.row ad h
  refine ⟨hb, fun i v hi => ?_⟩
  obtain ⟨x, h1, rfl⟩ := u8s_get hi
  exact ⟨rfl, hrow i x h1⟩
theorem BytesIn.okv {W : World} {a : Option Addr} {len cap : Nat} {bs : List Int} (t : BytesIn W a len cap bs) {σ : Place} {k : Nat} (h : σ.at_ k = a.map fun ad => (ad.block, ad.off)) : Go.Am.okv σ (.slice (atK k a) bs.length cap) := by
  cases a with
  | none =>
    have := t.hcap
    simpa [Go.Am.okv, atK] using this
  | some ad =>
    simp only [atK,Option.map_some,Go.Am.okv]
    exact ⟨trivial, by rw [h]; rfl, fun hc => absurd t.hcap (by omega)⟩
theorem BytesIn.ren {W : World} {a : Option Addr} {len cap : Nat} {bs : List Int} (t : BytesIn W a len cap bs) {σ : Place} {k : Nat} (h : σ.at_ k = a.map fun ad => (ad.block, ad.off)) : Go.Am.ren σ (.slice (atK k a) bs.length cap) = .slice a bs.length cap := by
  cases a with
  | none =>
    obtain ⟨rfl, rfl⟩ := t.nl rfl
    exact (gr_ok σ (v := .slice none 0 0) rfl).2
  | some ad =>
    obtain ⟨b, o, s⟩ := ad
    obtain ⟨hs, _, _⟩ := t.row _ rfl
    simp only at hs
    subst hs
    simp [Go.Am.ren, atK, Place.cap, t.hcap, Place.addr, h]
end Go.Am
/- The chute, for numbers of more than one byte, too. -/
namespace Go.Am
open Go.Proofs
variable {T : Tab} {P : Program} {N L : Nat} {H : AHeap} {Q : Bool → Value → AHeap → Prop}
section
variable {k cap q : Nat} {a : Option Addr} {bs : List Int}
set_option maxHeartbeats 1000000 in
theorem c43b {n : Int} (h : Chu H k a bs cap q) (hL : L ≤ k) (hn : 256 < n ∧ n ≤ 100000) (hu : q ≤ 1000000000) {M : Nat} (hM : 200 ≤ M) (hq : ∀ f v H', (f = true → H' = H) → Pulled n v → Chu H' k a bs cap (q + 1) → FrX k H H' → H'.size = H.size → Q f (.int .i64 v) H') :
    resK (acall tabA (aexec tabA Try.prog M) 43 [.pointer (some ⟨k, 0, none⟩), .int .i64 n] H) L Q := by
  obtain ⟨N, rfl⟩ : ∃ N, M = N + 200 := ⟨M - 200, by omega⟩
  have hlt := h.lt
  refine call_keep tabA_fr (k := 138) (rs := [.tmp 4]) (R := fun v H' => ∃ x, v = .int .i64 x ∧ Pulled n x ∧ Chu H' k a bs cap (q + 1) ∧ FrX k H H' ∧ H'.size = H.size) rfl fn_43 rfl rfl rfl (by omega) ?_ (by rintro v H' ⟨x, rfl, h0, h1, h2, h3⟩; exact hq _ _ _ (fun h => by cases h) h0 h1 h2 h3) (by rintro v H' ⟨x, rfl, h0, h1, h2, h3⟩ _ _; exact hq _ _ _ (fun _ => rfl) h0 (h.mono (by omega)) (FrX.refl _ _) rfl)
  obtain ⟨u, s, hb, ⟨hu0, hu00⟩, hu1, hs0, hs1⟩ := h.blk
  have hlen := h.len
  cases hA : decide (n < 2)
  rotate_left
  · simp (disch := (first | (simp only [ne_eq,Nat.reduceEqDiff,not_false_eq_true,Nat.reduceLT]; done) | omega | (simp only [yz] <;> omega) | fail)) only [↓yp,yq0,yq1,yq2,yq3,yq4,yl,ys0,ys1,Nat.reduceAdd,Nat.reduceMul,Nat.reduceSub,Nat.reduceBEq,Nat.reduceEqDiff,Nat.reduceLT,Nat.reduceLeDiff,reduceIte,Int.reduceAdd,Int.reduceSub,Int.reduceMul,Int.reduceLT,Int.reduceLE,Int.reduceEq,Int.reduceToNat,Int.reduceNeg,fitB,newC,endD,endR,yrg,A_nilCheck,nilQ_ptr,hb,lenV_slice st_esS_67,hA]
    exact ⟨0, rfl, ⟨by omega, .inr rfl⟩, h.mono (by omega), FrX.refl _ _⟩
  cases hB : decide ((bs.length : Int) = 0)
  rotate_left
  · simp (disch := (first | (simp only [ne_eq,Nat.reduceEqDiff,not_false_eq_true,Nat.reduceLT]; done) | omega | (simp only [yz] <;> omega) | fail)) only [↓yp,yq0,yq1,yq2,yq3,yq4,yl,ys0,ys1,Nat.reduceAdd,Nat.reduceMul,Nat.reduceSub,Nat.reduceBEq,Nat.reduceEqDiff,Nat.reduceLT,Nat.reduceLeDiff,reduceIte,Int.reduceAdd,Int.reduceSub,Int.reduceMul,Int.reduceLT,Int.reduceLE,Int.reduceEq,Int.reduceToNat,Int.reduceNeg,fitB,newC,endD,endR,yrg,A_nilCheck,nilQ_ptr,hb,lenV_slice st_esS_67,hA,hB]
    exact ⟨0, rfl, ⟨by omega, .inr rfl⟩, h.mono (by omega), FrX.refl _ _⟩
  have hn2 : 2 ≤ n := by have := of_decide_eq_false hA; omega
  have hbl : 0 < bs.length := by have := of_decide_eq_false hB; omega
  obtain ⟨b, o, c, rfl, hb2, hc, hrow⟩ := h.row (List.length_pos_iff.1 hbl)
  have h256 : decide (256 < n) = true := by simp; omega
  have hrem := fun (x y : Operand) (a : Int) => i64_rem (T := tabA) (P := Try.prog) (ty := 3) (x := x) (y := y) (a := a) (b := n) (by omega)
  simp (disch := (first | (simp only [ne_eq,Nat.reduceEqDiff,not_false_eq_true,Nat.reduceLT]; done) | omega | (simp only [yz] <;> omega) | fail)) only [↓yp,yq0,yq1,yq2,yq3,yq4,yl,ys0,ys1,Nat.reduceAdd,Nat.reduceMul,Nat.reduceSub,Nat.reduceBEq,Nat.reduceEqDiff,Nat.reduceLT,Nat.reduceLeDiff,reduceIte,Int.reduceAdd,Int.reduceSub,Int.reduceMul,Int.reduceLT,Int.reduceLE,Int.reduceEq,Int.reduceToNat,Int.reduceNeg,fitB,newC,endD,endR,yrg,A_nilCheck,nilQ_ptr,hb,lenV_slice st_esS_67,hA,hB]
  refine W_draw [] rfl (by kernel_rfl) (by kernel_rfl) (by (first | omega | (simp only [yz] <;> omega))) ?_
  cases hC : decide (w64 (u + 1) < (bs.length : Int))
  rotate_left
  · have hu2 : u + 1 < (bs.length : Int) := by have := of_decide_eq_true hC; rw [w64_of (by omega)] at this; exact this
    obtain ⟨i, rfl⟩ : ∃ i : Nat, u = i := ⟨u.toNat, by omega⟩
    obtain ⟨x, hx⟩ : ∃ x, bs[i]? = some x := ⟨bs[i]'(by omega), by simp [show i < bs.length by omega]⟩
    obtain ⟨y, hy⟩ : ∃ y, bs[i + 1]? = some y := ⟨bs[i + 1]'(by omega), by simp [show i + 1 < bs.length by omega]⟩
    have w1 : w64 ((i : Int) + 1) = ((i + 1 : Nat) : Int) := by rw [w64_of (by omega)]; omega
    have w1' : w64 ((i : Int) + 2) = (i : Int) + 2 := w64_of (by omega)
    have hcx := hrow i x hx
    have hcy := hrow (i + 1) y hy
    have hx256 := h.byte x (List.mem_of_getElem? hx)
    have hy256 := h.byte y (List.mem_of_getElem? hy)
    have w2 : w64 x = x := w64_of (by omega)
    have w3 : w64 y = y := w64_of (by omega)
    have w4 : w64 (256 * x) = 256 * x := w64_of (by omega)
    have w5 : w64 (256 * x + y) = 256 * x + y := w64_of (by omega)
    have q1 := Int.tmod_nonneg n (show 0 ≤ 256 * x + y by omega)
    have q2 := Int.tmod_lt_of_pos (256 * x + y) (show (0 : Int) < n by omega)
    rw [w1] at hC
    simp (disch := (first | (simp only [ne_eq,Nat.reduceEqDiff,not_false_eq_true,Nat.reduceLT]; done) | omega | (simp only [yz] <;> omega) | fail)) only [↓yp,yq0,yq1,yq2,yq3,yq4,yl,ys0,ys1,Nat.reduceAdd,Nat.reduceMul,Nat.reduceSub,Nat.reduceBEq,Nat.reduceEqDiff,Nat.reduceLT,Nat.reduceLeDiff,reduceIte,Int.reduceAdd,Int.reduceSub,Int.reduceMul,Int.reduceLT,Int.reduceLE,Int.reduceEq,Int.reduceToNat,Int.reduceNeg,fitB,newC,endD,endR,yrg,A_nilCheck,nilQ_ptr,hb,lenV_slice st_esS_67,w1,hC,h256]
    refine W_draw [] rfl (by kernel_rfl) (by kernel_rfl) (by (first | omega | (simp only [yz] <;> omega))) ?_
    simp (disch := (first | (simp only [ne_eq,Nat.reduceEqDiff,not_false_eq_true,Nat.reduceLT]; done) | omega | (simp only [yz] <;> omega) | fail)) only [↓yp,yq0,yq1,yq2,yq3,yq4,yl,ys0,ys1,Nat.reduceAdd,Nat.reduceMul,Nat.reduceSub,Nat.reduceBEq,Nat.reduceEqDiff,Nat.reduceLT,Nat.reduceLeDiff,reduceIte,Int.reduceAdd,Int.reduceSub,Int.reduceMul,Int.reduceLT,Int.reduceLE,Int.reduceEq,Int.reduceToNat,Int.reduceNeg,fitB,newC,endD,endR,yrg,A_nilCheck,nilQ_ptr,hb,A_indexSlice st_esS_67,hc,hcx,hcy,w1,w1']
    refine c94 (h.put (q' := q + 1) (u := (i : Int) + 2) ⟨by omega, by omega⟩ ⟨hs0, hs1⟩) hL (by omega) ?_
    intro f H' _ hc' hx' hs'
    rw [size_put] at hs'
    simp (disch := (first | (simp only [ne_eq,Nat.reduceEqDiff,not_false_eq_true,Nat.reduceLT]; done) | omega | (simp only [yz] <;> omega) | fail)) only [↓yp,yq0,yq1,yq2,yq3,yq4,yl,ys0,ys1,Nat.reduceAdd,Nat.reduceMul,Nat.reduceSub,Nat.reduceBEq,Nat.reduceEqDiff,Nat.reduceLT,Nat.reduceLeDiff,reduceIte,Int.reduceAdd,Int.reduceSub,Int.reduceMul,Int.reduceLT,Int.reduceLE,Int.reduceEq,Int.reduceToNat,Int.reduceNeg,fitB,newC,endD,endR,yrg]
    refine c94 hc' hL (by omega) ?_
    intro f H'' _ hc'' hx'' hs''
    simp (disch := (first | (simp only [ne_eq,Nat.reduceEqDiff,not_false_eq_true,Nat.reduceLT]; done) | omega | (simp only [yz] <;> omega) | fail)) only [↓yp,yq0,yq1,yq2,yq3,yq4,yl,ys0,ys1,Nat.reduceAdd,Nat.reduceMul,Nat.reduceSub,Nat.reduceBEq,Nat.reduceEqDiff,Nat.reduceLT,Nat.reduceLeDiff,reduceIte,Int.reduceAdd,Int.reduceSub,Int.reduceMul,Int.reduceLT,Int.reduceLE,Int.reduceEq,Int.reduceToNat,Int.reduceNeg,fitB,newC,endD,endR,yrg,A_conv,cv_5_3,w2,w3,w4,w5,hrem]
    exact ⟨_, rfl, ⟨q1, .inl q2⟩, hc'', ((FrX.put (FrX.refl _ _) _).trans hx').trans hx'', hs''.trans hs'⟩
  simp (disch := (first | (simp only [ne_eq,Nat.reduceEqDiff,not_false_eq_true,Nat.reduceLT]; done) | omega | (simp only [yz] <;> omega) | fail)) only [↓yp,yq0,yq1,yq2,yq3,yq4,yl,ys0,ys1,Nat.reduceAdd,Nat.reduceMul,Nat.reduceSub,Nat.reduceBEq,Nat.reduceEqDiff,Nat.reduceLT,Nat.reduceLeDiff,reduceIte,Int.reduceAdd,Int.reduceSub,Int.reduceMul,Int.reduceLT,Int.reduceLE,Int.reduceEq,Int.reduceToNat,Int.reduceNeg,fitB,newC,endD,endR,yrg,A_nilCheck,nilQ_ptr,hb,lenV_slice st_esS_67,hC,h256]
  refine W_draw [] rfl (by kernel_rfl) (by kernel_rfl) (by (first | omega | (simp only [yz] <;> omega))) ?_
  cases hD : decide (u < (bs.length : Int))
  rotate_left
  · have hu2 : u < (bs.length : Int) := of_decide_eq_true hD
    obtain ⟨i, rfl⟩ : ∃ i : Nat, u = i := ⟨u.toNat, by omega⟩
    obtain ⟨x, hx⟩ : ∃ x, bs[i]? = some x := ⟨bs[i]'(by omega), by simp [show i < bs.length by omega]⟩
    have w1 : w64 ((i : Int) + 1) = (i : Int) + 1 := w64_of (by omega)
    have hcx := hrow i x hx
    have hx256 := h.byte x (List.mem_of_getElem? hx)
    have w2 : w64 x = x := w64_of (by omega)
    simp (disch := (first | (simp only [ne_eq,Nat.reduceEqDiff,not_false_eq_true,Nat.reduceLT]; done) | omega | (simp only [yz] <;> omega) | fail)) only [↓yp,yq0,yq1,yq2,yq3,yq4,yl,ys0,ys1,Nat.reduceAdd,Nat.reduceMul,Nat.reduceSub,Nat.reduceBEq,Nat.reduceEqDiff,Nat.reduceLT,Nat.reduceLeDiff,reduceIte,Int.reduceAdd,Int.reduceSub,Int.reduceMul,Int.reduceLT,Int.reduceLE,Int.reduceEq,Int.reduceToNat,Int.reduceNeg,fitB,newC,endD,endR,yrg,A_nilCheck,nilQ_ptr,hb,lenV_slice st_esS_67,hD]
    refine W_draw [] rfl (by kernel_rfl) (by kernel_rfl) (by (first | omega | (simp only [yz] <;> omega))) ?_
    simp (disch := (first | (simp only [ne_eq,Nat.reduceEqDiff,not_false_eq_true,Nat.reduceLT]; done) | omega | (simp only [yz] <;> omega) | fail)) only [↓yp,yq0,yq1,yq2,yq3,yq4,yl,ys0,ys1,Nat.reduceAdd,Nat.reduceMul,Nat.reduceSub,Nat.reduceBEq,Nat.reduceEqDiff,Nat.reduceLT,Nat.reduceLeDiff,reduceIte,Int.reduceAdd,Int.reduceSub,Int.reduceMul,Int.reduceLT,Int.reduceLE,Int.reduceEq,Int.reduceToNat,Int.reduceNeg,fitB,newC,endD,endR,yrg,A_nilCheck,nilQ_ptr,hb,A_indexSlice st_esS_67,hc,hcx,w1]
    refine c94 (h.put (q' := q + 1) (u := (i : Int) + 1) ⟨by omega, by omega⟩ ⟨hs0, hs1⟩) hL (by omega) ?_
    intro f H' _ hc' hx' hs'
    rw [size_put] at hs'
    simp (disch := (first | (simp only [ne_eq,Nat.reduceEqDiff,not_false_eq_true,Nat.reduceLT]; done) | omega | (simp only [yz] <;> omega) | fail)) only [↓yp,yq0,yq1,yq2,yq3,yq4,yl,ys0,ys1,Nat.reduceAdd,Nat.reduceMul,Nat.reduceSub,Nat.reduceBEq,Nat.reduceEqDiff,Nat.reduceLT,Nat.reduceLeDiff,reduceIte,Int.reduceAdd,Int.reduceSub,Int.reduceMul,Int.reduceLT,Int.reduceLE,Int.reduceEq,Int.reduceToNat,Int.reduceNeg,fitB,newC,endD,endR,yrg,A_conv,cv_5_3,w2,hrem]
    refine ⟨_, rfl, ⟨Int.tmod_nonneg _ hx256.1, .inl (Int.tmod_lt_of_pos _ (by omega))⟩, hc', (FrX.put (FrX.refl _ _) _).trans hx', hs'⟩
  · have hu2 : u = (bs.length : Int) := by have := of_decide_eq_false hD; omega
    simp (disch := (first | (simp only [ne_eq,Nat.reduceEqDiff,not_false_eq_true,Nat.reduceLT]; done) | omega | (simp only [yz] <;> omega) | fail)) only [↓yp,yq0,yq1,yq2,yq3,yq4,yl,ys0,ys1,Nat.reduceAdd,Nat.reduceMul,Nat.reduceSub,Nat.reduceBEq,Nat.reduceEqDiff,Nat.reduceLT,Nat.reduceLeDiff,reduceIte,Int.reduceAdd,Int.reduceSub,Int.reduceMul,Int.reduceLT,Int.reduceLE,Int.reduceEq,Int.reduceToNat,Int.reduceNeg,fitB,newC,endD,endR,yrg,A_nilCheck,nilQ_ptr,hb,lenV_slice st_esS_67,hD]
    have wl : u64w (bs.length : Int) = (bs.length : Int) := u64w_of (by omega)
    have hreml := fun (x y : Operand) (a : Int) => u64_rem (T := tabA) (P := Try.prog) (ty := 136) (x := x) (y := y) (a := a) (b := (bs.length : Int)) (by omega)
    obtain ⟨i, hi, hi2⟩ : ∃ i : Nat, s.tmod (bs.length : Int) = i ∧ i < bs.length := by
      have q1 := Int.tmod_nonneg (bs.length : Int) hs0
      have q2 := Int.tmod_lt_of_pos s (show (0 : Int) < (bs.length : Int) by omega)
      exact ⟨(s.tmod (bs.length : Int)).toNat, by omega, by omega⟩
    have w3 : w64 (i : Int) = (i : Int) := w64_of (by omega)
    obtain ⟨x, hx⟩ : ∃ x, bs[i]? = some x := ⟨bs[i]'(by omega), by simp [hi2]⟩
    have hcx := hrow i x hx
    obtain ⟨f, v, H', m, hres, hLm, rfl, hf, hc', hx', hs'⟩ := resK_elim (Q := fun f v H' => v = .tuple ⟨[]⟩ ∧ (f = true → H' = H) ∧ Chu H' k (some ⟨b, o, none⟩) bs cap q ∧ FrX k H H' ∧ H'.size = H.size) (c94 (M := N + 194) (x := x) h hL (by omega) fun f H' h1 h2 h3 h4 => ⟨rfl, h1, h2, h3, h4⟩)
    obtain ⟨u2, s2, hb', hu2', hu3', hs2, hs3⟩ := hc'.blk
    have hc2 : H'.get b = .ro c := by
      rw [hx'.same b hb2 (fun e => by subst e; rw [hb] at hc; cases hc)]
      exact hc
    have hn64 : u64w n = n := u64w_of (by omega)
    have hremn := fun (x y : Operand) (a : Int) => u64_rem (T := tabA) (P := Try.prog) (ty := 136) (x := x) (y := y) (a := a) (b := n) (by omega)
    have hfd := fdiv_range (s := s2) (d := 1048576) ⟨hs2, hs3⟩ (by omega)
    have q1 := Int.tmod_nonneg n hfd.1
    have q2 := Int.tmod_lt_of_pos (s2.fdiv 1048576) (show (0 : Int) < n by omega)
    have w4 : w64 ((s2.fdiv 1048576).tmod n) = (s2.fdiv 1048576).tmod n := w64_of (by omega)
    cases f
    · refine W_drawR (pl := []) [19] [(8, 1)] (planK_of rfl) (by kernel_rfl) (by kernel_rfl) (by kernel_rfl) (by (first | omega | (simp only [yz] <;> omega))) ?_
      simp (disch := (first | (simp only [ne_eq,Nat.reduceEqDiff,not_false_eq_true,Nat.reduceLT]; done) | omega | (simp only [yz] <;> omega) | fail)) only [↓yp,yq0,yq1,yq2,yq3,yq4,yl,ys0,ys1,Nat.reduceAdd,Nat.reduceMul,Nat.reduceSub,Nat.reduceBEq,Nat.reduceEqDiff,Nat.reduceLT,Nat.reduceLeDiff,reduceIte,Int.reduceAdd,Int.reduceSub,Int.reduceMul,Int.reduceLT,Int.reduceLE,Int.reduceEq,Int.reduceToNat,Int.reduceNeg,fitB,newC,endD,endR,yrg,A_nilCheck,nilQ_ptr,hb,hb',lenV_slice st_esS_67,A_indexSlice st_esS_67,hc,hc2,hcx,A_conv,cv_3_136,cv_136_3,show ∀ z,IntKind.u64.wrap z = u64w z from fun _ => rfl,wl,hreml,hi,w3,hres]
      simp (disch := (first | (simp only [ne_eq,Nat.reduceEqDiff,not_false_eq_true,Nat.reduceLT]; done) | omega | (simp only [yz] <;> omega) | fail)) only [↓yp,yq0,yq1,yq2,yq3,yq4,yl,ys0,ys1,Nat.reduceAdd,Nat.reduceMul,Nat.reduceSub,Nat.reduceBEq,Nat.reduceEqDiff,Nat.reduceLT,Nat.reduceLeDiff,reduceIte,Int.reduceAdd,Int.reduceSub,Int.reduceMul,Int.reduceLT,Int.reduceLE,Int.reduceEq,Int.reduceToNat,Int.reduceNeg,fitB,newC,endD,endR,yrg,A_nilCheck,nilQ_ptr,hb',A_conv,cv_3_136,cv_136_3,show ∀ z,IntKind.u64.wrap z = u64w z from fun _ => rfl,hn64,hremn,u64_shr20,w4]
      exact ⟨_, rfl, ⟨q1, .inl q2⟩, hc'.mono (by omega), hx', hs'⟩
    · obtain rfl := hf rfl
      rw [hb] at hb'
      cases hb'
      refine W_drawR (pl := []) [] [] (planK_of rfl) (by kernel_rfl) (by kernel_rfl) (by kernel_rfl) (by (first | omega | (simp only [yz] <;> omega))) ?_
      simp (disch := (first | (simp only [ne_eq,Nat.reduceEqDiff,not_false_eq_true,Nat.reduceLT]; done) | omega | (simp only [yz] <;> omega) | fail)) only [↓yp,yq0,yq1,yq2,yq3,yq4,yl,ys0,ys1,Nat.reduceAdd,Nat.reduceMul,Nat.reduceSub,Nat.reduceBEq,Nat.reduceEqDiff,Nat.reduceLT,Nat.reduceLeDiff,reduceIte,Int.reduceAdd,Int.reduceSub,Int.reduceMul,Int.reduceLT,Int.reduceLE,Int.reduceEq,Int.reduceToNat,Int.reduceNeg,fitB,newC,endD,endR,yrg,A_nilCheck,nilQ_ptr,hb,lenV_slice st_esS_67,A_indexSlice st_esS_67,hc,hcx,A_conv,cv_3_136,cv_136_3,show ∀ z,IntKind.u64.wrap z = u64w z from fun _ => rfl,wl,hreml,hi,w3,hres]
      simp (disch := (first | (simp only [ne_eq,Nat.reduceEqDiff,not_false_eq_true,Nat.reduceLT]; done) | omega | (simp only [yz] <;> omega) | fail)) only [↓yp,yq0,yq1,yq2,yq3,yq4,yl,ys0,ys1,Nat.reduceAdd,Nat.reduceMul,Nat.reduceSub,Nat.reduceBEq,Nat.reduceEqDiff,Nat.reduceLT,Nat.reduceLeDiff,reduceIte,Int.reduceAdd,Int.reduceSub,Int.reduceMul,Int.reduceLT,Int.reduceLE,Int.reduceEq,Int.reduceToNat,Int.reduceNeg,fitB,newC,endD,endR,yrg,A_nilCheck,nilQ_ptr,hb,A_conv,cv_3_136,cv_136_3,show ∀ z,IntKind.u64.wrap z = u64w z from fun _ => rfl,hn64,hremn,u64_shr20,w4]
      exact ⟨_, rfl, ⟨q1, .inl q2⟩, h.mono (by omega), FrX.refl _ _⟩
theorem c43g {n : Int} (h : Chu H k a bs cap q) (hL : L ≤ k) (hn : n ≤ 100000) (hu : q ≤ 1000000000) {M : Nat} (hM : 200 ≤ M) (hq : ∀ f v H', (f = true → H' = H) → Pulled n v → Chu H' k a bs cap (q + 1) → FrX k H H' → H'.size = H.size → Q f (.int .i64 v) H') :
    resK (acall tabA (aexec tabA Try.prog M) 43 [.pointer (some ⟨k, 0, none⟩), .int .i64 n] H) L Q := by
  by_cases h1 : n ≤ 256
  · exact c43 h hL h1 hM hq
  · exact c43b h hL ⟨by omega, hn⟩ hu hM hq
end
end Go.Am
/- Tariffs, sums and remainders, plainly. -/
namespace Go.Am
open Go.Proofs
def isum : List Int → Int
  | [] => 0
  | x :: l => x + isum l
structure Stp where
  u : Int
  p : Int
structure Stp.Ok (s : Stp) : Prop where
  u : 1 ≤ s.u ∧ s.u ≤ 20000
  p : 0 ≤ s.p ∧ s.p ≤ 500
def rise : Int → List Stp → Prop
  | _, [] => True
  | b, s :: t => b < s.u ∧ rise s.u t
/-- What is true of a tariff that is right. -/
structure TarOk (t : List Stp) : Prop where
  len : 1 ≤ t.length ∧ t.length ≤ 4
  ok : ∀ s ∈ t, s.Ok
  up : rise 0 t
theorem isum_app : ∀ l l' : List Int, isum (l ++ l') = isum l + isum l'
  | [], l' => by show isum l' = 0 + isum l'; omega
  | x :: l, l' => by
    show x + isum (l ++ l') = x + isum l + isum l'
    rw [isum_app l l']; omega
theorem isum_in : ∀ {l : List Int} {m : Int}, (∀ x ∈ l, -m ≤ x ∧ x ≤ m) → -(m * l.length) ≤ isum l ∧ isum l ≤ m * l.length
  | [], m, _ => by simp [isum]
  | x :: l, m, h => by
    have h1 := h x (by simp)
    have h2 := isum_in (l := l) (m := m) fun y hy => h y (by simp [hy])
    rw [List.length_cons, isum, Int.natCast_add, Int.mul_add]
    omega
theorem isum_le : ∀ {l : List Int} {m : Int}, (∀ x ∈ l, 0 ≤ x ∧ x ≤ m) → 0 ≤ isum l ∧ isum l ≤ m * l.length
  | [], m, _ => by simp [isum]
  | x :: l, m, h => by
    have h1 := h x (by simp)
    have h2 := isum_le (l := l) (m := m) fun y hy => h y (by simp [hy])
    rw [List.length_cons, isum, Int.natCast_add, Int.mul_add]
    omega
def Stp.enc (s : Stp) : List Value := [.int .i64 s.u, .int .i64 s.p]
def Stp.isB (s : Stp) : Bool := wi s.u 1 20000 && wi s.p 0 500
def riseB : List Stp → Bool
  | s :: s' :: t => decide (s.u < s'.u) && riseB (s' :: t)
  | _ => true
theorem rise_riseB : ∀ {t : List Stp} {b : Int}, rise b t → riseB t = true
  | [], b, _ => rfl
  | [s], b, _ => rfl
  | s :: s' :: t, b, h => by
    unfold riseB
    rw [Bool.and_eq_true, rise_riseB h.2]
    exact ⟨by simpa using h.2.1, rfl⟩
/-- The error of a tariff. -/
def chkT (t : List Stp) : Int := bif wi t.length 1 4 then bif t.all Stp.isB then bif riseB t then 0 else 6 else 4 else 3
theorem TarOk.chk {t : List Stp} (h : TarOk t) : chkT t = 0 := by
  have h1 : wi t.length 1 4 = true := by unfold wi; have := h.len; simp; omega
  have h2 : t.all Stp.isB = true := List.all_eq_true.2 fun s hs => by
    have := h.ok s hs
    unfold Stp.isB wi
    simp only [Bool.and_eq_true,decide_eq_true_eq]
    exact ⟨this.u, this.p⟩
  unfold chkT
  rw [h1, h2, rise_riseB h.up]; rfl
theorem isum_lin : ∀ {r p f : List Int} {c : Int}, r.length = f.length → p.length = f.length → (∀ (i : Nat) (x y z : Int), r[i]? = some x → p[i]? = some y → f[i]? = some z → x ≤ c * (y - z)) → isum r ≤ c * (isum p - isum f)
  | [], p, f, c, h1, h2, _ => by
    have : f = [] := List.length_eq_zero_iff.1 (by simpa using h1.symm)
    subst this
    have : p = [] := List.length_eq_zero_iff.1 (by simpa using h2)
    subst this
    simp [isum]
  | x :: r, [], f, c, h1, h2, _ => by
    simp only [List.length_cons,List.length_nil] at h1 h2; omega
  | x :: r, y :: p, [], c, h1, h2, _ => by
    simp only [List.length_cons,List.length_nil] at h1 h2; omega
  | x :: r, y :: p, z :: f, c, h1, h2, h => by
    have a := h 0 x y z rfl rfl rfl
    have b := isum_lin (r := r) (p := p) (f := f) (c := c) (by simpa using h1) (by simpa using h2) fun i x y z e1 e2 e3 => h (i + 1) x y z (by simpa using e1) (by simpa using e2) (by simpa using e3)
    show x + isum r ≤ c * (y + isum p - (z + isum f))
    have e : c * (y + isum p - (z + isum f)) = c * (y - z) + c * (isum p - isum f) := by
      rw [← Int.mul_add]; congr 1; omega
    omega
theorem isum_set : ∀ {p : List Int} {i : Nat} {x : Int} (y : Int), p[i]? = some x → isum (p.set i y) = isum p - x + y
  | [], i, x, y, h => by simp at h
  | a :: p, 0, x, y, h => by
    simp only [List.getElem?_cons_zero,Option.some.injEq] at h
    subst h
    show y + isum p = a + isum p - a + y; omega
  | a :: p, i + 1, x, y, h => by
    show a + isum (p.set i y) = a + isum p - x + y
    rw [isum_set y (by simpa using h)]; omega
/-- The exact shares of so many pence: rounded down, and what then remains. -/
def flr (P A : Int) (vs : List Int) : List Int := vs.map fun v => P * v / A
def rms (P A : Int) (vs : List Int) : List Int := vs.map fun v => P * v % A
/-- Which house comes before which one, by remainders. -/
def bef (r : List Int) (i k : Nat) : Prop := ∃ x y, r[i]? = some x ∧ r[k]? = some y ∧ (y < x ∨ x = y ∧ i < k)
/-- While pennies are given to the greatest remainders. -/
structure RemI (P A : Int) (vs p : List Int) (j : Int) : Prop where
  len : p.length = vs.length
  one : ∀ (i : Nat) (y z : Int), p[i]? = some y → (flr P A vs)[i]? = some z → y = z ∨ y = z + 1
  bef : ∀ (i k : Nat) (y z y' z' : Int), p[i]? = some y → (flr P A vs)[i]? = some z → p[k]? = some y' → (flr P A vs)[k]? = some z' → y = z + 1 → y' = z' → bef (rms P A vs) i k
  sum : isum p = isum (flr P A vs) + j
section
variable {P A j : Int} {vs p : List Int}
theorem flr_len : (flr P A vs).length = vs.length := by simp [flr]
theorem rms_len : (rms P A vs).length = vs.length := by simp [rms]
theorem RemI.begin_ : RemI P A vs (flr P A vs) 0 where
  len := flr_len
  one i y z h1 h2 := by rw [h1] at h2; cases h2; exact .inl rfl
  bef i k y z y' z' h1 h2 h3 h4 h5 h6 := by rw [h1] at h2; cases h2; omega
  sum := by omega
theorem RemI.next (h : RemI P A vs p j) {n : Nat} {z : Int} (hn : p[n]? = some z) (hf : (flr P A vs)[n]? = some z) (hb : ∀ (k : Nat) (z' : Int), k ≠ n → p[k]? = some z' → (flr P A vs)[k]? = some z' → Go.Am.bef (rms P A vs) n k) : RemI P A vs (p.set n (z + 1)) (j + 1) where
  len := by rw [List.length_set]; exact h.len
  one i y z1 h1 h2 := by
    rw [List.getElem?_set] at h1
    split at h1
    · rename_i e; subst e
      split at h1
      · cases h1; rw [hf] at h2; cases h2; exact .inr rfl
      · cases h1
    · exact h.one i y z1 h1 h2
  bef i k y z1 y' z' h1 h2 h3 h4 h5 h6 := by
    rw [List.getElem?_set] at h1 h3
    have hk : n ≠ k := by
      rintro rfl
      rw [if_pos rfl] at h3
      split at h3
      · cases h3; rw [hf] at h4; cases h4; omega
      · cases h3
    rw [if_neg hk] at h3
    split at h1
    · rename_i e; subst e
      subst h6
      exact hb k y' (Ne.symm hk) h3 h4
    · exact h.bef i k y z1 y' z' h1 h2 h3 h4 h5 h6
  sum := by rw [isum_set _ hn, h.sum]; omega
theorem RemI.pos (h : RemI P A vs p j) (hj : isum (rms P A vs) = A * j) (h0 : 0 < j) (hr : ∀ x ∈ rms P A vs, 0 ≤ x ∧ x < A) {i : Nat} {y z x : Int} (h1 : p[i]? = some y) (h2 : (flr P A vs)[i]? = some z) (h3 : y = z + 1) (h4 : (rms P A vs)[i]? = some x) : x ≠ 0 := by
  rintro rfl
  have := isum_lin (r := rms P A vs) (p := p) (f := flr P A vs) (c := A - 1) (by rw [rms_len, flr_len]) (by rw [h.len, flr_len]) fun k x' y' z' e1 e2 e3 => by
    have b := hr x' (List.mem_of_getElem? e1)
    rcases h.one k y' z' e2 e3 with e | e
    · obtain ⟨a, c, q1, q2, q3⟩ := h.bef i k y z y' z' h1 h2 e2 e3 h3 e
      rw [h4] at q1; cases q1
      rw [e1] at q2; cases q2
      have : x' = 0 := by omega
      subst this
      rw [show y' - z' = 0 by omega]; simp
    · rw [show y' - z' = 1 by omega]; omega
  rw [h.sum, show isum (flr P A vs) + j - isum (flr P A vs) = j by omega, Int.sub_mul, hj] at this
  omega
/-- There is a house that has not paid one more. -/
theorem RemI.free (h : RemI P A vs p j) (hA : 0 < A) {l : Int} (hl : isum (rms P A vs) = A * l) (hj : 0 ≤ j ∧ j < l) (hr : ∀ x ∈ rms P A vs, 0 ≤ x ∧ x < A) : ∃ (i : Nat) (z : Int), p[i]? = some z ∧ (flr P A vs)[i]? = some z := by
  refine Classical.byContradiction fun hc => ?_
  have := isum_lin (r := rms P A vs) (p := p) (f := flr P A vs) (c := A - 1) (by rw [rms_len, flr_len]) (by rw [h.len, flr_len]) fun k x' y' z' e1 e2 e3 => by
    have b := hr x' (List.mem_of_getElem? e1)
    rcases h.one k y' z' e2 e3 with e | e
    · exact absurd ⟨k, z', e ▸ e2, e3⟩ hc
    · rw [show y' - z' = 1 by omega]; omega
  rw [h.sum, show isum (flr P A vs) + j - isum (flr P A vs) = j by omega, Int.sub_mul, hl, Int.one_mul] at this
  have h1 : A * j + A ≤ A * l := by
    have := Int.mul_le_mul_of_nonneg_left (show j + 1 ≤ l by omega) (Int.le_of_lt hA)
    rw [Int.mul_add, Int.mul_one] at this; exact this
  omega
end
end Go.Am
