/- Streets as they read as data, and the heap that they make. -/
import Derived.Test.YtaieoelbpnjoiaaT26
import Derived.Carry
import Derived.ChangeArms
import Derived.Lib.SmallJoins
import Derived.WideKeyArgs
import Derived.Test.YtaieoelbpnjoiaaRows
import Derived.Deep.Slices
import Derived.WalkKit
import Derived.ProofKit
import Derived.OpenShut
import Derived.Test.YtaieoelbpnjoiaaT36
import Derived.Test.YtaieoelbpnjoiaaT54
set_option linter.unusedSimpArgs false
set_option linter.unusedVariables false
namespace Go.Am
open Go.Proofs Go.RowKit
variable {X : Type} {enc : TypeId × Value → X} {w : World} {base : Nat} {sp : Nat → Bool} {held : Bool} {n : Nat} {cs : List Value} {x : DataW X × List MemPlace}
/-- Arguments read in a world that has what was there as they did. -/
theorem trodAll_stays {P : Program} (hl : laidOutB P = true) {W W' : World} {sp' : Nat → Bool} (hsame : ∀ k, k < W.heap.size → W'.heap[k]? = W.heap[k]?) : ∀ {ts : List TypeId} {vs : List Value} {ds : List (DataW X)} {ps : List MemPlace}, (∀ t ∈ ts, P.readableRec t = true ∧ t < P.types.size) →
  DataW.TrodAll enc P W 0 (fun _ => true) true ts vs ds ps → (∀ p ∈ ps, p.block < W.heap.size) → (∀ p ∈ ps, sp' p.block = true) → DataW.TrodAll enc P W' 0 sp' true ts vs ds ps
 | [], [], [], _, _, h, _, _ => h
 | t :: ts, v :: vs, d :: ds, _, ht, ⟨p, q, h1, h2, e⟩, hlt, hs => by
  subst e
  refine ⟨p, q, ?_, trodAll_stays hl hsame (fun t h => ht t (List.mem_cons_of_mem _ h)) h2 (fun x hx => hlt x (List.mem_append_right _ hx)) (fun x hx => hs x (List.mem_append_right _ hx)), rfl⟩
  refine WideElems.Trod_stays hl (ht t (by simp)).1 (ht t (by simp)).2 h1 (fun x hx => ?_) (fun x hx => hs x (List.mem_append_left _ hx))
  cases x with
  | cell b o => exact World.cell?_of_block (w := W) (hsame b (hlt _ (List.mem_append_left _ hx)))
  | map b => exact hsame b (hlt _ (List.mem_append_left _ hx))
/-- A call that changes nothing and gives a value without addresses, in any world in which its arguments stand. -/
theorem calls_below {P : Program} {f : FuncId} {args : List Value} {H : AHeap} {v : Value} (h : SCall P f args H v H H.size) (hg : gr v = true) {σ : Place} {W : World} (r : Rel σ H W) (ha : ∀ x ∈ args, okv σ x) :
  Calls P f (args.map (ren σ)).toArray W fun e w' => e = .returned v ∧ Below W.heap.size W w' := by
 refine callsIn_wide (n := 0).1 ((h Fence.wide 0 σ W free_wide r ha).mono ?_)
 rintro e w' ⟨σ', rfl, _, _, x⟩
 exact ⟨by rw [(gr_ok σ' hg).2], x.os, x.tape, x.output, x.wsize, fun b hb => x.frame b hb fun k s hk hp => absurd (r.lt k b s hp).1 (by omega)⟩
def rowHeap (c : List Value) : AHeap := AHeap.alloc ⟨0, .nil⟩ (.ro c)
theorem rowHeap_get {c : List Value} : (rowHeap c).get 0 = .ro c := zda rfl
theorem rowHeap_size {c : List Value} : (rowHeap c).size = 1 := AHeap.size_alloc _ _
end Go.Am
/- The statement StreetTowns, for every input. -/
namespace Go.Am
open Go.Proofs Go.Deep Go.RowKit Go.ChangeShapes Go.WideShapes Go.ChangeAt
variable {X : Type} {enc : TypeId × Value → X}
instance : Inhabited Str := ⟨⟨0, 0, 0, 0, 0, 0, false, 0, 0⟩⟩
theorem add_off {a : Addr} (h : a.spot = none) (i : Nat) : a.add i = ⟨a.block, a.off + i, none⟩ := by
 obtain ⟨b, o, s⟩ := a
 simp only at h
 subst h
 unfold Addr.add
 split
 ·rename_i h0; subst h0; rfl
 ·rfl
theorem shape_lt {W : World} {b : Nat} {s : TypeId × Nat} (h : W.shape? b = some s) : b < W.heap.size := by
 unfold World.shape? at h
 split at h
 ·rename_i he
  exact (Array.getElem?_eq_some_iff.1 he).1
 ·cases h
/-- A law's end: it gave true, and below the old size of memory nothing has turned. -/
theorem law_post {P : Program} {f : Func} {s : ChangeSpec} {fresh handsOn again : Bool} {W W' : World} {args : Array Value} {v : Value} {ds gs : List (DataW X)} {ps : List MemPlace}
  (hW : DataW.Whole enc P f.params.toList s.vars false W args.toList ds gs (ps ++ [])) (hb : Below W.heap.size W W')
  (hres : ∀ (b : Nat) (sp : Nat → Bool) (hd : Bool), DataW.TrodAll enc P W' b sp hd f.resultTypes.toList (v.resultList f.resultTypes.size) (s.fn X (ds ++ gs)).results [])
  (hargs : ∀ sp : Nat → Bool, (∀ p ∈ ps, sp p.block = true) → DataW.TrodAll enc P W' 0 sp true f.params.toList args.toList (s.fn X (ds ++ gs)).args ps)
  (hvars : ∀ sp : Nat → Bool, DataW.TrodVars enc P W' sp s.vars (s.fn X (ds ++ gs)).vars [])
  (hok : ∀ (j : Nat) (t : TypeId) (r : Value), f.resultTypes[j]? = some t → (v.resultList f.resultTypes.size)[j]? = some r → Value.okWide P W' .any 0 t r) :
  s.post enc P f false fresh handsOn again W args v W' := by
 have lt : ∀ p ∈ ps, p.block < W.heap.size := fun p hp => hW.lt p (List.mem_append_left _ hp)
 have all := hargs (fun _ => true) fun _ _ => rfl
 have old := hargs (fun b => decide (b < W.heap.size)) fun p hp => decide_eq_true (lt p hp)
 refine ⟨ds, gs, ps ++ [], [], ps, [], hW, hres _ _ _, old, hvars _, World.keptBut_mono (fun p hp => ⟨hp, .inr (List.mem_append.1 hp)⟩) (hb.frame (· ∈ ps ++ [])), fun _ => ⟨hok, _, _, ([] ++ ps) ++ [], ⟨[] ++ ps, [], trodAll_append all (hres _ _ _), hvars _, rfl, ?_, fun h => by cases h⟩, fun p hp _ => by simpa using hp⟩⟩
 obtain ⟨_, _, _, _, _, hz, _⟩ := hW
 intro b o hp
 have hp' : MemPlace.cell b o ∈ ps ++ [] := by simpa using hp
 rw [hb.frozen (lt _ (by simpa using hp'))]
 exact hz b o hp'
end Go.Am
/- More arguments that are read. -/
namespace Go.Am
open Go.Proofs Go.ChangeShapes
variable {H : Type} {enc : TypeId × Value → H} {P : Program} {w : World} {base : Nat} {spare : Nat → Bool} {held : Bool}
end Go.Am
/- Bytes as they read as data, and the heap that they make. -/
namespace Go.Am
open Go.Proofs Go.Deep Go.RowKit Go.ChangeShapes Go.WideShapes Go.ChangeAt
variable {X : Type} {enc : TypeId × Value → X} {w : World} {base : Nat} {sp : Nat → Bool} {held : Bool} {n : Nat} {cs : List Value} {x : DataW X × List MemPlace}
theorem wf_u8 {i : Int} (h : (Lit.int .u8 i).wf = true) : 0 ≤ i ∧ i < 256 := by
 unfold Lit.wf at h
 simp only [Bool.and_eq_true,decide_eq_true_eq] at h
 have h1 : IntKind.u8.min = 0 := rfl
 have h2 : IntKind.u8.max = 255 := rfl
 omega
theorem read_u8 {c : Value} {y : DataW X × List MemPlace} (h : DataW.trod enc Try.prog w base sp held n 5 [c] = some y) : ∃ i, c = .int .u8 i ∧ 0 ≤ i ∧ i < 256 := by
 obtain ⟨i, h1, _, h3⟩ := DataW.trod_int Try.underlying5 h
 exact ⟨i, by simpa using h1, (wf_u8 h3).1, (wf_u8 h3).2⟩
theorem cellsOf5 : Try.prog.cellsOf 5 = 1 := by kernel_rfl
/-- Bytes that came in: none, or bytes that lie in a row. -/
structure BytesIn (W : World) (a : Option Addr) (len cap : Nat) (bs : List Int) : Prop where
 hlen : len = bs.length
 hcap : cap < OPEN
 lt : bs.length < 9223372036854775808
 byte : ∀ x ∈ bs, 0 ≤ x ∧ x < 256
 nl : a = none → cap = 0 ∧ bs = []
 row : ∀ ad, a = some ad → ad.spot = none ∧ ad.block < W.heap.size ∧ ∀ i x, bs[i]? = some x → W.cell? ⟨ad.block, ad.off + i, none⟩ = some (.int .u8 x)
def u8s (bs : List Int) : List Value := bs.map fun b => .int .u8 b
theorem u8s_get {bs : List Int} {i : Nat} {v : Value} (h : (u8s bs)[i]? = some v) : ∃ x, bs[i]? = some x ∧ v = .int .u8 x := by
 unfold u8s at h
 rw [List.getElem?_map, Option.map_eq_some_iff] at h
 obtain ⟨x, h1, h2⟩ := h
 exact ⟨x, h1, h2.symm⟩
instance : Inhabited Int := ⟨0⟩
set_option maxRecDepth 100000 in
theorem bytes_read {W : World} {base : Nat} {v : Value} {d : DataW X} {p : List MemPlace} (hv : Value.okWide Try.prog W .any base 81 v) (h : DataW.Trod enc Try.prog W 0 (fun _ => true) true 81 v d p) :
  ∃ (a : Option Addr) (len cap : Nat) (bs : List Int), v = .slice a len cap ∧ BytesIn W a len cap bs := by
 obtain ⟨fuel, h⟩ := h
 have key : ∀ a len cap, v = .slice a len cap → ∃ (a : Option Addr) (len cap : Nat) (bs : List Int), v = .slice a len cap ∧ BytesIn W a len cap bs := by
  rintro a₀ len₀ cap₀ rfl
  rcases open_slice Try.underlying81 h with ⟨hn, _⟩ | ⟨a, len, cap, m, n', D, Pl, hn, _, hle, hcap, hm, _, hx⟩
  ·have hn' : Value.slice a₀ len₀ cap₀ = .slice none 0 0 := by simpa [Value.cells] using hn
   cases hn'
   exact ⟨none, 0, 0, [], rfl, rfl, by unfold OPEN; omega, by simp, by simp, fun _ => ⟨rfl, rfl⟩, fun ad h => by cases h⟩
  ·have hn' : Value.slice a₀ len₀ cap₀ = .slice (some a) len cap := by simpa [Value.cells] using hn
   obtain ⟨rfl, rfl, rfl⟩ : a₀ = some a ∧ len₀ = len ∧ cap₀ = cap := by simpa using hn'
   unfold Value.okWide at hv
   rw [Try.underlying81] at hv
   simp only [Cell.okWide,Cell.ok,Try.underlying81] at hv
   obtain ⟨_, _, _, hsp, ⟨row, cells, hsh, _⟩⟩ := hv
   have hb := shape_lt hsh
   have hm' : m = cap₀ := by rw [hm]; rfl
   obtain ⟨S, hS⟩ := choose_lt (α := Int) (p := fun i s => (0 ≤ s ∧ s < 256) ∧ W.cells? 0 (a.add i) 1 = some [.int .u8 s]) (n := len₀) (fun i hi => by
    obtain ⟨cs', k1, k2⟩ := hx i (by omega)
    rw [cellsOf5, Nat.mul_one] at k1
    have hl1 : cs'.length = 1 := (World.cells?_some k1).2.1
    match cs', hl1 with
    | [c], _ =>
     obtain ⟨s, rfl, k3, k4⟩ := read_u8 k2
     exact ⟨s, ⟨k3, k4⟩, k1⟩)
   have hget : ∀ i s, ((List.range len₀).map S)[i]? = some s → i < len₀ ∧ s = S i := fun i s h => by
    rw [List.getElem?_map, Option.map_eq_some_iff] at h
    obtain ⟨j, hj, rfl⟩ := h
    have := List.getElem?_eq_some_iff.1 hj
    obtain ⟨q1, q2⟩ := this
    rw [List.getElem_range] at q2
    subst q2
    exact ⟨by simpa using q1, rfl⟩
   unfold maxLen at hcap
   refine ⟨some a, len₀, cap₀, (List.range len₀).map S, rfl, by simp, by unfold OPEN; omega, by simp; omega, ?_, (fun h => by cases h), ?_⟩
   ·intro s hs
    obtain ⟨i, hi⟩ := List.getElem?_of_mem hs
    obtain ⟨k1, rfl⟩ := hget i s hi
    exact (hS i k1).1
   ·intro ad had
    cases had
    refine ⟨hsp, hb, fun i s hi => ?_⟩
    obtain ⟨k1, rfl⟩ := hget i s hi
    obtain ⟨_, _, hc⟩ := World.cells?_some (hS i k1).2
    have := hc 0 (by omega)
    rw [add_add, add_off hsp] at this
    simpa using this
 cases v with
 | slice a len cap => exact key _ _ _ rfl
 | _ =>
  exfalso
  unfold Value.okWide at hv
  rw [Try.underlying81] at hv
  simp [Cell.okWide, Cell.ok, Try.underlying81] at hv
end Go.Am
/- Two rows of bytes that come in. -/
namespace Go.Am
open Go.Proofs Go.Deep Go.RowKit Go.ChangeShapes Go.WideShapes Go.ChangeAt
def twoPlace (p q : Option Addr) : Place := ⟨fun k => if k = 0 then p.map fun a => (a.block, a.off) else if k = 1 then q.map fun a => (a.block, a.off) else none, fun _ => 0⟩
def twoHeap (c d : List Value) : AHeap := (rowHeap c).alloc (.ro d)
theorem twoHeap_get0 {c d : List Value} : (twoHeap c d).get 0 = .ro c := by
 unfold twoHeap
 rw [zdb (by rw [rowHeap_size]; omega)]
 exact rowHeap_get
theorem twoHeap_get1 {c d : List Value} : (twoHeap c d).get 1 = .ro d := zda (by rw [rowHeap_size])
theorem twoHeap_size {c d : List Value} : (twoHeap c d).size = 2 := by
 unfold twoHeap
 rw [zde, rowHeap_size]
theorem twoRel {W : World} {p q : Option Addr} {c d : List Value} (hp : ∀ a, p = some a → a.block < W.heap.size ∧ ∀ (i : Nat) (v : Value), c[i]? = some v → gr v = true ∧ W.cell? ⟨a.block, a.off + i, none⟩ = some v)
  (hq : ∀ a, q = some a → a.block < W.heap.size ∧ ∀ (i : Nat) (v : Value), d[i]? = some v → gr v = true ∧ W.cell? ⟨a.block, a.off + i, none⟩ = some v) : Rel (twoPlace p q) (twoHeap c d) W where
 lt k b' s h := by
  rw [twoHeap_size]
  unfold twoPlace at h
  simp only at h
  split at h
  ·rename_i hk
   obtain ⟨a, ha, he⟩ := Option.map_eq_some_iff.1 h
   cases he
   exact ⟨by omega, (hp a ha).1⟩
  ·split at h
   ·obtain ⟨a, ha, he⟩ := Option.map_eq_some_iff.1 h
    cases he
    exact ⟨by omega, (hq a ha).1⟩
   ·cases h
 holds k b' s h := by
  unfold twoPlace at h
  simp only at h
  split at h
  ·rename_i hk
   subst hk
   obtain ⟨a, ha, he⟩ := Option.map_eq_some_iff.1 h
   cases he
   rw [twoHeap_get0]
   intro i v hi
   obtain ⟨g1, g2⟩ := (hp a ha).2 i v hi
   exact ⟨(gr_ok _ g1).1, by rw [(gr_ok _ g1).2]; exact g2⟩
  ·split at h
   ·rename_i hk
    subst hk
    obtain ⟨a, ha, he⟩ := Option.map_eq_some_iff.1 h
    cases he
    rw [twoHeap_get1]
    intro i v hi
    obtain ⟨g1, g2⟩ := (hq a ha).2 i v hi
    exact ⟨(gr_ok _ g1).1, by rw [(gr_ok _ g1).2]; exact g2⟩
   ·cases h
 excl k k' b' s s' h h' hne al hal := by
  unfold twoPlace at h
  simp only at h
  split at h
  ·rename_i hk
   subst hk
   rw [twoHeap_get0] at hal
   cases hal
  ·split at h
   ·rename_i hk
    subst hk
    rw [twoHeap_get1] at hal
    cases hal
   ·cases h
/-- Where a row of bytes lies on the machine. -/
def atK (k : Nat) (a : Option Addr) : Option Addr := a.map fun _ => ⟨k, 0, none⟩
theorem BytesIn.bts {W : World} {a : Option Addr} {len cap : Nat} {bs : List Int} (t : BytesIn W a len cap bs) {H : AHeap} {k : Nat} (hk : k < H.size) (hg : H.get k = .ro (u8s bs)) : Bts H (atK k a) bs := ⟨fun hne => by
 cases a with
 | none => exact absurd (t.nl rfl).2 hne
 | some ad =>
  refine ⟨k, 0, u8s bs, rfl, hk, hg, fun i x hi => ?_⟩
  unfold u8s
  rw [Nat.zero_add, List.getElem?_map, hi]; rfl, t.byte, t.lt⟩
theorem BytesIn.cells {W : World} {a : Option Addr} {len cap : Nat} {bs : List Int} (t : BytesIn W a len cap bs) : ∀ ad, a = some ad → ad.block < W.heap.size ∧ ∀ (i : Nat) (v : Value), (u8s bs)[i]? = some v → gr v = true ∧ W.cell? ⟨ad.block, ad.off + i, none⟩ = some v := fun ad h => by
 obtain ⟨_, hb, hrow⟩ := t.row ad h
 refine ⟨hb, fun i v hi => ?_⟩
 obtain ⟨x, h1, rfl⟩ := u8s_get hi
 exact ⟨rfl, hrow i x h1⟩
theorem BytesIn.okv {W : World} {a : Option Addr} {len cap : Nat} {bs : List Int} (t : BytesIn W a len cap bs) {σ : Place} {k : Nat} (h : σ.at_ k = a.map fun ad => (ad.block, ad.off)) : Go.Am.okv σ (.slice (atK k a) bs.length cap) := by
 cases a with
 | none =>
  have := t.hcap
  simpa [Go.Am.okv, atK] using this
 | some ad =>
  simp only [atK,Option.map_some,Go.Am.okv]
  exact ⟨trivial, by rw [h]; rfl, fun hc => absurd t.hcap (by omega)⟩
theorem BytesIn.ren {W : World} {a : Option Addr} {len cap : Nat} {bs : List Int} (t : BytesIn W a len cap bs) {σ : Place} {k : Nat} (h : σ.at_ k = a.map fun ad => (ad.block, ad.off)) : Go.Am.ren σ (.slice (atK k a) bs.length cap) = .slice a bs.length cap := by
 cases a with
 | none =>
  obtain ⟨rfl, rfl⟩ := t.nl rfl
  exact (gr_ok σ (v := .slice none 0 0) rfl).2
 | some ad =>
  obtain ⟨b, o, s⟩ := ad
  obtain ⟨hs, _, _⟩ := t.row _ rfl
  simp only at hs
  subst hs
  simp [Go.Am.ren, atK, Place.cap, t.hcap, Place.addr, h]
theorem bytes_calls2 {W : World} {a a2 : Option Addr} {len cap len2 cap2 : Nat} {bs bs2 : List Int} (t : BytesIn W a len cap bs) (t2 : BytesIn W a2 len2 cap2 bs2) {f : FuncId} {rest : List Value} (hr : allGrV rest = true) {n : Nat}
  (h : ∀ (H : AHeap) (a' a2' : Option Addr), Bts H a' bs → Bts H a2' bs2 → acall tabA (aexec tabA Try.prog n) f (.slice a' bs.length cap :: .slice a2' bs2.length cap2 :: rest) H = some (true, .bool true, H, H.size)) :
  Calls Try.prog f (.slice a len cap :: .slice a2 len2 cap2 :: rest).toArray W fun e w' => e = .returned (.bool true) ∧ Below W.heap.size W w' := by
 obtain rfl := t.hlen
 obtain rfl := t2.hlen
 have h1 := call_ok tabA_fits (h (twoHeap (u8s bs) (u8s bs2)) (atK 0 a) (atK 1 a2) (t.bts (by rw [twoHeap_size]; omega) twoHeap_get0) (t2.bts (by rw [twoHeap_size]; omega) twoHeap_get1))
 have hR : Rel (twoPlace a a2) (twoHeap (u8s bs) (u8s bs2)) W := twoRel t.cells t2.cells
 have e1 : (twoPlace a a2).at_ 0 = a.map fun ad => (ad.block, ad.off) := rfl
 have e2 : (twoPlace a a2).at_ 1 = a2.map fun ad => (ad.block, ad.off) := rfl
 have h2 := calls_below h1 rfl hR fun x hx => by
  rcases List.mem_cons.1 hx with rfl | hx
  ·exact t.okv e1
  rcases List.mem_cons.1 hx with rfl | hx
  ·exact t2.okv e2
  ·exact (gr_ok _ (allGrV_mem hr x hx)).1
 rw [List.map_cons, List.map_cons, allGrV_ren hr, t.ren e1, t2.ren e2] at h2
 exact h2
end Go.Am
/- The statement StreetNamed: for all two rows of bytes, the law gives true, and its arguments read as before. No condition. -/
namespace Go.Proofs.Ytaieoelbpnjoiaa.streetNamed
open Go.ChangeShapes Go.WideShapes Go.ChangeAt Go.RowKit Go.Am Go.Proofs
set_option linter.unusedVariables false
theorem own : ownKnob Try.prog.godebug = none := by kernel_rfl
theorem laidOut : laidOutB Try.prog = true := by kernel_rfl
set_option maxRecDepth 100000 in
theorem lifted (os : Os) (started : os.Started) (H : Type) (enc : TypeId × Value → H) :
  ReturnsInHanded {} Try.checked os 16 .any (Rows.streetNamedSpec.pre6 enc Try.prog Try.f16 Rows.streetNamedRow.domain false) (Rows.streetNamedSpec.post enc Try.prog Try.f16 false true false false) := by
 refine returnsInHanded_of_change (C := Try.checked) own started (by kernel_rfl) Try.func16
  (ChangeSpec.witness6 (enc := enc) (C := Try.checked) false ⟨#[], #[.slice none 0 0, .slice none 0 0], []⟩ 16 (by kernel_rfl) (by kernel_rfl) (by kernel_rfl) (by kernel_rfl)) ?_
 intro W base args ds gs before hval0 hW hcnd _
 have hval : ∀ (j : Nat) t v, Try.f16.params[j]? = some t → args[j]? = some v → Value.okWide Try.prog W .any base t v := hval0
 have hW' := hW
 obtain ⟨p, q, hA0, hV, rfl, hfz, hnd⟩ := hW
 have hA : DataW.TrodAll enc Try.prog W 0 (fun _ => true) true Try.f16.params.toList args.toList ds p := hA0
 rw [Try.params16] at hA hval
 obtain ⟨v0, v1, d0, d1, p0, p1, rfl, rfl, rfl, h0, h1⟩ := trodAll_two hA
 obtain ⟨rfl, rfl⟩ := trodVars_none hV
 obtain ⟨a, len, cap, bs, rfl, bin⟩ := bytes_read (hval 0 81 v0 rfl rfl) h0
 obtain ⟨a2, len2, cap2, bs2, rfl, bin2⟩ := bytes_read (hval 1 81 v1 rfl rfl) h1
 refine (bytes_calls2 bin bin2 (f := 16) (rest := []) rfl (n := 24000) (fun H a' a2' hb hb2 => c16 (N := 0) hb hb2)).mono ?_
 rintro e W' ⟨rfl, hb⟩
 refine ⟨_, rfl, law_post (ps := p0 ++ p1) hW' hb (fun _ _ _ => trodAll_mk1 (shut_bool Try.underlying4 _)) (fun sp hs => ?_) (fun _ => rfl) (ok_one (by kernel_rfl) rfl (okWide_bool_mk Try.underlying4 _))⟩
 refine trodAll_stays laidOut hb.block (fun t ht => ?_) hA0 (fun p hp => hW'.lt p (List.mem_append_left _ hp)) hs
 have hall : (Try.f16.params.toList.all fun t => Try.prog.readableRec t && decide (t < Try.prog.types.size)) = true := by kernel_rfl
 have := List.all_eq_true.1 hall t ht
 simp only [Bool.and_eq_true,decide_eq_true_eq] at this
 exact this
theorem over : Rows.streetNamedRow.holds Try.pinned (OpenSpec.ofChange Rows.streetNamedSpec) :=
 OpenClaim.holds_of_wide 16 Try.f16 rfl rfl rfl rfl rfl rfl rfl ⟨rfl, rfl, rfl, rfl, rfl⟩ rfl rfl rfl rfl rfl (by kernel_rfl) Try.func16 (by kernel_rfl)
  (of_decide_eq_true (by kernel_rfl)) (by unfold Func.isWrapper; first | (rw [if_pos (by decide +kernel)]; kernel_rfl) | (rw [if_neg (by decide +kernel)]; exact ⟨rfl, rfl⟩))
  (fun os started H enc _ => lifted os started H enc)
theorem proved : Rows.StreetNamedSaid := over
#print axioms proved
end Go.Proofs.Ytaieoelbpnjoiaa.streetNamed
