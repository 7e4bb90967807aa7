import Derived.Test.YtbofjfjopeaefaaGreatT30
import Derived.Test.YtbofjfjopeaefaaGreatRows
import Derived.Carry
import Derived.ChangeArms
import Derived.Lib.SmallJoins
import Derived.WideKeyArgs
import Derived.Deep.Slices
import Derived.WalkKit
import Derived.ProofKit
import Derived.OpenShut
set_option linter.unusedSimpArgs false
set_option linter.unusedVariables false
namespace Go.Am.K
open Go.Proofs
variable {T : Tab} {P : Program} {N L : Nat} {H : AHeap} {Q : Bool → Value → AHeap → Prop}
structure FrX (k : Nat) (H H' : AHeap) : Prop where
 size : H.size ≤ H'.size
 same : ∀ j, j < H.size → j ≠ k → H'.get j = H.get j
theorem FrX.refl (k : Nat) (H : AHeap) : FrX k H H := ⟨Nat.le_refl _, fun _ _ _ => rfl⟩
theorem FrX.trans {k : Nat} {H H₁ H₂ : AHeap} (a : FrX k H H₁) (b : FrX k H₁ H₂) : FrX k H H₂ := ⟨Nat.le_trans a.size b.size, fun j h1 h2 => (b.same j (Nat.lt_of_lt_of_le h1 a.size) h2).trans (a.same j h1 h2)⟩
theorem FrX.of {k : Nat} {H H' : AHeap} (f : Fr H H') : FrX k H H' := ⟨f.size, fun j h _ => f.same j h⟩
theorem FrX.put {k : Nat} {H H' : AHeap} (f : FrX k H H') (b : ABlk) : FrX k H (H'.put k b) := ⟨by rw [size_put]; exact f.size, fun j h1 h2 => by rw [get_put_ne h2]; exact f.same j h1 h2⟩
theorem FrX.above {k : Nat} {H H' : AHeap} (f : FrX k H H') {H₀ : AHeap} (f0 : Fr H₀ H) (h : H₀.size ≤ k) : Fr H₀ H' := ⟨Nat.le_trans f0.size f.size, fun j hj => (f.same j (Nat.lt_of_lt_of_le hj f0.size) (by omega)).trans (f0.same j hj)⟩
structure Chu (H : AHeap) (k : Nat) (a : Option Addr) (bs : List Int) (cap : Nat) : Prop where
 lt : k < H.size
 blk : ∃ u s : Int, H.get k = .rw [.slice a bs.length cap, .int .i64 u, .int .u64 s] 181 false [] ∧ 0 ≤ u ∧ u ≤ bs.length ∧ 0 ≤ s ∧ s < 18446744073709551616
 row : bs ≠ [] → ∃ b o c, a = some ⟨b, o, none⟩ ∧ b < H.size ∧ H.get b = .ro c ∧ ∀ i x, bs[i]? = some x → c[o + i]? = some (.int .u8 x)
 byte : ∀ x ∈ bs, 0 ≤ x ∧ x < 256
 len : bs.length < 9223372036854775808
section
variable {k cap : Nat} {a : Option Addr} {bs : List Int}
theorem Chu.fr {H' : AHeap} (h : Chu H k a bs cap) (f : Fr H H') : Chu H' k a bs cap where
 lt := Nat.lt_of_lt_of_le h.lt f.size
 blk := by rw [f.same k h.lt]; exact h.blk
 row hne := by
  obtain ⟨b, o, c, h1, h2, h3, h4⟩ := h.row hne
  exact ⟨b, o, c, h1, Nat.lt_of_lt_of_le h2 f.size, by rw [f.same b h2]; exact h3, h4⟩
 byte := h.byte
 len := h.len
theorem Chu.put (h : Chu H k a bs cap) {u s : Int} (hu : 0 ≤ u ∧ u ≤ bs.length) (hs : 0 ≤ s ∧ s < 18446744073709551616) : Chu (H.put k (.rw [.slice a bs.length cap, .int .i64 u, .int .u64 s] 181 false [])) k a bs cap where
 lt := by rw [size_put]; exact h.lt
 blk := ⟨u, s, get_put_same h.lt, hu.1, hu.2, hs⟩
 row hne := by
  obtain ⟨b, o, c, h1, h2, h3, h4⟩ := h.row hne
  obtain ⟨u, s, h5, _⟩ := h.blk
  refine ⟨b, o, c, h1, by rw [size_put]; exact h2, ?_, h4⟩
  rw [get_put_ne (fun e => by subst e; rw [h5] at h3; cases h3)]
  exact h3
 byte := h.byte
 len := h.len
theorem Chu.other {j : Nat} {b' : ABlk} (h : Chu H k a bs cap) (hj : j ≠ k) (hr : ∀ c, H.get j ≠ .ro c) : Chu (H.put j b') k a bs cap where
 lt := by rw [size_put]; exact h.lt
 blk := by rw [get_put_ne (Ne.symm hj)]; exact h.blk
 row hne := by
  obtain ⟨b, o, c, h1, h2, h3, h4⟩ := h.row hne
  refine ⟨b, o, c, h1, by rw [size_put]; exact h2, ?_, h4⟩
  rw [get_put_ne (fun e => by subst e; exact hr c h3)]
  exact h3
 byte := h.byte
 len := h.len
structure Bts (H : AHeap) (a : Option Addr) (bs : List Int) : Prop where
 row : bs ≠ [] → ∃ b o c, a = some ⟨b, o, none⟩ ∧ b < H.size ∧ H.get b = .ro c ∧ ∀ i x, bs[i]? = some x → c[o + i]? = some (.int .u8 x)
 byte : ∀ x ∈ bs, 0 ≤ x ∧ x < 256
 len : bs.length < 9223372036854775808
end
set_option linter.defProp false in
def yrg := (And.intro (And.intro @loopKD_normal (And.intro @loopKD_ret @loopKD_exit)) (And.intro (And.intro @midK_normal @midK_exit) (And.intro @midK_ret @endK_normal)))
end Go.Am.K
namespace Go.Am.K
open Go.Proofs Go.Deep Go.RowKit Go.ChangeShapes Go.WideShapes Go.ChangeAt
variable {X : Type} {enc : TypeId × Value → X} {w : World} {base : Nat} {sp : Nat → Bool} {held : Bool} {n : Nat} {cs : List Value} {x : DataW X × List MemPlace}
theorem trodAll_stays {P : Program} (hl : laidOutB P = true) {W W' : World} {sp' : Nat → Bool} (hsame : ∀ k, k < W.heap.size → W'.heap[k]? = W.heap[k]?) : ∀ {ts : List TypeId} {vs : List Value} {ds : List (DataW X)} {ps : List MemPlace}, (∀ t ∈ ts, P.readableRec t = true ∧ t < P.types.size) →
  DataW.TrodAll enc P W 0 (fun _ => true) true ts vs ds ps → (∀ p ∈ ps, p.block < W.heap.size) → (∀ p ∈ ps, sp' p.block = true) → DataW.TrodAll enc P W' 0 sp' true ts vs ds ps
 | [], [], [], _, _, h, _, _ => h
 | t :: ts, v :: vs, d :: ds, _, ht, ⟨p, q, h1, h2, e⟩, hlt, hs => by
  subst e
  refine ⟨p, q, ?_, trodAll_stays hl hsame (fun t h => ht t (List.mem_cons_of_mem _ h)) h2 (fun x hx => hlt x (List.mem_append_right _ hx)) (fun x hx => hs x (List.mem_append_right _ hx)), rfl⟩
  refine WideElems.Trod_stays hl (ht t (by simp)).1 (ht t (by simp)).2 h1 (fun x hx => ?_) (fun x hx => hs x (List.mem_append_left _ hx))
  cases x with
  | cell b o => exact World.cell?_of_block (w := W) (hsame b (hlt _ (List.mem_append_left _ hx)))
  | map b => exact hsame b (hlt _ (List.mem_append_left _ hx))
theorem calls_below {P : Program} {f : FuncId} {args : List Value} {H : AHeap} {v : Value} (h : SCall P f args H v H H.size) (hg : gr v = true) {σ : Place} {W : World} (r : Rel σ H W) (ha : ∀ x ∈ args, okv σ x) :
  Calls P f (args.map (ren σ)).toArray W fun e w' => e = .returned v ∧ Below W.heap.size W w' := by
 refine callsIn_wide (n := 0).1 ((h Fence.wide 0 σ W free_wide r ha).mono ?_)
 rintro e w' ⟨σ', rfl, _, _, x⟩
 exact ⟨by rw [(gr_ok σ' hg).2], x.os, x.tape, x.output, x.wsize, fun b hb => x.frame b hb fun k s hk hp => absurd (r.lt k b s hp).1 (by omega)⟩
theorem add_off {a : Addr} (h : a.spot = none) (i : Nat) : a.add i = ⟨a.block, a.off + i, none⟩ := by
 obtain ⟨b, o, s⟩ := a
 simp only at h
 subst h
 unfold Addr.add
 split
 ·rename_i h0; subst h0; rfl
 ·rfl
theorem shape_lt {W : World} {b : Nat} {s : TypeId × Nat} (h : W.shape? b = some s) : b < W.heap.size := by
 unfold World.shape? at h
 split at h
 ·rename_i he
  exact (Array.getElem?_eq_some_iff.1 he).1
 ·cases h
theorem law_post {P : Program} {f : Func} {s : ChangeSpec} {fresh handsOn again : Bool} {W W' : World} {args : Array Value} {v : Value} {ds gs : List (DataW X)} {ps : List MemPlace}
  (hW : DataW.Whole enc P f.params.toList s.vars false W args.toList ds gs (ps ++ [])) (hb : Below W.heap.size W W')
  (hres : ∀ (b : Nat) (sp : Nat → Bool) (hd : Bool), DataW.TrodAll enc P W' b sp hd f.resultTypes.toList (v.resultList f.resultTypes.size) (s.fn X (ds ++ gs)).results [])
  (hargs : ∀ sp : Nat → Bool, (∀ p ∈ ps, sp p.block = true) → DataW.TrodAll enc P W' 0 sp true f.params.toList args.toList (s.fn X (ds ++ gs)).args ps)
  (hvars : ∀ sp : Nat → Bool, DataW.TrodVars enc P W' sp s.vars (s.fn X (ds ++ gs)).vars [])
  (hok : ∀ (j : Nat) (t : TypeId) (r : Value), f.resultTypes[j]? = some t → (v.resultList f.resultTypes.size)[j]? = some r → Value.okWide P W' .any 0 t r) :
  s.post enc P f false fresh handsOn again W args v W' := by
 have lt : ∀ p ∈ ps, p.block < W.heap.size := fun p hp => hW.lt p (List.mem_append_left _ hp)
 have all := hargs (fun _ => true) fun _ _ => rfl
 have old := hargs (fun b => decide (b < W.heap.size)) fun p hp => decide_eq_true (lt p hp)
 refine ⟨ds, gs, ps ++ [], [], ps, [], hW, hres _ _ _, old, hvars _, World.keptBut_mono (fun p hp => ⟨hp, .inr (List.mem_append.1 hp)⟩) (hb.frame (· ∈ ps ++ [])), fun _ => ⟨hok, _, _, ([] ++ ps) ++ [], ⟨[] ++ ps, [], trodAll_append all (hres _ _ _), hvars _, rfl, ?_, fun h => by cases h⟩, fun p hp _ => by simpa using hp⟩⟩
 obtain ⟨_, _, _, _, _, hz, _⟩ := hW
 intro b o hp
 have hp' : MemPlace.cell b o ∈ ps ++ [] := by simpa using hp
 rw [hb.frozen (lt _ (by simpa using hp'))]
 exact hz b o hp'
structure BytesIn (W : World) (a : Option Addr) (len cap : Nat) (bs : List Int) : Prop where
 hlen : len = bs.length
 hcap : cap < OPEN
 lt : bs.length < 9223372036854775808
 byte : ∀ x ∈ bs, 0 ≤ x ∧ x < 256
 nl : a = none → cap = 0 ∧ bs = []
 row : ∀ ad, a = some ad → ad.spot = none ∧ ad.block < W.heap.size ∧ ∀ i x, bs[i]? = some x → W.cell? ⟨ad.block, ad.off + i, none⟩ = some (.int .u8 x)
def u8s (bs : List Int) : List Value := bs.map fun b => .int .u8 b
theorem u8s_get {bs : List Int} {i : Nat} {v : Value} (h : (u8s bs)[i]? = some v) : ∃ x, bs[i]? = some x ∧ v = .int .u8 x := by
 unfold u8s at h
 rw [List.getElem?_map, Option.map_eq_some_iff] at h
 obtain ⟨x, h1, h2⟩ := h
 exact ⟨x, h1, h2.symm⟩
instance : Inhabited Int := ⟨0⟩
def atK (k : Nat) (a : Option Addr) : Option Addr := a.map fun _ => ⟨k, 0, none⟩
theorem BytesIn.cells {W : World} {a : Option Addr} {len cap : Nat} {bs : List Int} (t : BytesIn W a len cap bs) : ∀ ad, a = some ad → ad.block < W.heap.size ∧ ∀ (i : Nat) (v : Value), (u8s bs)[i]? = some v → gr v = true ∧ W.cell? ⟨ad.block, ad.off + i, none⟩ = some v := fun ad h => by
 obtain ⟨_, hb, hrow⟩ := t.row ad h
 refine ⟨hb, fun i v hi => ?_⟩
 obtain ⟨x, h1, rfl⟩ := u8s_get hi
 exact ⟨rfl, hrow i x h1⟩
theorem BytesIn.okv {W : World} {a : Option Addr} {len cap : Nat} {bs : List Int} (t : BytesIn W a len cap bs) {σ : Place} {k : Nat} (h : σ.at_ k = a.map fun ad => (ad.block, ad.off)) : Go.Am.okv σ (.slice (atK k a) bs.length cap) := by
 cases a with
 | none =>
  have := t.hcap
  simpa [Go.Am.okv, atK] using this
 | some ad =>
  simp only [atK,Option.map_some,Go.Am.okv]
  exact ⟨trivial, by rw [h]; rfl, fun hc => absurd t.hcap (by omega)⟩
theorem BytesIn.ren {W : World} {a : Option Addr} {len cap : Nat} {bs : List Int} (t : BytesIn W a len cap bs) {σ : Place} {k : Nat} (h : σ.at_ k = a.map fun ad => (ad.block, ad.off)) : Go.Am.ren σ (.slice (atK k a) bs.length cap) = .slice a bs.length cap := by
 cases a with
 | none =>
  obtain ⟨rfl, rfl⟩ := t.nl rfl
  exact (gr_ok σ (v := .slice none 0 0) rfl).2
 | some ad =>
  obtain ⟨b, o, s⟩ := ad
  obtain ⟨hs, _, _⟩ := t.row _ rfl
  simp only at hs
  subst hs
  simp [Go.Am.ren, atK, Place.cap, t.hcap, Place.addr, h]
end Go.Am.K
