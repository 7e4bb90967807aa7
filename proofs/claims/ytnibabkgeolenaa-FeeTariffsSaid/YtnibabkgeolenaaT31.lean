/- Bytes as they read as data, and the heap that they make. -/
import Derived.Test.YtnibabkgeolenaaT30
import Derived.Test.YtnibabkgeolenaaRows
import Derived.Carry
import Derived.ChangeArms
import Derived.Lib.SmallJoins
import Derived.WideKeyArgs
import Derived.Deep.Slices
import Derived.WalkKit
import Derived.ProofKit
import Derived.OpenShut
set_option linter.unusedSimpArgs false
set_option linter.unusedVariables false
namespace Go.Am
open Go.Proofs Go.Deep Go.RowKit Go.ChangeShapes Go.WideShapes Go.ChangeAt
variable {X : Type} {enc : TypeId × Value → X} {w : World} {base : Nat} {sp : Nat → Bool} {held : Bool} {n : Nat} {cs : List Value} {x : DataW X × List MemPlace}
/-- Arguments read in a world that has what was there as they did. -/
theorem trodAll_stays {P : Program} (hl : laidOutB P = true) {W W' : World} {sp' : Nat → Bool} (hsame : ∀ k, k < W.heap.size → W'.heap[k]? = W.heap[k]?) : ∀ {ts : List TypeId} {vs : List Value} {ds : List (DataW X)} {ps : List MemPlace}, (∀ t ∈ ts, P.readableRec t = true ∧ t < P.types.size) →
    DataW.TrodAll enc P W 0 (fun _ => true) true ts vs ds ps → (∀ p ∈ ps, p.block < W.heap.size) → (∀ p ∈ ps, sp' p.block = true) → DataW.TrodAll enc P W' 0 sp' true ts vs ds ps
  | [], [], [], _, _, h, _, _ => h
  | t :: ts, v :: vs, d :: ds, _, ht, ⟨p, q, h1, h2, e⟩, hlt, hs => by
    subst e
    refine ⟨p, q, ?_, trodAll_stays hl hsame (fun t h => ht t (List.mem_cons_of_mem _ h)) h2 (fun x hx => hlt x (List.mem_append_right _ hx)) (fun x hx => hs x (List.mem_append_right _ hx)), rfl⟩
    refine WideElems.Trod_stays hl (ht t (by simp)).1 (ht t (by simp)).2 h1 (fun x hx => ?_) (fun x hx => hs x (List.mem_append_left _ hx))
    cases x with
    | cell b o => exact World.cell?_of_block (w := W) (hsame b (hlt _ (List.mem_append_left _ hx)))
    | map b => exact hsame b (hlt _ (List.mem_append_left _ hx))
/-- A call that changes nothing and gives a value without addresses, in any world in which its arguments stand. -/
theorem calls_below {P : Program} {f : FuncId} {args : List Value} {H : AHeap} {v : Value} (h : SCall P f args H v H H.size) (hg : gr v = true) {σ : Place} {W : World} (r : Rel σ H W) (ha : ∀ x ∈ args, okv σ x) :
    Calls P f (args.map (ren σ)).toArray W fun e w' => e = .returned v ∧ Below W.heap.size W w' := by
  refine callsIn_wide (n := 0).1 ((h Fence.wide 0 σ W free_wide r ha).mono ?_)
  rintro e w' ⟨σ', rfl, _, _, x⟩
  exact ⟨by rw [(gr_ok σ' hg).2], x.os, x.tape, x.output, x.wsize, fun b hb => x.frame b hb fun k s hk hp => absurd (r.lt k b s hp).1 (by omega)⟩
theorem add_off {a : Addr} (h : a.spot = none) (i : Nat) : a.add i = ⟨a.block, a.off + i, none⟩ := by
  obtain ⟨b, o, s⟩ := a
  simp only at h
  subst h
  unfold Addr.add
  split
  · rename_i h0; subst h0; rfl
  · rfl
theorem shape_lt {W : World} {b : Nat} {s : TypeId × Nat} (h : W.shape? b = some s) : b < W.heap.size := by
  unfold World.shape? at h
  split at h
  · rename_i he
    exact (Array.getElem?_eq_some_iff.1 he).1
  · cases h
/-- A law's end: it gave true, and below the old size of memory nothing has turned. -/
theorem law_post {P : Program} {f : Func} {s : ChangeSpec} {fresh handsOn again : Bool} {W W' : World} {args : Array Value} {v : Value} {ds gs : List (DataW X)} {ps : List MemPlace}
    (hW : DataW.Whole enc P f.params.toList s.vars false W args.toList ds gs (ps ++ [])) (hb : Below W.heap.size W W')
    (hres : ∀ (b : Nat) (sp : Nat → Bool) (hd : Bool), DataW.TrodAll enc P W' b sp hd f.resultTypes.toList (v.resultList f.resultTypes.size) (s.fn X (ds ++ gs)).results [])
    (hargs : ∀ sp : Nat → Bool, (∀ p ∈ ps, sp p.block = true) → DataW.TrodAll enc P W' 0 sp true f.params.toList args.toList (s.fn X (ds ++ gs)).args ps)
    (hvars : ∀ sp : Nat → Bool, DataW.TrodVars enc P W' sp s.vars (s.fn X (ds ++ gs)).vars [])
    (hok : ∀ (j : Nat) (t : TypeId) (r : Value), f.resultTypes[j]? = some t → (v.resultList f.resultTypes.size)[j]? = some r → Value.okWide P W' .any 0 t r) :
    s.post enc P f false fresh handsOn again W args v W' := by
  have lt : ∀ p ∈ ps, p.block < W.heap.size := fun p hp => hW.lt p (List.mem_append_left _ hp)
  have all := hargs (fun _ => true) fun _ _ => rfl
  have old := hargs (fun b => decide (b < W.heap.size)) fun p hp => decide_eq_true (lt p hp)
  refine ⟨ds, gs, ps ++ [], [], ps, [], hW, hres _ _ _, old, hvars _, World.keptBut_mono (fun p hp => ⟨hp, .inr (List.mem_append.1 hp)⟩) (hb.frame (· ∈ ps ++ [])), fun _ => ⟨hok, _, _, ([] ++ ps) ++ [], ⟨[] ++ ps, [], trodAll_append all (hres _ _ _), hvars _, rfl, ?_, fun h => by cases h⟩, fun p hp _ => by simpa using hp⟩⟩
  obtain ⟨_, _, _, _, _, hz, _⟩ := hW
  intro b o hp
  have hp' : MemPlace.cell b o ∈ ps ++ [] := by simpa using hp
  rw [hb.frozen (lt _ (by simpa using hp'))]
  exact hz b o hp'
/-- Bytes that came in: none, or bytes that lie in a row. -/
structure BytesIn (W : World) (a : Option Addr) (len cap : Nat) (bs : List Int) : Prop where
  hlen : len = bs.length
  hcap : cap < OPEN
  lt : bs.length < 9223372036854775808
  byte : ∀ x ∈ bs, 0 ≤ x ∧ x < 256
  nl : a = none → cap = 0 ∧ bs = []
  row : ∀ ad, a = some ad → ad.spot = none ∧ ad.block < W.heap.size ∧ ∀ i x, bs[i]? = some x → W.cell? ⟨ad.block, ad.off + i, none⟩ = some (.int .u8 x)
def u8s (bs : List Int) : List Value := bs.map fun b => .int .u8 b
theorem u8s_get {bs : List Int} {i : Nat} {v : Value} (h : (u8s bs)[i]? = some v) : ∃ x, bs[i]? = some x ∧ v = .int .u8 x := by
  unfold u8s at h
  rw [List.getElem?_map, Option.map_eq_some_iff] at h
  obtain ⟨x, h1, h2⟩ := h
  exact ⟨x, h1, h2.symm⟩
instance : Inhabited Int := ⟨0⟩
/-- Where a row of bytes lies on the machine. -/
def atK (k : Nat) (a : Option Addr) : Option Addr := a.map fun _ => ⟨k, 0, none⟩
theorem BytesIn.cells {W : World} {a : Option Addr} {len cap : Nat} {bs : List Int} (t : BytesIn W a len cap bs) : ∀ ad, a = some ad → ad.block < W.heap.size ∧ ∀ (i : Nat) (v : Value), (u8s bs)[i]? = some v → gr v = true ∧ W.cell? ⟨ad.block, ad.off + i, none⟩ = some v := fun ad h => by
  obtain ⟨_, hb, hrow⟩ := t.row ad h
  refine ⟨hb, fun i v hi => ?_⟩
  obtain ⟨x, h1, rfl⟩ := u8s_get hi
  exact ⟨rfl, hrow i x h1⟩
theorem BytesIn.okv {W : World} {a : Option Addr} {len cap : Nat} {bs : List Int} (t : BytesIn W a len cap bs) {σ : Place} {k : Nat} (h : σ.at_ k = a.map fun ad => (ad.block, ad.off)) : Go.Am.okv σ (.slice (atK k a) bs.length cap) := by
  cases a with
  | none =>
    have := t.hcap
    simpa [Go.Am.okv, atK] using this
  | some ad =>
    simp only [atK,Option.map_some,Go.Am.okv]
    exact ⟨trivial, by rw [h]; rfl, fun hc => absurd t.hcap (by omega)⟩
theorem BytesIn.ren {W : World} {a : Option Addr} {len cap : Nat} {bs : List Int} (t : BytesIn W a len cap bs) {σ : Place} {k : Nat} (h : σ.at_ k = a.map fun ad => (ad.block, ad.off)) : Go.Am.ren σ (.slice (atK k a) bs.length cap) = .slice a bs.length cap := by
  cases a with
  | none =>
    obtain ⟨rfl, rfl⟩ := t.nl rfl
    exact (gr_ok σ (v := .slice none 0 0) rfl).2
  | some ad =>
    obtain ⟨b, o, s⟩ := ad
    obtain ⟨hs, _, _⟩ := t.row _ rfl
    simp only at hs
    subst hs
    simp [Go.Am.ren, atK, Place.cap, t.hcap, Place.addr, h]
end Go.Am
/- The chute, for numbers of more than one byte, too. -/
namespace Go.Am
open Go.Proofs
variable {T : Tab} {P : Program} {N L : Nat} {H : AHeap} {Q : Bool → Value → AHeap → Prop}
section
variable {k cap q : Nat} {a : Option Addr} {bs : List Int}
end
end Go.Am
/- Tariffs, sums and remainders, plainly. -/
namespace Go.Am
open Go.Proofs
def isum : List Int → Int
  | [] => 0
  | x :: l => x + isum l
structure Stp where
  u : Int
  p : Int
structure Stp.Ok (s : Stp) : Prop where
  u : 1 ≤ s.u ∧ s.u ≤ 20000
  p : 0 ≤ s.p ∧ s.p ≤ 500
/-- The lesser one. -/
def mn (a b : Int) : Int := if b < a then b else a
/-- What pounds cost by steps, in hundredths: from some pounds on. -/
def hun : List Stp → Int → Int → Int
  | [], _, _ => 0
  | [s], b, n => (n - b) * s.p
  | s :: s' :: t, b, n => (mn s.u n - b) * s.p + hun (s' :: t) (mn s.u n) n
/-- The pence of the step of a pound. -/
def rate : List Stp → Int → Int
  | [], _ => 0
  | [s], _ => s.p
  | s :: s' :: t, m => if m ≤ s.u then s.p else rate (s' :: t) m
def rise : Int → List Stp → Prop
  | _, [] => True
  | b, s :: t => b < s.u ∧ rise s.u t
theorem rise_le {t : List Stp} : ∀ {b c : Int}, c ≤ b → rise b t → rise c t := by
  cases t with
  | nil => intros; trivial
  | cons s t => intro b c h h'; exact ⟨by have := h'.1; omega, h'.2⟩
theorem hun_self : ∀ (t : List Stp) (n : Int), rise n t → hun t n n = 0
  | [], n, _ => rfl
  | [s], n, _ => by show (n - n) * s.p = 0; rw [Int.sub_self, Int.zero_mul]
  | s :: s' :: t, n, h => by
    have e : mn s.u n = n := by unfold mn; have := h.1; split <;> omega
    show (mn s.u n - n) * s.p + hun (s' :: t) (mn s.u n) n = 0
    rw [e, Int.sub_self, Int.zero_mul, hun_self (s' :: t) n (rise_le (by have := h.1; omega) h.2)]; rfl
theorem hun_succ : ∀ (t : List Stp) (b n : Int), rise b t → b ≤ n → hun t b (n + 1) = hun t b n + rate t (n + 1)
  | [], b, n, _, _ => rfl
  | [s], b, n, _, _ => by
    show (n + 1 - b) * s.p = (n - b) * s.p + s.p
    rw [show n + 1 - b = (n - b) + 1 by omega, Int.add_mul, Int.one_mul]
  | s :: s' :: t, b, n, h, hb => by
    show (mn s.u (n + 1) - b) * s.p + hun (s' :: t) (mn s.u (n + 1)) (n + 1) = (mn s.u n - b) * s.p + hun (s' :: t) (mn s.u n) n + (if n + 1 ≤ s.u then s.p else rate (s' :: t) (n + 1))
    by_cases hc : n + 1 ≤ s.u
    · have e1 : mn s.u (n + 1) = n + 1 := by unfold mn; split <;> omega
      have e2 : mn s.u n = n := by unfold mn; split <;> omega
      rw [if_pos hc, e1, e2, hun_self (s' :: t) (n + 1) (rise_le hc h.2), hun_self (s' :: t) n (rise_le (by omega) h.2), show n + 1 - b = (n - b) + 1 by omega, Int.add_mul, Int.one_mul]
      omega
    · have e1 : mn s.u (n + 1) = s.u := by unfold mn; split <;> omega
      have e2 : mn s.u n = s.u := by unfold mn; split <;> omega
      rw [if_neg hc, e1, e2, hun_succ (s' :: t) s.u n h.2 (by omega)]
      omega
theorem rate_le : ∀ {t : List Stp} (m : Int), (∀ s ∈ t, s.Ok) → 0 ≤ rate t m ∧ rate t m ≤ 500
  | [], m, _ => by show (0 : Int) ≤ 0 ∧ (0 : Int) ≤ 500; omega
  | [s], m, h => (h s (by simp)).p
  | s :: s' :: t, m, h => by
    show 0 ≤ (if m ≤ s.u then s.p else rate (s' :: t) m) ∧ (if m ≤ s.u then s.p else rate (s' :: t) m) ≤ 500
    split
    · exact (h s (by simp)).p
    · exact rate_le m fun x hx => h x (by simp [hx])
/-- What is true of a tariff that is right. -/
structure TarOk (t : List Stp) : Prop where
  len : 1 ≤ t.length ∧ t.length ≤ 4
  ok : ∀ s ∈ t, s.Ok
  up : rise 0 t
/-- What so many pounds cost, in hundredths. -/
def cts (t : List Stp) (n : Int) : Int := hun t 0 n
theorem cts_zero {t : List Stp} (h : TarOk t) : cts t 0 = 0 := hun_self t 0 h.up
theorem cts_succ {t : List Stp} (h : TarOk t) {n : Int} (hn : 0 ≤ n) : cts t (n + 1) = cts t n + rate t (n + 1) := hun_succ t 0 n h.up hn
theorem cts_le {t : List Stp} (h : TarOk t) : ∀ n : Nat, 0 ≤ cts t n ∧ cts t n ≤ 500 * n
  | 0 => by
    rw [show ((0 : Nat) : Int) = 0 from rfl, cts_zero h]; omega
  | n + 1 => by
    have := cts_le h n
    have r := rate_le (n + 1) h.ok
    rw [show ((n + 1 : Nat) : Int) = (n : Int) + 1 by omega, cts_succ h (by omega)]
    omega
theorem cts_mono {t : List Stp} (h : TarOk t) {n : Nat} : ∀ {m : Nat}, n ≤ m → cts t n ≤ cts t m
  | 0, hm => by rw [show n = 0 by omega]; exact Int.le_refl _
  | m + 1, hm => by
    by_cases e : n = m + 1
    · rw [e]; exact Int.le_refl _
    · have := cts_mono h (n := n) (m := m) (by omega)
      have r := rate_le (m + 1) h.ok
      rw [show ((m + 1 : Nat) : Int) = (m : Int) + 1 by omega, cts_succ h (by omega)]
      omega
/-- Whole pence. -/
def whl (x : Int) : Int := (x + 99).tdiv 100
theorem whl_eq {x : Int} (h : 0 ≤ x) : whl x = (x + 99) / 100 := Int.tdiv_eq_ediv_of_nonneg (by omega)
theorem whl_mono {x y : Int} (h : 0 ≤ x) (h' : x ≤ y) : whl x ≤ whl y := by
  rw [whl_eq h, whl_eq (by omega)]; omega
/-- The greatest number of pounds, up to the greatest one, that cost at most so many pence. -/
structure PdR (t : List Stp) (p : Int) (k : Nat) : Prop where
  le : k ≤ 20000
  lo : 0 < k → whl (cts t k) ≤ p
  hi : k < 20000 → p < whl (cts t ((k + 1 : Nat) : Int))
theorem PdR.iff {t : List Stp} {p : Int} {k : Nat} (h : PdR t p k) (ht : TarOk t) (hp : 0 ≤ p) {n : Nat} (hn : n ≤ 20000) : n ≤ k ↔ whl (cts t n) ≤ p := by
  constructor
  · intro hk
    by_cases k0 : k = 0
    · have : n = 0 := by omega
      subst this
      rw [show ((0 : Nat) : Int) = 0 from rfl, cts_zero ht]
      show whl 0 ≤ p
      rw [whl_eq (by omega)]; omega
    · exact Int.le_trans (whl_mono (cts_le ht n).1 (cts_mono ht hk)) (h.lo (by omega))
  · intro hk
    refine Decidable.byContradiction fun hc => ?_
    have := h.hi (by omega)
    have := whl_mono (cts_le ht (k + 1)).1 (cts_mono ht (show k + 1 ≤ n by omega))
    omega
theorem isum_app : ∀ l l' : List Int, isum (l ++ l') = isum l + isum l'
  | [], l' => by show isum l' = 0 + isum l'; omega
  | x :: l, l' => by
    show x + isum (l ++ l') = x + isum l + isum l'
    rw [isum_app l l']; omega
theorem isum_in : ∀ {l : List Int} {m : Int}, (∀ x ∈ l, -m ≤ x ∧ x ≤ m) → -(m * l.length) ≤ isum l ∧ isum l ≤ m * l.length
  | [], m, _ => by simp [isum]
  | x :: l, m, h => by
    have h1 := h x (by simp)
    have h2 := isum_in (l := l) (m := m) fun y hy => h y (by simp [hy])
    rw [List.length_cons, isum, Int.natCast_add, Int.mul_add]
    omega
/-- The hundredths of each step. -/
def hunL : List Stp → Int → Int → List Int
  | [], _, _ => []
  | [s], b, n => [(n - b) * s.p]
  | s :: s' :: t, b, n => (mn s.u n - b) * s.p :: hunL (s' :: t) (mn s.u n) n
theorem hunL_sum : ∀ (t : List Stp) (b n : Int), isum (hunL t b n) = hun t b n
  | [], _, _ => rfl
  | [s], b, n => by show (n - b) * s.p + 0 = (n - b) * s.p; omega
  | s :: s' :: t, b, n => by
    show (mn s.u n - b) * s.p + isum (hunL (s' :: t) (mn s.u n) n) = (mn s.u n - b) * s.p + hun (s' :: t) (mn s.u n) n
    rw [hunL_sum]
def Stp.enc (s : Stp) : List Value := [.int .i64 s.u, .int .i64 s.p]
def stE : Enc Stp := ⟨Stp.enc, 2, fun _ => rfl, fun _ => rfl⟩
def Stp.isB (s : Stp) : Bool := wi s.u 1 20000 && wi s.p 0 500
def riseB : List Stp → Bool
  | s :: s' :: t => decide (s.u < s'.u) && riseB (s' :: t)
  | _ => true
theorem riseB_at : ∀ {t : List Stp}, riseB t = true ↔ ∀ i s s', t[i]? = some s → t[i + 1]? = some s' → s.u < s'.u
  | [] => by simp [riseB]
  | [s] => by simp [riseB]
  | s :: s' :: t => by
    unfold riseB
    rw [Bool.and_eq_true, riseB_at (t := s' :: t)]
    constructor
    · rintro ⟨h1, h2⟩ i x y hx hy
      cases i with
      | zero =>
        simp at hx hy
        subst hx hy
        simpa using h1
      | succ i => exact h2 i x y (by simpa using hx) (by simpa using hy)
    · intro h
      refine ⟨?_, fun i x y hx hy => h (i + 1) x y (by simpa using hx) (by simpa using hy)⟩
      have := h 0 s s' rfl rfl
      simpa using this
theorem riseB_rise : ∀ {t : List Stp} {b : Int}, riseB t = true → (∀ s, t[0]? = some s → b < s.u) → rise b t
  | [], b, _, _ => trivial
  | [s], b, _, h => ⟨h s rfl, trivial⟩
  | s :: s' :: t, b, h, h' => by
    unfold riseB at h
    rw [Bool.and_eq_true] at h
    exact ⟨h' s rfl, riseB_rise h.2 fun x hx => by simp at hx; subst hx; simpa using h.1⟩
theorem rise_riseB : ∀ {t : List Stp} {b : Int}, rise b t → riseB t = true
  | [], b, _ => rfl
  | [s], b, _ => rfl
  | s :: s' :: t, b, h => by
    unfold riseB
    rw [Bool.and_eq_true, rise_riseB h.2]
    exact ⟨by simpa using h.2.1, rfl⟩
/-- The error of a tariff. -/
def chkT (t : List Stp) : Int := bif wi t.length 1 4 then bif t.all Stp.isB then bif riseB t then 0 else 6 else 4 else 3
theorem chkT_ok {t : List Stp} (h : chkT t = 0) : TarOk t := by
  unfold chkT at h
  cases h1 : wi t.length 1 4 <;> rw [h1] at h
  · cases h
  cases h2 : t.all Stp.isB <;> rw [h2] at h
  · cases h
  cases h3 : riseB t <;> rw [h3] at h
  · cases h
  have hok : ∀ s ∈ t, s.Ok := fun s hs => by
    have := List.all_eq_true.1 h2 s hs
    unfold Stp.isB wi at this
    simp only [Bool.and_eq_true,decide_eq_true_eq] at this
    exact ⟨this.1, this.2⟩
  unfold wi at h1
  simp only [Bool.and_eq_true,decide_eq_true_eq] at h1
  exact ⟨⟨by omega, by omega⟩, hok, riseB_rise h3 fun s hs => by have := (hok s (List.mem_of_getElem? hs)).u; omega⟩
theorem TarOk.chk {t : List Stp} (h : TarOk t) : chkT t = 0 := by
  have h1 : wi t.length 1 4 = true := by unfold wi; have := h.len; simp; omega
  have h2 : t.all Stp.isB = true := List.all_eq_true.2 fun s hs => by
    have := h.ok s hs
    unfold Stp.isB wi
    simp only [Bool.and_eq_true,decide_eq_true_eq]
    exact ⟨this.u, this.p⟩
  unfold chkT
  rw [h1, h2, rise_riseB h.up]; rfl
theorem isum_set : ∀ {p : List Int} {i : Nat} {x : Int} (y : Int), p[i]? = some x → isum (p.set i y) = isum p - x + y
  | [], i, x, y, h => by simp at h
  | a :: p, 0, x, y, h => by
    simp only [List.getElem?_cons_zero,Option.some.injEq] at h
    subst h
    show y + isum p = a + isum p - a + y; omega
  | a :: p, i + 1, x, y, h => by
    show a + isum (p.set i y) = a + isum p - x + y
    rw [isum_set y (by simpa using h)]; omega
/-- The exact shares of so many pence: rounded down, and what then remains. -/
def flr (P A : Int) (vs : List Int) : List Int := vs.map fun v => P * v / A
def rms (P A : Int) (vs : List Int) : List Int := vs.map fun v => P * v % A
/-- Which house comes before which one, by remainders. -/
def bef (r : List Int) (i k : Nat) : Prop := ∃ x y, r[i]? = some x ∧ r[k]? = some y ∧ (y < x ∨ x = y ∧ i < k)
/-- While pennies are given to the greatest remainders. -/
structure RemI (P A : Int) (vs p : List Int) (j : Int) : Prop where
  len : p.length = vs.length
  one : ∀ (i : Nat) (y z : Int), p[i]? = some y → (flr P A vs)[i]? = some z → y = z ∨ y = z + 1
  bef : ∀ (i k : Nat) (y z y' z' : Int), p[i]? = some y → (flr P A vs)[i]? = some z → p[k]? = some y' → (flr P A vs)[k]? = some z' → y = z + 1 → y' = z' → bef (rms P A vs) i k
  sum : isum p = isum (flr P A vs) + j
section
variable {P A j : Int} {vs p : List Int}
theorem RemI.next (h : RemI P A vs p j) {n : Nat} {z : Int} (hn : p[n]? = some z) (hf : (flr P A vs)[n]? = some z) (hb : ∀ (k : Nat) (z' : Int), k ≠ n → p[k]? = some z' → (flr P A vs)[k]? = some z' → Go.Am.bef (rms P A vs) n k) : RemI P A vs (p.set n (z + 1)) (j + 1) where
  len := by rw [List.length_set]; exact h.len
  one i y z1 h1 h2 := by
    rw [List.getElem?_set] at h1
    split at h1
    · rename_i e; subst e
      split at h1
      · cases h1; rw [hf] at h2; cases h2; exact .inr rfl
      · cases h1
    · exact h.one i y z1 h1 h2
  bef i k y z1 y' z' h1 h2 h3 h4 h5 h6 := by
    rw [List.getElem?_set] at h1 h3
    have hk : n ≠ k := by
      rintro rfl
      rw [if_pos rfl] at h3
      split at h3
      · cases h3; rw [hf] at h4; cases h4; omega
      · cases h3
    rw [if_neg hk] at h3
    split at h1
    · rename_i e; subst e
      subst h6
      exact hb k y' (Ne.symm hk) h3 h4
    · exact h.bef i k y z1 y' z' h1 h2 h3 h4 h5 h6
  sum := by rw [isum_set _ hn, h.sum]; omega
end
end Go.Am
