import Derived.Test.YtbofjfjopeaefaaT42
set_option linter.unusedSimpArgs false
set_option linter.unusedVariables false
namespace Go.Am.K
open Go.Proofs
def sbL : List Int → List Int → List Int
 | m :: ms, a :: xs => (m - a) :: sbL ms xs
 | _, _ => []
theorem sbL_len : ∀ {m l : List Int}, LV m l → (sbL m l).length = m.length
 | [], [], _ => rfl
 | _ :: _, _ :: _, h => by
  show (sbL _ _).length + 1 = _
  rw [sbL_len h.2, List.length_cons]
 | [], _ :: _, h => h.elim
 | _ :: _, [], h => h.elim
theorem LV_swap : ∀ {m a b : List Int}, LV m a → LV (sbL m a) b → LV m b ∧ LV (sbL m b) a ∧ sbL (sbL m a) b = sbL (sbL m b) a
 | [], [], [], _, _ => ⟨trivial, trivial, rfl⟩
 | m :: ms, x :: xs, y :: ys, h, h' => by
  have h2 : (0 ≤ y ∧ y ≤ m - x) ∧ LV (sbL ms xs) ys := h'
  obtain ⟨k1, k2, k3⟩ := LV_swap h.2 h2.2
  have hx := h.1
  refine ⟨⟨by omega, k1⟩, ⟨by omega, k2⟩, ?_⟩
  show (m - x - y) :: sbL (sbL ms xs) ys = (m - y - x) :: sbL (sbL ms ys) xs
  rw [k3, show m - x - y = m - y - x by omega]
 | [], [], _ :: _, _, h => h.elim
 | [], _ :: _, _, h, _ => h.elim
 | _ :: _, [], _, h, _ => h.elim
 | _ :: _, _ :: _, [], _, h => h.elim
def Pl (r : List Int) : Nat → List (List Int) → Prop
 | _, [] => True
 | 0, _ :: _ => False
 | k + 1, l :: L => LV r l ∧ Pl (sbL r l) k L
theorem Pl_swap {r a b : List Int} {k : Nat} {L : List (List Int)} (h : Pl r k (a :: b :: L)) : Pl r k (b :: a :: L) := by
 match k, h with
 | k + 2, h =>
  obtain ⟨h1, h2, h3⟩ := h
  obtain ⟨k1, k2, k3⟩ := LV_swap h1 h2
  exact ⟨k1, k2, by rw [← k3]; exact h3⟩
 | 1, h => exact h.2.elim
 | 0, h => exact h.elim
theorem Pl_perm {L L' : List (List Int)} (hp : L.Perm L') : ∀ {r : List Int} {k : Nat}, Pl r k L → Pl r k L' := by
 induction hp with
 | nil => exact fun h => h
 | cons x _ ih =>
  intro r k h
  match k, h with
  | k + 1, h => exact ⟨h.1, ih h.2⟩
  | 0, h => exact h.elim
 | swap x y l => exact fun h => Pl_swap h
 | trans _ _ ih1 ih2 => exact fun h => ih2 (ih1 h)
section
variable {b : List Int → Int}
def totL (b : List Int → Int) : List (List Int) → Int
 | [] => 0
 | l :: L => b l + totL b L
theorem totL_perm {L L' : List (List Int)} (hp : L.Perm L') : totL b L = totL b L' := by
 induction hp with
 | nil => rfl
 | cons x _ ih => show b x + _ = b x + _; rw [ih]
 | swap x y l => show b y + (b x + totL b l) = b x + (b y + totL b l); omega
 | trans _ _ ih1 ih2 => rw [ih1, ih2]
structure OptR (b : List Int → Int) (r : List Int) (k : Nat) (v : Int) : Prop where
 ex : ∃ L, Pl r k L ∧ totL b L = v
 le : ∀ L, Pl r k L → totL b L ≤ v
theorem OptR.uniq {r : List Int} {k : Nat} {v w : Int} (h : OptR b r k v) (h' : OptR b r k w) : v = w := by
 obtain ⟨L, h1, h2⟩ := h.ex
 obtain ⟨L', h3, h4⟩ := h'.ex
 have := h'.le L h1
 have := h.le L' h3
 omega
theorem OptR.nn {r : List Int} {k : Nat} {v : Int} (h : OptR b r k v) : 0 ≤ v := h.le [] (by cases k <;> trivial)
theorem OptR.zero {r : List Int} : OptR b r 0 0 := ⟨⟨[], trivial, rfl⟩, fun L h => by
 match L, h with
 | [], _ => exact Int.le_refl _
 | _ :: _, h => exact h.elim⟩
theorem exists_max : ∀ (l : List Int) (L : List (List Int)), ∃ x L', (l :: L).Perm (x :: L') ∧ ∀ y ∈ L', b y ≤ b x
 | l, [] => ⟨l, [], List.Perm.refl _, fun y hy => by simp at hy⟩
 | l, z :: L => by
  obtain ⟨x, L', h1, h2⟩ := exists_max z L
  by_cases hc : b l ≤ b x
  ·refine ⟨x, l :: L', (List.Perm.cons l h1).trans (List.Perm.swap x l L'), fun y hy => ?_⟩
   rcases List.mem_cons.1 hy with rfl | hy
   ·exact hc
   ·exact h2 y hy
  ·refine ⟨l, x :: L', List.Perm.cons l h1, fun y hy => ?_⟩
   rcases List.mem_cons.1 hy with rfl | hy
   ·omega
   ·have := h2 y hy; omega
theorem totL_le {n : Int} : ∀ {L : List (List Int)} {k : Nat} {r : List Int}, 0 ≤ n → Pl r k L → (∀ y ∈ L, b y ≤ n) → totL b L ≤ n * k
 | [], k, r, hn, _, _ => Int.mul_nonneg hn (Int.natCast_nonneg k)
 | l :: L, k, r, hn, hp, hy => by
  match k, hp with
  | k + 1, hp =>
   have ih := totL_le hn hp.2 fun y h => hy y (by simp [h])
   have h1 := hy l (by simp)
   show b l + totL b L ≤ n * ((k + 1 : Nat) : Int)
   rw [Int.natCast_add, Int.mul_add]
   show b l + totL b L ≤ n * k + n * 1
   omega
  | 0, hp => exact hp.elim
structure SaleOk (b : List Int → Int) (r : List Int) (k : Nat) (l : List Int) (v : Int) : Prop where
 opt : OptR b r k v
 pos : 0 < v → LV r l ∧ ∃ w, OptR b (sbL r l) (k - 1) w ∧ v = b l + w
structure TryB (b : List Int → Int) (r : List Int) (k j : Nat) (l : List Int) (v : Int) : Prop where
 nn : 0 ≤ v
 pos : 0 < v → LV r l ∧ ∃ w, OptR b (sbL r l) k w ∧ v = b l + w
 all : ∀ x, LV r x → vl r x < j → ∀ L, Pl (sbL r x) k L → (∀ y ∈ L, b y ≤ b x) → b x + totL b L ≤ v
theorem TryB.begin_ {r l : List Int} {k : Nat} : TryB b r k 0 l 0 := ⟨Int.le_refl _, fun h => by omega, fun x hx h => by have := (vl_in hx).1; omega⟩
theorem vl_next {r x z : List Int} {j : Nat} (hz : LV r z) (hx : LV r x) (he : vl r x = j) (h : vl r z < ((j + 1 : Nat) : Int)) : vl r z < j ∨ z = x := by
 by_cases e : vl r z < j
 ·exact .inl e
 ·exact .inr (vl_inj hz hx (by omega))
theorem TryB.skip {r l x : List Int} {k j : Nat} {v : Int} (t : TryB b r k j l v) (hx : LV r x) (he : vl r x = j) (hb : 0 ≤ b x) (hc : b x * ((k : Int) + 1) ≤ v) : TryB b r k (j + 1) l v := by
 refine ⟨t.nn, t.pos, fun z hz h L hL hy => ?_⟩
 rcases vl_next hz hx he h with h | rfl
 ·exact t.all z hz h L hL hy
 ·have := totL_le hb hL hy
  rw [Int.mul_add, Int.mul_one] at hc
  omega
theorem TryB.take {r l x : List Int} {k j : Nat} {v w : Int} (t : TryB b r k j l v) (hx : LV r x) (he : vl r x = j) (hw : OptR b (sbL r x) k w) : TryB b r k (j + 1) (if v < b x + w then x else l) (if v < b x + w then b x + w else v) := by
 have hnn := t.nn
 by_cases hc : v < b x + w
 ·rw [if_pos hc, if_pos hc]
  refine ⟨by omega, fun _ => ⟨hx, w, hw, rfl⟩, fun z hz h L hL hy => ?_⟩
  rcases vl_next hz hx he h with h | rfl
  ·have := t.all z hz h L hL hy; omega
  ·have := hw.le L hL; omega
 ·rw [if_neg hc, if_neg hc]
  refine ⟨hnn, t.pos, fun z hz h L hL hy => ?_⟩
  rcases vl_next hz hx he h with h | rfl
  ·exact t.all z hz h L hL hy
  ·have := hw.le L hL; omega
theorem TryB.done {r l : List Int} {k : Nat} {v : Int} (t : TryB b r k (pn r).toNat l v) : SaleOk b r (k + 1) l v := by
 refine ⟨⟨?_, fun L hL => ?_⟩, fun h => by obtain ⟨h1, w, h2, h3⟩ := t.pos h; exact ⟨h1, w, h2, h3⟩⟩
 ·by_cases h : 0 < v
  ·obtain ⟨h1, w, h2, h3⟩ := t.pos h
   obtain ⟨L, h4, h5⟩ := h2.ex
   exact ⟨l :: L, ⟨h1, h4⟩, by show b l + totL b L = v; omega⟩
  ·have := t.nn
   exact ⟨[], trivial, by show (0 : Int) = v; omega⟩
 ·match L, hL with
  | [], _ => exact t.nn
  | y :: L, hL =>
   obtain ⟨x, L', h1, h2⟩ := exists_max (b := b) y L
   have h3 := Pl_perm h1 hL
   have := vl_in h3.1
   have h4 := t.all x h3.1 (by omega) L' h3.2 h2
   rw [totL_perm h1]
   exact h4
end
end Go.Am.K
namespace Go.Am.K
open Go.Proofs
variable {T : Tab} {P : Program} {N L : Nat} {H : AHeap} {Q : Bool → Value → AHeap → Prop}
section
variable {κ ν : Type} [DecidableEq κ]
def flk : List (κ × ν) → κ → Option ν
 | [], _ => none
 | p :: F, s => if s = p.1 then some p.2 else flk F s
def fup : List (κ × ν) → κ → ν → List (κ × ν)
 | [], s, a => [(s, a)]
 | p :: F, s, a => if s = p.1 then (s, a) :: F else p :: fup F s a
theorem flk_mem {F : List (κ × ν)} {s : κ} {a : ν} (h : flk F s = some a) : (s, a) ∈ F := by
 induction F with
 | nil => cases h
 | cons p F ih =>
  unfold flk at h
  by_cases hs : s = p.1
  ·rw [if_pos hs] at h
   cases h
   subst hs
   simp
  ·rw [if_neg hs] at h
   exact List.mem_cons_of_mem _ (ih h)
theorem fup_mem {F : List (κ × ν)} {s : κ} {a : ν} {q : κ × ν} (h : q ∈ fup F s a) : q ∈ F ∨ q = (s, a) := by
 induction F with
 | nil => exact .inr (by simpa [fup] using h)
 | cons p F ih =>
  unfold fup at h
  by_cases hs : s = p.1
  ·rw [if_pos hs] at h
   rcases List.mem_cons.1 h with h | h
   ·exact .inr h
   ·exact .inl (List.mem_cons_of_mem _ h)
  ·rw [if_neg hs] at h
   rcases List.mem_cons.1 h with h | h
   ·exact .inl (by rw [h]; simp)
   ·rcases ih h with h | h
    ·exact .inl (List.mem_cons_of_mem _ h)
    ·exact .inr h
variable {kv : κ → Value} {av : ν → Value}
def fix (av : ν → Value) : List (κ × ν) → κ → Nat → Option (Nat × Value)
 | [], _, _ => none
 | p :: F, s, i => if s = p.1 then some (i, av p.2) else fix av F s (i + 1)
structure MapT (kt mt vt : TypeId) (kv : κ → Value) (av : ν → Value) (zv : ν) : Prop where
 und : tabA.und mt = some (.map kt vt)
 gr : ∀ s, gr (kv s) = true
 eq : ∀ s s', pureRun Try.prog (Op.equal kt (kv s) (kv s')) = some (decide (s = s'))
 ck : ∀ em s, pureRun Try.prog (Instr.checkKey em 10000 kt (kv s)) = some ()
 sb : ∀ s, Instr.sameBits 10000 (kv s) (kv s) = true
 now : ∀ (d : TypeDesc) s e es, tabA.und kt = some d → aFindNow d (kv s) (e :: es) 0 = none
 kd : ∃ d, tabA.und kt = some d
 inf : ∃ i z, tabA.inf vt = some i ∧ i.zero = some z ∧ z = av zv ∧ Go.Am.gr z = true
def MpB (kv : κ → Value) (av : ν → Value) (blk : ABlk) (F : List (κ × ν)) : Prop := ∃ es clock, blk = .map es clock ∧ es.map (fun e => (e.1, e.2.1)) = F.map fun p => (kv p.1, av p.2)
omit [DecidableEq κ] in
theorem MpB.nil {n : Nat} : MpB kv av (.map [] n) ([] : List (κ × ν)) := ⟨[], n, rfl, rfl⟩
variable {kt mt vt : TypeId} {zv : ν}
theorem aFind_kv (M : MapT kt mt vt kv av zv) {s : κ} : ∀ {es : List (Value × Value × Nat)} {F : List (κ × ν)} {i : Nat}, es.map (fun e => (e.1, e.2.1)) = F.map (fun p => (kv p.1, av p.2)) → aFind Try.prog kt (kv s) es i = some (fix av F s i)
 | [], [], i, _ => rfl
 | [], _ :: _, i, h => by simp at h
 | _ :: _, [], i, h => by simp at h
 | e :: es, p :: F, i, h => by
  simp only [List.map_cons,List.cons.injEq,Prod.mk.injEq] at h
  obtain ⟨⟨h1, h2⟩, h3⟩ := h
  unfold aFind fix
  rw [h1, h2, M.gr, cond_true, M.eq]
  by_cases hs : s = p.1
  ·simp [hs]
  ·rw [if_neg hs]
   simp only [hs,decide_false]
   exact aFind_kv M h3
theorem aFindKey_kv (M : MapT kt mt vt kv av zv) {s : κ} {es : List (Value × Value × Nat)} {F : List (κ × ν)} (h : es.map (fun e => (e.1, e.2.1)) = F.map (fun p => (kv p.1, av p.2))) : aFindKey tabA Try.prog kt (kv s) es = some (fix av F s 0) := by
 obtain ⟨d, hd⟩ := M.kd
 unfold aFindKey
 rw [hd]
 cases es with
 | nil =>
  cases F with
  | nil => cases d <;> rfl
  | cons p F => simp at h
 | cons e es =>
  have : aFindNow d (kv s) (e :: es) 0 = none := M.now d s e es hd
  simp only [this]
  exact aFind_kv M h
theorem fix_none {F : List (κ × ν)} {s : κ} : ∀ {i : Nat}, fix av F s i = none ↔ flk F s = none := by
 induction F with
 | nil => simp [fix, flk]
 | cons p F ih =>
  intro i
  unfold fix flk
  by_cases h : s = p.1
  ·simp [h]
  ·rw [if_neg h, if_neg h]; exact ih
theorem fix_some {F : List (κ × ν)} {s : κ} : ∀ {i j : Nat} {v : Value}, fix av F s i = some (j, v) → i ≤ j ∧ ∃ a, flk F s = some a ∧ v = av a ∧ F[j - i]? = some (s, a) := by
 induction F with
 | nil => simp [fix]
 | cons p F ih =>
  intro i j v h
  unfold fix at h
  unfold flk
  by_cases hs : s = p.1
  ·rw [if_pos hs] at h ⊢
   cases h
   exact ⟨Nat.le_refl _, p.2, rfl, rfl, by simp [hs]⟩
  ·rw [if_neg hs] at h ⊢
   obtain ⟨h1, a, h2, h3, h4⟩ := ih h
   refine ⟨by omega, a, h2, h3, ?_⟩
   rw [show j - i = (j - (i + 1)) + 1 by omega, List.getElem?_cons_succ]
   exact h4
theorem fup_set {F : List (κ × ν)} {s : κ} {a : ν} : ∀ {i j : Nat} {v : Value}, fix av F s i = some (j, v) → fup F s a = F.set (j - i) (s, a) := by
 induction F with
 | nil => simp [fix]
 | cons p F ih =>
  intro i j v h
  unfold fix at h
  unfold fup
  by_cases hs : s = p.1
  ·rw [if_pos hs] at h ⊢
   cases h
   simp
  ·rw [if_neg hs] at h ⊢
   have h1 := (fix_some h).1
   rw [ih h, show j - i = (j - (i + 1)) + 1 by omega, List.set_cons_succ]
theorem fup_app {F : List (κ × ν)} {s : κ} {a : ν} (h : flk F s = none) : fup F s a = F ++ [(s, a)] := by
 induction F with
 | nil => rfl
 | cons p F ih =>
  unfold flk at h
  unfold fup
  by_cases hs : s = p.1
  ·rw [if_pos hs] at h; cases h
  ·rw [if_neg hs] at h ⊢
   rw [ih h]; rfl
variable {ex : Exec} {t : Operand → Option Value} {x ix y : Operand} {k : Nat} {F : List (κ × ν)} {s : κ}
theorem A_look (M : MapT kt mt vt kv av zv) (hx : t x = some (.map (some k))) (hi : t ix = some (kv s)) (hM : MpB kv av (H.get k) F) (hL : L ≤ H.size) (hq : Q true (.tuple ⟨[av ((flk F s).getD zv), .bool (flk F s).isSome]⟩) H) :
  A tabA Try.prog ex t H L (.lookup mt x ix true) Q := by
 obtain ⟨es, clock, hb, he⟩ := hM
 obtain ⟨i, z, z1, z2, z3, hgz⟩ := M.inf
 unfold A
 show (match still (aLookup tabA Try.prog t H mt x ix true) with
  | some (b, v, H', m) => L ≤ m ∧ Q b v H'
  | none => False)
 unfold aLookup
 simp only [M.und,hx,hi,aMapOf,hb,M.gr,cond_true,M.ck,aFindKey_kv M he]
 cases hf : fix av F s 0 with
 | none =>
  rw [fix_none.1 hf] at hq
  simp only [z1,z2,hgz,cond_true]
  exact ⟨hL, by rw [z3]; exact hq⟩
 | some p =>
  obtain ⟨j, v⟩ := p
  obtain ⟨-, a, h1, rfl, -⟩ := fix_some hf
  rw [h1] at hq
  exact ⟨hL, hq⟩
theorem A_upd (M : MapT kt mt vt kv av zv) {v : ν} (hx : t x = some (.map (some k))) (hi : t ix = some (kv s)) (hy : t y = some (av v)) (hM : MpB kv av (H.get k) F) (hL : L ≤ k) (hq : ∀ blk, MpB kv av blk (fup F s v) → Q false undef (H.put k blk)) :
  A tabA Try.prog ex t H L (.mapUpdate mt x ix y) Q := by
 have key : ∃ blk, MpB kv av blk (fup F s v) ∧ aUpdate tabA Try.prog t H mt x ix y = some (undef, H.put k blk, k) := by
  obtain ⟨es, clock, hb, he⟩ := hM
  unfold aUpdate
  simp only [M.und,hx,hi,hy,hb,M.gr,cond_true,M.ck,aFindKey_kv M he]
  cases hf : fix av F s 0 with
  | none =>
   refine ⟨_, ⟨_, _, rfl, ?_⟩, rfl⟩
   rw [fup_app (fix_none.1 hf), List.map_append, List.map_append, he]; rfl
  | some p =>
   obtain ⟨j, u⟩ := p
   obtain ⟨-, a, h1, rfl, h2⟩ := fix_some hf
   rw [Nat.sub_zero] at h2
   have hlen : es.length = F.length := by
    have := congrArg List.length he
    simpa using this
   have hj : j < es.length := by
    have := (List.getElem?_eq_some_iff.1 h2).1
    omega
   obtain ⟨en, hen⟩ : ∃ en, es[j]? = some en := ⟨es[j], by simp [hj]⟩
   have hk : en.1 = kv s := by
    have h3 : (es.map fun e => (e.1, e.2.1))[j]? = some (en.1, en.2.1) := by rw [List.getElem?_map, hen]; rfl
    rw [he, List.getElem?_map, h2] at h3
    simp only [Option.map_some,Option.some.injEq,Prod.mk.injEq] at h3
    exact h3.1.symm
   simp only [hen,hk,M.gr,M.sb,Bool.and_self,cond_true]
   refine ⟨_, ⟨_, _, rfl, ?_⟩, rfl⟩
   rw [fup_set hf, Nat.sub_zero, List.map_set, List.map_set, he]
 obtain ⟨blk, h1, h2⟩ := key
 unfold A
 show (match moves (aUpdate tabA Try.prog t H mt x ix y) with
  | some (b, v, H', m) => L ≤ m ∧ Q b v H'
  | none => False)
 rw [h2]
 exact ⟨hL, hq _ h1⟩
end
abbrev K4 := Int × Int × Int × Int
def k4 (s : K4) : Value := .agg ⟨[.int .i64 s.1, .int .i64 s.2.1, .int .i64 s.2.2.1, .int .i64 s.2.2.2]⟩
def k5 (s : K4 × Int) : Value := .agg ⟨[.int .i64 s.1.1, .int .i64 s.1.2.1, .int .i64 s.1.2.2.1, .int .i64 s.1.2.2.2, .int .i64 s.2]⟩
def vI (n : Int) : Value := .int .i64 n
theorem eqIn119 {n : Nat} {a b c d a' b' c' d' : Int} : pureRun Try.prog (Op.equalIn (n + 1 + 1) 119 (.agg ⟨[.int .i64 a, .int .i64 b, .int .i64 c, .int .i64 d]⟩) (.agg ⟨[.int .i64 a', .int .i64 b', .int .i64 c', .int .i64 d']⟩)) = some (decide ((a, b, c, d) = (a', b', c', d'))) := by
 unfold Op.equalIn
 rw [pureRun_bind, prH]
 simp only [Option.bind_some,pureRun_bind,prZ]
 by_cases h0 : a = a'
 ·by_cases h1 : b = b'
  ·by_cases h2 : c = c'
   ·by_cases h3 : d = d'
    ·subst h0 h1 h2 h3
     simp [prPure, pureRun_bind, pr0, pr1, pr2, pr3, prI, List.range']
    ·subst h0 h1 h2
     simp [prPure, pureRun_bind, pr0, pr1, pr2, pr3, prI, List.range', h3]
   ·subst h0 h1
    simp [prPure, pureRun_bind, pr0, pr1, pr2, pr3, prI, List.range', h2]
  ·subst h0
   simp [prPure, pureRun_bind, pr0, pr1, pr2, pr3, prI, List.range', h1]
 ·simp [prPure, pureRun_bind, pr0, pr1, pr2, pr3, prI, List.range', h0]
theorem prH176 : pureRun Try.prog (underlying 176) = some (.struct #[{ name := "sacks", type := 119, offset := 0, embedded := false, tag := "", pkgPath := "laystall/lot", byteOffset := 0 }, { name := "lots", type := 3, offset := 4, embedded := false, tag := "", pkgPath := "laystall/lot", byteOffset := 32 }]) := by kernel_rfl
theorem prS176 : Try.prog.stoodInHeld 176 = false := by kernel_rfl
theorem prF176_0 {a b c d k : Int} : pureRun Try.prog (Go.part 119 ⟨[.int .i64 a, .int .i64 b, .int .i64 c, .int .i64 d, .int .i64 k]⟩ 0) = some (.agg ⟨[.int .i64 a, .int .i64 b, .int .i64 c, .int .i64 d]⟩) := by kernel_rfl
theorem prF176_1 {a b c d k : Int} : pureRun Try.prog (Go.part 3 ⟨[.int .i64 a, .int .i64 b, .int .i64 c, .int .i64 d, .int .i64 k]⟩ 4) = some (.int .i64 k) := by kernel_rfl
theorem eq176 {s s' : K4 × Int} : pureRun Try.prog (Op.equal 176 (k5 s) (k5 s')) = some (decide (s = s')) := by
 obtain ⟨⟨a, b, c, d⟩, k⟩ := s
 obtain ⟨⟨a', b', c', d'⟩, k'⟩ := s'
 show pureRun Try.prog (Op.equalIn (9997 + 1 + 1 + 1) 176 (.agg ⟨[.int .i64 a, .int .i64 b, .int .i64 c, .int .i64 d, .int .i64 k]⟩) (.agg ⟨[.int .i64 a', .int .i64 b', .int .i64 c', .int .i64 d', .int .i64 k']⟩)) = _
 unfold Op.equalIn
 rw [pureRun_bind, prH176]
 have hI := fun (a b : Int) => prI (n := 9997 + 1) (a := a) (b := b)
 by_cases h0 : (a, b, c, d) = (a', b', c', d')
 ·have h0' := h0
  simp only [Prod.mk.injEq] at h0'
  obtain ⟨rfl, rfl, rfl, rfl⟩ := h0'
  by_cases h1 : k = k'
  ·subst h1
   simp only [Option.bind_some,pureRun_bind,prG,prS176,Bool.false_eq_true,if_false,List.forIn_toArray,List.forIn_cons,List.forIn_nil,ne_eq,eqIn119,hI,prF176_0,prF176_1,show ("sacks" = "_") = False by simp,show ("lots" = "_") = False by simp,not_false_eq_true,if_true,beq_self_eq_true,Bool.not_true,prPure,decide_true]
  ·have hb : (k == k') = false := by simpa using h1
   have hd : decide ((((a, b, c, d) : K4), k) = (((a, b, c, d) : K4), k')) = false := by simp [h1]
   rw [hd]
   simp only [Option.bind_some,pureRun_bind,prG,prS176,Bool.false_eq_true,if_false,List.forIn_toArray,List.forIn_cons,List.forIn_nil,ne_eq,eqIn119,hI,prF176_0,prF176_1,show ("sacks" = "_") = False by simp,show ("lots" = "_") = False by simp,not_false_eq_true,if_true,beq_self_eq_true,Bool.not_true,prPure,decide_true,hb,Bool.not_false]
 ·have hd : decide ((((a, b, c, d) : K4), k) = (((a', b', c', d') : K4), k')) = false := by
   simp only [decide_eq_false_iff_not]
   intro h
   exact h0 (Prod.mk.inj h).1
  rw [hd]
  simp only [Option.bind_some,pureRun_bind,prG,prS176,Bool.false_eq_true,if_false,List.forIn_toArray,List.forIn_cons,List.forIn_nil,ne_eq,eqIn119,prF176_0,prF176_1,show ("sacks" = "_") = False by simp,not_false_eq_true,if_true,prPure,decide_eq_false h0,Bool.not_false]
theorem und173 : tabA.und 173 = some (.map 176 178) := by kernel_rfl
theorem mapR : MapT 176 173 178 k5 k5 ((0, 0, 0, 0), 0) where
 und := und173
 gr _ := rfl
 eq _ _ := eq176
 ck em s := by cases em <;> kernel_rfl
 sb s := by
  obtain ⟨⟨a, b, c, d⟩, k⟩ := s
  have h : Instr.sameBits 10000 (k5 ((a, b, c, d), k)) (k5 ((a, b, c, d), k)) = (true && ((true && (a == a)) && ((true && (b == b)) && ((true && (c == c)) && ((true && (d == d)) && ((true && (k == k)) && true)))))) := rfl
  rw [h]
  simp
 now d s e es h := by
  have : tabA.und 176 = some (.struct #[{ name := "sacks", type := 119, offset := 0, embedded := false, tag := "", pkgPath := "laystall/lot", byteOffset := 0 }, { name := "lots", type := 3, offset := 4, embedded := false, tag := "", pkgPath := "laystall/lot", byteOffset := 32 }]) := by kernel_rfl
  rw [this] at h
  cases h
  rfl
 kd := ⟨_, (by kernel_rfl : tabA.und 176 = some (.struct #[{ name := "sacks", type := 119, offset := 0, embedded := false, tag := "", pkgPath := "laystall/lot", byteOffset := 0 }, { name := "lots", type := 3, offset := 4, embedded := false, tag := "", pkgPath := "laystall/lot", byteOffset := 32 }]))⟩
 inf := ⟨Try.t178, k5 ((0, 0, 0, 0), 0), by kernel_rfl, by kernel_rfl, rfl, rfl⟩
theorem mapL : MapT 119 122 3 k4 vI 0 where
 und := und122
 gr _ := rfl
 eq s s' := by
  obtain ⟨a, b, c, d⟩ := s
  obtain ⟨a', b', c', d'⟩ := s'
  exact eqIn119 (n := 9998)
 ck em s := ck119
 sb s := by
  obtain ⟨a, b, c, d⟩ := s
  have h : Instr.sameBits 10000 (k4 (a, b, c, d)) (k4 (a, b, c, d)) = (true && ((true && (a == a)) && ((true && (b == b)) && ((true && (c == c)) && ((true && (d == d)) && true))))) := rfl
  rw [h]
  simp
 now d s e es h := by
  rw [und119] at h
  cases h
  rfl
 kd := ⟨_, und119⟩
 inf := ⟨Try.t3, .int .i64 0, by kernel_rfl, by kernel_rfl, rfl, rfl⟩
end Go.Am.K
namespace Go.Am.K
open Go.Proofs
variable {T : Tab} {P : Program} {N L : Nat} {H : AHeap} {Q : Bool → Value → AHeap → Prop}
def l4 (s : K4) : List Int := [s.1, s.2.1, s.2.2.1, s.2.2.2]
def brg (ps : List Pk) (gs : List Gd) (m : List Int) : Int := isum m * (grd ps gs m).pr
def BrI (ps : List Pk) (gs : List Gd) (blk : ABlk) : Prop := ∃ F : List (K4 × Int), MpB k4 vI blk F ∧ ∀ p ∈ F, p.2 = brg ps gs (l4 p.1)
theorem BrI.nil {ps : List Pk} {gs : List Gd} {n : Nat} : BrI ps gs (.map [] n) := ⟨[], MpB.nil, by simp⟩
section
variable {a a' : Option Addr} {cap cap' k : Nat} {ps : List Pk} {gs : List Gd} {s : K4} {lo : Value}
theorem c93 (hs : Rw pkE H a ps) (hl : ps.length ≤ 4) (hpk : ∀ p ∈ ps, p.Ok) (hgs : Rw gdE H a' gs) (hgl : gs.length ≤ 4) (hgk : ∀ g ∈ gs, g.Ok) (hmb : ∀ n ∈ l4 s, 0 ≤ n ∧ n ≤ 6) (ho : sameV 5 lo lo = true) (hb : BrI ps gs (H.get k)) (hk : k < H.size) :
  resK (acall tabA (aexec tabA Try.prog (N + 800)) 93 [.agg ⟨[.slice a ps.length cap, .slice a' gs.length cap', lo, .map (some k)]⟩, .agg ⟨tv (l4 s)⟩] H) k fun _ v H' => v = .int .i64 (brg ps gs (l4 s)) ∧ H.size ≤ H'.size ∧ (∀ i, i < H.size → i ≠ k → H'.get i = H.get i) ∧ BrI ps gs (H'.get k) := by
 obtain ⟨F, ⟨es, clock, h1, h2⟩, h3⟩ := hb
 have hf := aFindKey_kv mapL (s := s) h2
 cases hx : fix vI F s 0 with
 | none =>
  rw [hx] at hf
  refine resK_mono (c93n hs hl hpk hgs hgl hgk rfl hmb ho h1 hk hf) ?_
  rintro q v H' ⟨rfl, rfl⟩
  refine ⟨rfl, by (first | omega | (simp only [yz] <;> omega)), fun i hi hn => ?_, F ++ [(s, brg ps gs (l4 s))], ⟨_, _, get_put_same (by first|omega|(simp only [yz]<;>omega)), ?_⟩, fun p hp => ?_⟩
  ·rw [get_put_ne hn, get_alloc_lt (by first|omega|(simp only [yz]<;>omega)), get_alloc_lt (by first|omega|(simp only [yz]<;>omega))]
  ·rw [List.map_append, List.map_append, h2]; rfl
  ·rcases List.mem_append.1 hp with hp | hp
   ·exact h3 p hp
   ·rw [List.mem_singleton.1 hp]
 | some p =>
  obtain ⟨j, v⟩ := p
  obtain ⟨-, n, g1, rfl, -⟩ := fix_some hx
  rw [hx] at hf
  have hn : n = brg ps gs (l4 s) := h3 _ (flk_mem g1)
  rw [c93k (n := n) (m := l4 s) rfl h1 hk hf]
  exact ⟨by omega, by rw [hn], Nat.le_refl _, fun i _ _ => rfl, F, ⟨es, clock, h1, h2⟩, h3⟩
end
end Go.Am.K
namespace Go.Am.K
open Go.Proofs
theorem st_alS_173 : alS tabA 173 = some [(.map none)] := by kernel_rfl
theorem st_alS_174 : alS tabA 174 = some [.nilFunc] := by kernel_rfl
theorem st_alS_176 : alS tabA 176 = some [(.int IntKind.i64 0), (.int IntKind.i64 0), (.int IntKind.i64 0), (.int IntKind.i64 0), (.int IntKind.i64 0)] := by kernel_rfl
theorem st_alS_178 : alS tabA 178 = some [(.int IntKind.i64 0), (.int IntKind.i64 0), (.int IntKind.i64 0), (.int IntKind.i64 0), (.int IntKind.i64 0)] := by kernel_rfl
theorem st_alS_4 : alS tabA 4 = some [(.bool false)] := by kernel_rfl
theorem st_bdS_176 : bdS tabA 176 = some ([(.int IntKind.i64 0), (.int IntKind.i64 0), (.int IntKind.i64 0), (.int IntKind.i64 0), (.int IntKind.i64 0)], [(0, 4), (4, 1)]) := by kernel_rfl
theorem st_bdS_178 : bdS tabA 178 = some ([(.int IntKind.i64 0), (.int IntKind.i64 0), (.int IntKind.i64 0), (.int IntKind.i64 0), (.int IntKind.i64 0)], [(0, 4), (4, 1)]) := by kernel_rfl
theorem st_brS_152_1 : brS tabA 152 1 = some (4, 119, [(.int IntKind.i64 0), (.int IntKind.i64 0), (.int IntKind.i64 0), (.int IntKind.i64 0)]) := by kernel_rfl
theorem st_brS_82_1 : brS tabA 82 1 = some (1, 49, [(.slice none 0 0)]) := by kernel_rfl
theorem st_esS_152 : esS tabA 152 = some 4 := by kernel_rfl
theorem st_esS_82 : esS tabA 82 = some 1 := by kernel_rfl
theorem st_faS_176_0 : faS tabA 176 0 = some 0 := by kernel_rfl
theorem st_faS_176_1 : faS tabA 176 1 = some 4 := by kernel_rfl
theorem st_faS_178_1 : faS tabA 178 1 = some 4 := by kernel_rfl
theorem st_inS_173 : inS tabA 173 = some 1 := by kernel_rfl
theorem st_inS_174 : inS tabA 174 = some 1 := by kernel_rfl
theorem st_inS_176 : inS tabA 176 = some 5 := by kernel_rfl
theorem st_inS_178 : inS tabA 178 = some 5 := by kernel_rfl
theorem st_ldS_173 : ldS tabA 173 = some 0 := by kernel_rfl
theorem st_ldS_174 : ldS tabA 174 = some 0 := by kernel_rfl
theorem st_ldS_176 : ldS tabA 176 = some 6 := by kernel_rfl
theorem st_ldS_178 : ldS tabA 178 = some 6 := by kernel_rfl
theorem st_ldS_49 : ldS tabA 49 = some 0 := by kernel_rfl
theorem fn_6 : tabA.fn 6 = some Try.f6 := by kernel_rfl
theorem fn_45 : tabA.fn 45 = some Try.f45 := by kernel_rfl
theorem fn_46 : tabA.fn 46 = some Try.f46 := by kernel_rfl
theorem fn_47 : tabA.fn 47 = some Try.f47 := by kernel_rfl
theorem fn_97 : tabA.fn 97 = some Try.f97 := by kernel_rfl
theorem fn_100 : tabA.fn 100 = some Try.f100 := by kernel_rfl
theorem fn_106 : tabA.fn 106 = some Try.f106 := by kernel_rfl
theorem fn_107 : tabA.fn 107 = some Try.f107 := by kernel_rfl
theorem fn_122 : tabA.fn 122 = some Try.f122 := by kernel_rfl
theorem fn_124 : tabA.fn 124 = some Try.f124 := by kernel_rfl
end Go.Am.K
namespace Go.Am.K
open Go.Proofs
variable {T : Tab} {P : Program} {N L : Nat} {H : AHeap} {Q : Bool → Value → AHeap → Prop}
theorem part5 {a b c d k : Value} : part [a, b, c, d, k] 0 5 = some (.agg ⟨[a, b, c, d]⟩) := rfl
theorem c124 {r0 r1 r2 r3 l0 l1 l2 l3 k : Int} (h0 : 0 ≤ r0 ∧ r0 ≤ 100) (h1 : 0 ≤ r1 ∧ r1 ≤ 100) (h2 : 0 ≤ r2 ∧ r2 ≤ 100) (h3 : 0 ≤ r3 ∧ r3 ≤ 100) (k0 : 0 ≤ l0 ∧ l0 ≤ 100) (k1 : 0 ≤ l1 ∧ l1 ≤ 100) (k2 : 0 ≤ l2 ∧ l2 ≤ 100) (k3 : 0 ≤ l3 ∧ l3 ≤ 100) (hk : 0 ≤ k ∧ k ≤ 100) :
  acall tabA (aexec tabA Try.prog (N + 120)) 124 [.agg ⟨[.int .i64 r0, .int .i64 r1, .int .i64 r2, .int .i64 r3, .int .i64 k]⟩, .agg ⟨[.int .i64 l0, .int .i64 l1, .int .i64 l2, .int .i64 l3]⟩] H = some (true, .agg ⟨[.int .i64 (r0 - l0), .int .i64 (r1 - l1), .int .i64 (r2 - l2), .int .i64 (r3 - l3), .int .i64 (k - 1)]⟩, H, H.size) := by
 refine call_quiet (k := 13) (rs := [.cell 4 176]) rfl fn_124 rfl rfl rfl ?_ rfl
 have h126 := fun (N : Nat) (H : AHeap) => c126 (N := N) (H := H) h0 h1 h2 h3 k0 k1 k2 k3
 have w : w64 (k - 1) = k - 1 := w64_of (by omega)
 clear h0 h1 h2 h3 k0 k1 k2 k3 hk
 simp (disch:=first|(simp only [yk,seval];done)|omega|(simp only [yz]<;>omega)|fail) only [↓yp,yA,ys0,ys1,seval,fitB,newC,endD,endR,yrg,st_alS_176,st_inS_176,st_ldS_176,A_build st_bdS_176,st_faS_176_0,st_faS_176_1]
 refine W_draw [8] rfl (by kernel_rfl) (by kernel_rfl) (by first|omega|(simp only [yz]<;>omega)) ?_
 simp (disch:=first|(simp only [yk,seval];done)|omega|(simp only [yz]<;>omega)|fail) only [↓yp,yA,ys0,ys1,seval,fitB,newC,endD,endR,yrg,st_alS_176,st_inS_176,st_ldS_176,A_build st_bdS_176,st_faS_176_0,st_faS_176_1,h126,w,part5]
end Go.Am.K
namespace Go.Am.K
open Go.Proofs
variable {T : Tab} {P : Program} {N L : Nat} {H H' H'' : AHeap} {Q : Bool → Value → AHeap → Prop}
theorem atake_fr' {lo : Nat} : ∀ {ds : List Nat} {H H' : AHeap}, atake ds H = some H' → (∀ q ∈ ds, lo ≤ q) → ∀ q, q < lo → H'.get q = H.get q
 | [], H, H', h, _, q, _ => by cases h; rfl
 | d :: ds, H, H', h, hl, q, hq => by
  unfold atake at h
  split at h
  ·have := atake_fr' h (fun p hp => hl p (List.mem_cons_of_mem _ hp)) q hq
   rw [this, get_put_ne (by have := hl d (by simp); omega)]
  ·cases h
theorem call_keepD (hT : T.MemoFr) {g : FuncId} {args : List Value} {fn : Func} {c : Code} {R : Value → AHeap → Prop} {rs : List ResultVar} (hm : T.memo g args H = none) (hf : T.fn g = some fn) (hb : fn.body = some c) (hr : fn.results.toList = rs) {k : Nat} (hk : args.length + (fn.ntmps - args.length) = k) (hL : L ≤ H.size)
  (hw : W T P N none c L ⟨k, env args 0 .nil, H, []⟩ (retD T L rs R)) (hq : ∀ v H', R v H' → Q false v H') (hq' : ∀ v H', R v H' → gr v = true → Fr H H' → Q true v H) :
  resK (acall T (aexec T P N) g args H) L Q := by
 subst hk
 unfold W at hw
 unfold resK acall acall0
 rw [hm, hf]
 simp only [hb,envK_eq,fNat_eq]
 cases ha : aexec T P N none c ⟨args.length + (fn.ntmps - args.length), env args 0 .nil, H, []⟩ with
 | none => rw [ha] at hw; exact hw.elim
 | some p =>
  obtain ⟨x, s, m⟩ := p
  have hfr := aexec_fr hT N _ _ _ _ _ _ ha
  simp only at hfr
  rw [ha] at hw
  obtain ⟨h1, h2⟩ := hw
  have key : ((∀ k ∈ s.ds, L ≤ k) ∧ L ≤ s.H.size ∧ ∃ H', atake s.ds s.H = some H' ∧ ∃ v, resV T s.n s.e H' rs = some v ∧ R v H') → (match aleave T fn H s m with
    | some (b, v, H', m) => L ≤ m ∧ Q b v H'
    | none => False) := by
   rintro ⟨k1, k4, H', k5, v, k2, k3⟩
   have hr' : ares T fn s.n s.e H' = some v := by rw [← hr] at k2; exact k2
   have hmin := le_minAl h1 k1
   have hsz := atake_size k5
   have hml := minAl_le m s.ds
   unfold aleave
   simp only [k5,hr',fV_eq,fNat_eq]
   unfold quietV
   cases hq2 : (Nat.ble H.size (min (minAl m s.ds) s.H.size) && gr v)
   ·simp only [cond_false]
    exact ⟨by omega, hq _ _ k3⟩
   ·simp only [cond_true]
    simp only [Bool.and_eq_true] at hq2
    have := Nat.le_of_ble_eq_true hq2.1
    refine ⟨hL, hq' _ _ k3 hq2.2 ⟨by rw [hsz]; exact hfr.size, fun k hk => ?_⟩⟩
    rw [atake_fr' (lo := H.size) k5 (fun q hq => by have := hml.2 q hq; omega) k hk]
    exact hfr.same k (by omega) hk
  cases x with
  | normal => exact key h2
  | ret => exact key h2
  | _ => exact h2.elim
theorem rw_sm {α : Type} {E : Enc α} {a : Option Addr} {l : List α} (h : Rw E H a l) {mk km : Nat} (hz : H.size ≤ H'.size) (hs : ∀ i, i < H.size → i ≠ mk → i ≠ km → H'.get i = H.get i) (h1 : ∃ es c, H.get mk = .map es c) (h2 : ∃ es c, H.get km = .map es c) : Rw E H' a l := ⟨fun hl => by
 obtain ⟨b, o, c, e1, e2, e3, e4⟩ := h.get hl
 obtain ⟨es1, c1, h1⟩ := h1
 obtain ⟨es2, c2, h2⟩ := h2
 have n1 : b ≠ mk := fun e => by rw [e, h1] at e3; cases e3
 have n2 : b ≠ km := fun e => by rw [e, h2] at e3; cases e3
 exact ⟨b, o, c, e1, by omega, by rw [hs b e2 n1 n2]; exact e3, e4⟩⟩
def ptr (k : Nat) : Value := .pointer (some ⟨k, 0, none⟩)
def KnI (ps : List Pk) (gs : List Gd) (blk : ABlk) : Prop := ∃ F : List ((K4 × Int) × (K4 × Int)), MpB k5 k5 blk F ∧ ∀ p ∈ F, 0 ≤ p.1.2 ∧ SaleOk (brg ps gs) (l4 p.1.1) p.1.2.toNat (l4 p.2.1) p.2.2
theorem KnI.nil {ps : List Pk} {gs : List Gd} {n : Nat} : KnI ps gs (.map [] n) := ⟨[], MpB.nil, by simp⟩
structure NX (ps : List Pk) (gs : List Gd) (a a' : Option Addr) (cap cap' : Nat) (lots : Int) (mk km kb wb fb : Nat) (H : AHeap) : Prop where
 hs : Rw pkE H a ps
 hg : Rw gdE H a' gs
 w : H.get wb = .rw [.slice a ps.length cap, .slice a' gs.length cap', .int .i64 lots, .map (some mk)] 124 false []
 kv : H.get kb = .rw [.map (some km)] 173 false []
 fv : H.get fb = .rw [.func (.func 122) ⟨[]⟩ ⟨[ptr kb, ptr wb, ptr fb]⟩] 174 false []
 br : BrI ps gs (H.get mk)
 kn : KnI ps gs (H.get km)
 lt : wb < H.size ∧ kb < H.size ∧ fb < H.size ∧ mk < H.size ∧ km < H.size
 ne : mk ≠ km
structure Sm (mk km : Nat) (H H' : AHeap) : Prop where
 sz : H.size ≤ H'.size
 same : ∀ i, i < H.size → i ≠ mk → i ≠ km → H'.get i = H.get i
variable {ps : List Pk} {gs : List Gd} {a a' : Option Addr} {cap cap' : Nat} {lots : Int} {mk km kb wb fb : Nat}
theorem Sm.refl : Sm mk km H H := ⟨Nat.le_refl _, fun _ _ _ _ => rfl⟩
theorem Sm.trans (h : Sm mk km H H') (h' : Sm mk km H' H'') : Sm mk km H H'' := ⟨Nat.le_trans h.sz h'.sz, fun i hi n1 n2 => by rw [h'.same i (by have := h.sz; omega) n1 n2, h.same i hi n1 n2]⟩
theorem Sm.of_fr (f : Fr H H') : Sm mk km H H' := ⟨f.size, fun i hi _ _ => f.same i hi⟩
theorem BrI.map {b : ABlk} (h : BrI ps gs b) : ∃ es c, b = .map es c := by
 obtain ⟨F, ⟨es, c, h1, -⟩, -⟩ := h
 exact ⟨es, c, h1⟩
theorem KnI.map {b : ABlk} (h : KnI ps gs b) : ∃ es c, b = .map es c := by
 obtain ⟨F, ⟨es, c, h1, -⟩, -⟩ := h
 exact ⟨es, c, h1⟩
theorem NX.sm (h : NX ps gs a a' cap cap' lots mk km kb wb fb H) (s : Sm mk km H H') (hb : BrI ps gs (H'.get mk)) (hk : KnI ps gs (H'.get km)) : NX ps gs a a' cap cap' lots mk km kb wb fb H' := by
 obtain ⟨l1, l2, l3, l4, l5⟩ := h.lt
 obtain ⟨e1, c1, m1⟩ := h.br.map
 obtain ⟨e2, c2, m2⟩ := h.kn.map
 have ne : ∀ {i : Nat} {c : List Value} {ty : TypeId} {o : Bool} {al : List Nat}, H.get i = .rw c ty o al → i ≠ mk ∧ i ≠ km := fun hi => ⟨fun e => (by rw [e, m1] at hi; cases hi), fun e => (by rw [e, m2] at hi; cases hi)⟩
 have hz := s.sz
 exact ⟨rw_sm h.hs s.sz s.same ⟨_, _, m1⟩ ⟨_, _, m2⟩, rw_sm h.hg s.sz s.same ⟨_, _, m1⟩ ⟨_, _, m2⟩, by rw [s.same wb l1 (ne h.w).1 (ne h.w).2]; exact h.w, by rw [s.same kb l2 (ne h.kv).1 (ne h.kv).2]; exact h.kv, by rw [s.same fb l3 (ne h.fv).1 (ne h.fv).2]; exact h.fv, hb, hk, ⟨by omega, by omega, by omega, by omega, by omega⟩, h.ne⟩
theorem NX.fr (h : NX ps gs a a' cap cap' lots mk km kb wb fb H) (f : Fr H H') : NX ps gs a a' cap cap' lots mk km kb wb fb H' := h.sm (Sm.of_fr f) (by rw [f.same _ h.lt.2.2.2.1]; exact h.br) (by rw [f.same _ h.lt.2.2.2.2]; exact h.kn)
end Go.Am.K
namespace Go.Am.K
open Go.Proofs
variable {T : Tab} {P : Program} {N L : Nat} {H H' H'' : AHeap} {Q : Bool → Value → AHeap → Prop}
variable {ps : List Pk} {gs : List Gd} {a a' : Option Addr} {cap cap' : Nat} {lots : Int} {mk km kb wb fb : Nat}
def NxR (ps : List Pk) (gs : List Gd) (mk km : Nat) (r : K4) (k : Nat) (H : AHeap) (v : Value) (H' : AHeap) : Prop := ∃ (s : K4) (n : Int), v = k5 (s, n) ∧ SaleOk (brg ps gs) (l4 r) k (l4 s) n ∧ Sm mk km H H' ∧ BrI ps gs (H'.get mk) ∧ KnI ps gs (H'.get km)
theorem SaleOk.zero {b : List Int → Int} {r l : List Int} : SaleOk b r 0 l 0 := ⟨OptR.zero, fun h => by omega⟩
theorem ret_ {s r : K4} {n : Int} {k : Nat} (X : NX ps gs a a' cap cap' lots mk km kb wb fb H) (fr : Fr H H') (h : SaleOk (brg ps gs) (l4 r) k (l4 s) n) : NxR ps gs mk km r k H (k5 (s, n)) H' :=
 ⟨s, n, rfl, h, Sm.of_fr fr, by rw [fr.same mk X.lt.2.2.2.1]; exact X.br, by rw [fr.same km X.lt.2.2.2.2]; exact X.kn⟩
theorem resK_lowQ {q : Res} {L' : Nat} {Q' : Bool → Value → AHeap → Prop} (h : resK q L' Q) (hL : L ≤ L') (hq : ∀ b v H', Q b v H' → Q' b v H') : resK q L Q' := by
 unfold resK at *
 cases q with
 | none => exact h
 | some p => exact ⟨Nat.le_trans hL h.1, hq _ _ _ h.2⟩
theorem Pl_mem {r y : List Int} {k : Nat} {M : List (List Int)} (h : Pl r k M) (hy : y ∈ M) : LV r y := by
 have := Pl_perm (List.perm_cons_erase hy) h
 match k, this with
 | k + 1, this => exact this.1
 | 0, this => exact this.elim
theorem brg_in {r y : List Int} (hgk : ∀ g ∈ gs, g.Ok) (h4 : r.length = 4) (hr : ∀ n ∈ r, 0 ≤ n ∧ n ≤ 6) (hy : LV r y) : 0 ≤ brg ps gs y ∧ brg ps gs y ≤ 2400 := by
 have hm := LV_in hy fun n hn => (hr n hn).2
 have hp := grd_ok (ps := ps) (m := y) hgk
 have hi := m_sum (by rw [LV_len hy, h4]) hm
 exact ⟨Int.mul_nonneg hi.1 hp.1, by unfold brg; have := Int.mul_le_mul hi.2 hp.2 hp.1 (by omega : (0:Int) ≤ 24); omega⟩
theorem opt_in {r : List Int} {k : Nat} {w : Int} (hgk : ∀ g ∈ gs, g.Ok) (h4 : r.length = 4) (hr : ∀ n ∈ r, 0 ≤ n ∧ n ≤ 6) (h : OptR (brg ps gs) r k w) : 0 ≤ w ∧ w ≤ 2400 * k := by
 obtain ⟨M, h1, h2⟩ := h.ex
 have := totL_le (b := brg ps gs) (n := 2400) (by omega) h1 fun y hy => (brg_in hgk h4 hr (Pl_mem h1 hy)).2
 exact ⟨h.nn, by omega⟩
structure RV (ps : List Pk) (gs : List Gd) (a a' : Option Addr) (cap cap' : Nat) (lots : Int) (mk km kb wb fb : Nat) (h : Nat) (H6 Ha : AHeap) (bz best lot : ABlk) (Hx : AHeap) : Prop where
 nx : NX ps gs a a' cap cap' lots mk km kb wb fb Hx
 sz : Ha.size + 1 ≤ Hx.size
 same : ∀ i, i < H6.size → i ≠ mk → i ≠ km → i ≠ h + 1 + 1 → Hx.get i = H6.get i
 new : ∀ j, H6.size + 2 ≤ j → j < Ha.size → Hx.get j = Ha.get j
 best : Hx.get (h + 1 + 1) = best
 lot : Hx.get Ha.size = lot
 bz : Hx.get (H6.size + 1) = bz
 df : Hx.get H6.size = .defer
theorem RV.sm {h : Nat} {H6 Ha Hx Hy : AHeap} {bz best lot : ABlk} (V : RV ps gs a a' cap cap' lots mk km kb wb fb h H6 Ha bz best lot Hx) (s : Sm mk km Hx Hy) (hb : BrI ps gs (Hy.get mk)) (hk : KnI ps gs (Hy.get km)) (h1 : mk < h ∧ km < h ∧ h + 4 = H6.size ∧ H6.size + 2 ≤ Ha.size) : RV ps gs a a' cap cap' lots mk km kb wb fb h H6 Ha bz best lot Hy := by
 have hz := s.sz
 have vz := V.sz
 have hs := s.same
 exact ⟨V.nx.sm s hb hk, by omega, fun i hi n1 n2 n3 => by rw [hs i (by omega) n1 n2]; exact V.same i hi n1 n2 n3, fun j hj hj' => by rw [hs j (by omega) (by omega) (by omega)]; exact V.new j hj hj', by rw [hs _ (by omega) (by omega) (by omega)]; exact V.best, by rw [hs _ (by omega) (by omega) (by omega)]; exact V.lot, by rw [hs _ (by omega) (by omega) (by omega)]; exact V.bz, by rw [hs _ (by omega) (by omega) (by omega)]; exact V.df⟩
structure NJ (ps : List Pk) (gs : List Gd) (mk km : Nat) (h : Nat) (H6 : AHeap) (r : List Int) (k : Nat) (j : Nat) (H'' : AHeap) : Prop where
 sz : H6.size + 2 ≤ H''.size
 same : ∀ i, i < H6.size → i ≠ mk → i ≠ km → i ≠ h + 1 + 1 → H''.get i = H6.get i
 br : BrI ps gs (H''.get mk)
 kn : KnI ps gs (H''.get km)
 best : ∃ (s0 s1 s2 s3 v : Int), TryB (brg ps gs) r k j [s0, s1, s2, s3] v ∧ H''.get (h + 1 + 1) = .rw [.int .i64 s0, .int .i64 s1, .int .i64 s2, .int .i64 s3, .int .i64 v] 178 false []
theorem rv_end {h : Nat} {H6 Ha Hx : AHeap} {bz lot rb : ABlk} {r : List Int} {k j : Nat} {s0 s1 s2 s3 v : Int} {b : Bool} (V : RV ps gs a a' cap cap' lots mk km kb wb fb h H6 Ha bz (.rw [.int .i64 s0, .int .i64 s1, .int .i64 s2, .int .i64 s3, .int .i64 v] 178 false []) lot Hx) (t : TryB (brg ps gs) r k (j + 1) [s0, s1, s2, s3] v) (h1 : mk < h ∧ km < h ∧ h + 4 = H6.size ∧ H6.size + 2 ≤ Ha.size) : roundL H6.size rb Ha (NJ ps gs mk km h H6 r k) (j + 1) b (.bool true) (Hx.put (H6.size + 1) rb) := by
 have vz := V.sz
 refine ⟨rfl, ⟨get_put_same (by omega), by rw [get_put_ne (by omega)]; exact V.df, ⟨by rw [size_put]; omega, fun i hi n1 n2 n3 => by rw [get_put_ne (by omega)]; exact V.same i hi n1 n2 n3, by rw [get_put_ne (by omega)]; exact V.nx.br, by rw [get_put_ne (by omega)]; exact V.nx.kn, s0, s1, s2, s3, v, t, by rw [get_put_ne (by omega)]; exact V.best⟩⟩, by rw [size_put]; omega, fun i hi hi' => by rw [get_put_ne (by omega)]; exact V.new i hi hi'⟩
theorem RV.store {h : Nat} {H6 Ha Hx : AHeap} {bz best best' lot : ABlk} (V : RV ps gs a a' cap cap' lots mk km kb wb fb h H6 Ha bz best lot Hx) (h1 : mk < h ∧ km < h ∧ h + 4 = H6.size ∧ H6.size + 2 ≤ Ha.size) (h2 : wb < h ∧ kb < h ∧ fb < h) (ha : Rw pkE (Hx.put (h + 1 + 1) best') a ps) (hb : Rw gdE (Hx.put (h + 1 + 1) best') a' gs) : RV ps gs a a' cap cap' lots mk km kb wb fb h H6 Ha bz best' lot (Hx.put (h + 1 + 1) best') := by
 have vz := V.sz
 have N := V.nx
 obtain ⟨l1, l2, l3, l4, l5⟩ := N.lt
 exact ⟨⟨ha, hb, by rw [get_put_ne (by omega)]; exact N.w, by rw [get_put_ne (by omega)]; exact N.kv, by rw [get_put_ne (by omega)]; exact N.fv, by rw [get_put_ne (by omega)]; exact N.br, by rw [get_put_ne (by omega)]; exact N.kn, by rw [size_put]; exact ⟨l1, l2, l3, l4, l5⟩, N.ne⟩, by rw [size_put]; exact vz, fun i hi n1 n2 n3 => by rw [get_put_ne n3]; exact V.same i hi n1 n2 n3, fun i hi hi' => by rw [get_put_ne (by omega)]; exact V.new i hi hi', get_put_same (by omega), by rw [get_put_ne (by omega)]; exact V.lot, by rw [get_put_ne (by omega)]; exact V.bz, by rw [get_put_ne (by omega)]; exact V.df⟩
def fl178 (v : Value) (H : AHeap) (L : Nat) (Q : Bool → Value → AHeap → Prop) (_ : Tag Q := .mk) : Prop := match still (aField tabA (fun _ => some v) H 178 (.tmp 0) 1) with
 | some (b, v, H', m) => L ≤ m ∧ Q b v H'
 | none => False
theorem A_fld178 {ex : Exec} {t : Operand → Option Value} {x : Operand} : A tabA Try.prog ex t H L (.field 178 x 1) Q = optK (t x) fun v => fl178 v H L Q := by
 unfold A
 show (match still (aField tabA t H 178 x 1) with
  | some (b, v, H', m) => L ≤ m ∧ Q b v H'
  | none => False) = _
 cases hs : t x with
 | none =>
  have : aField tabA t H 178 x 1 = none := by unfold aField; rw [hs]
  rw [this]; rfl
 | some v =>
  have : aField tabA t H 178 x 1 = aField tabA (fun _ => some v) H 178 (.tmp 0) 1 := by unfold aField; rw [hs]
  rw [this]; rfl
theorem fl178_of {s0 s1 s2 s3 w : Int} : fl178 (.agg ⟨[.int .i64 s0, .int .i64 s1, .int .i64 s2, .int .i64 s3, .int .i64 w]⟩) H L Q = andK (L ≤ H.size) (Q true (.int .i64 w) H) := by
 have : aField tabA (fun _ => some (.agg ⟨[.int .i64 s0, .int .i64 s1, .int .i64 s2, .int .i64 s3, .int .i64 w]⟩)) H 178 (.tmp 0) 1 = some (.int .i64 w, H, H.size) := by kernel_rfl
 unfold fl178
 rw [this]; rfl
end Go.Am.K
