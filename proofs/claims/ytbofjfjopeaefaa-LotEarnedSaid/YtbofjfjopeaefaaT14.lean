import Derived.Test.YtbofjfjopeaefaaT13
import Derived.Test.YtbofjfjopeaefaaT12
set_option linter.unusedSimpArgs false
set_option linter.unusedVariables false
namespace Go.Am
open Go.Proofs
variable {T : Tab} {P : Program} {N L : Nat} {H : AHeap} {Q : Bool → Value → AHeap → Prop}
def off (a lo hi : Int) : Bool := decide (a < lo) || decide (hi < a)
structure Fr (H H' : AHeap) : Prop where
 size : H.size ≤ H'.size
 same : ∀ k, k < H.size → H'.get k = H.get k
theorem Fr.refl (H : AHeap) : Fr H H := ⟨Nat.le_refl _, fun _ _ => rfl⟩
theorem Fr.trans {H H₁ H₂ : AHeap} (a : Fr H H₁) (b : Fr H₁ H₂) : Fr H H₂ := ⟨Nat.le_trans a.size b.size, fun k hk => (b.same k (Nat.lt_of_lt_of_le hk a.size)).trans (a.same k hk)⟩
theorem Fr.alloc (H : AHeap) (b : ABlk) : Fr H (H.alloc b) := ⟨by simp, fun k hk => get_alloc_lt hk⟩
theorem Fr.allocd {H H' : AHeap} (a : Fr H H') (b : ABlk) : Fr H (H'.alloc b) := a.trans (Fr.alloc _ _)
theorem Fr.kill {H H' : AHeap} (a : Fr H H') {l : List Nat} (h : ∀ j ∈ l, H.size ≤ j) : Fr H (H'.kill l) := ⟨by simp [a.size], fun j hj => by rw [get_kill (fun hm => by have := h j hm; omega)]; exact a.same j hj⟩
theorem Fr.put {H H' : AHeap} (a : Fr H H') {k : Nat} (hk : H.size ≤ k) (b : ABlk) : Fr H (H'.put k b) := ⟨by simp [a.size], fun j hj => by rw [get_put_ne (by omega)]; exact a.same j hj⟩
def wi (a lo hi : Int) : Bool := decide (lo ≤ a) && decide (a ≤ hi)
structure Grow (H : AHeap) (tb : Nat) (v : Value) (i : Nat) (cs : List Value) (el z : Nat) : Prop where
 nil : i = 0 → v = .slice none 0 0
 cons : i ≠ 0 → ∃ b al, v = .slice (some ⟨b, 0, none⟩) i (OPEN + z) ∧ tb < b ∧ b < H.size ∧ H.get b = .rw cs el true al ∧ (∀ j ∈ al, tb < j ∧ j < b)
structure FrU (m : Nat) (H H' : AHeap) : Prop where
 size : H.size ≤ H'.size
 same : ∀ k, k < m → H'.get k = H.get k
theorem Fr.part {H H₁ H₂ : AHeap} {m : Nat} (a : Fr H H₁) (b : FrU m H₁ H₂) (h : H.size ≤ m) : Fr H H₂ := ⟨Nat.le_trans a.size b.size, fun k hk => (b.same k (by omega)).trans (a.same k hk)⟩
theorem Grow.fr {H H' : AHeap} {tb i el z : Nat} {v : Value} {cs : List Value} (g : Grow H tb v i cs el z) (f : Fr H H') : Grow H' tb v i cs el z :=
 ⟨g.nil, fun h => by
  obtain ⟨b, al, h1, h2, h3, h4, h5⟩ := g.cons h
  exact ⟨b, al, h1, h2, Nat.lt_of_lt_of_le h3 f.size, by rw [f.same b h3]; exact h4, h5⟩⟩
theorem Grow.put {H : AHeap} {tb i el z k : Nat} {v : Value} {cs : List Value} {blk : ABlk} (g : Grow H tb v i cs el z) (hk : k ≤ tb) : Grow (H.put k blk) tb v i cs el z :=
 ⟨g.nil, fun h => by
  obtain ⟨b, al, h1, h2, h3, h4, h5⟩ := g.cons h
  exact ⟨b, al, h1, h2, by rw [size_put]; exact h3, by rw [get_put_ne (by omega)]; exact h4, h5⟩⟩
theorem newC_app {j : Nat} {vs a b : List Value} : newC (a.length + j) vs (a ++ b) = a ++ newC j vs b := by
 unfold newC
 rw [List.take_length_add_append, show a.length + j + vs.length = a.length + (j + vs.length) by omega, List.drop_length_add_append]
 simp
theorem newC_pre {j : Nat} {vs a b : List Value} (h : j + vs.length ≤ a.length) : newC j vs (a ++ b) = newC j vs a ++ b := by
 unfold newC
 rw [List.take_append_of_le_length (by omega), List.drop_append_of_le_length h]
 simp
theorem resK_elim {q : Res} {Q : Bool → Value → AHeap → Prop} (h : resK q L Q) : ∃ f v H' m, q = some (f, v, H', m) ∧ L ≤ m ∧ Q f v H' := by
 unfold resK at h
 cases q with
 | none => exact h.elim
 | some p =>
  obtain ⟨f, v, H', m⟩ := p
  exact ⟨f, v, H', m, rfl, h⟩
end Go.Am
namespace Go.Am
variable {α : Type} {T : Tab} {P : Program} {N n L : Nat} {r : Option Nat} {e : VT} {H : AHeap} {ds : List Nat} {ex : Exec} {t : Operand → Option Value} {Q : Bool → Value → AHeap → Prop}
def arS (T : Tab) (ty : TypeId) : Option (Nat × Nat) := match T.und ty with
 | some (.array len e) => match T.inf e with
  | some i => some (len, i.size)
  | none => none
 | _ => none
theorem A_indexArr {ty : TypeId} {x ix : Operand} {len z : Nat} (hz : arS T ty = some (len, z)) : A T P ex t H L (.indexAddr ty x ix) Q = optK (t x) fun v => ptrK v fun b o => optK (t ix) fun i => idxK i len fun i => letK (o + i * z) fun o => andK (L ≤ H.size) (Q true (.pointer (some ⟨b, o, none⟩)) H) := by
 unfold A
 show (match still (aIndexAddr T t H ty x ix) with
  | some (b, v, H', m) => L ≤ m ∧ Q b v H'
  | none => False) = _
 unfold arS at hz
 unfold aIndexAddr
 cases hu : T.und ty with
 | none => rw [hu] at hz; cases hz
 | some d =>
  cases d with
  | array ln el =>
   rw [hu] at hz
   simp only at hz
   cases hi : T.inf el with
   | none => rw [hi] at hz; cases hz
   | some i =>
    rw [hi] at hz
    cases hz
    cases t x with
    | none => rfl
    | some v =>
     cases v with
     | pointer a =>
      cases a with
      | none => cases t ix with
       | none => rfl
       | some w => cases w <;> rfl
      | some a =>
       cases t ix with
       | none => rfl
       | some w =>
        cases w with
        | int k m =>
         simp only [optK,ptrK,idxK,hi]
         by_cases h : 0 ≤ m ∧ m < len
         ·simp [h.1, h.2, still, letK, andK]
         ·have : (decide (0 ≤ m) && decide (m < (len : Int))) = false := by simpa using h
          simp only [this,cond_false,still,h,false_and]
        | _ => rfl
     | slice a l c =>
      cases a with
      | none => cases t ix with
       | none => rfl
       | some w => cases w <;> rfl
      | some a => cases t ix with
       | none => rfl
       | some w => cases w <;> rfl
     | _ => cases t ix with
       | none => rfl
       | some w => cases w <;> rfl
  | _ => rw [hu] at hz; cases hz
def ixV (T : Tab) (ty : TypeId) : Option (Nat × Nat × Nat) := match T.und ty with
 | some (.array len e) => match T.inf e, ldS T e with
  | some i, some z => some (len, i.size, z)
  | _, _ => none
 | _ => none
theorem aPart_of {e : TypeId} {cs : List Value} {off z : Nat} {v : Value} (hz : ldS T e = some z) (h : part cs off z = some v) : aPart T e cs off = some v := by
 unfold ldS at hz
 unfold aPart
 cases hu : T.und e with
 | none => rw [hu] at hz; cases hz
 | some d =>
  cases hi : T.inf e with
  | none => rw [hu, hi] at hz; cases hz
  | some i =>
   rw [hu, hi] at hz
   simp only [fNat_eq,Option.some.injEq] at hz
   subst hz
   simp only
   generalize aggOf d = g at h ⊢
   cases g
   ·exact h
   ·simp only [cond_true,part] at h ⊢
    cases hb : Nat.beq ((cs.drop off).take i.size).length i.size
    ·rw [hb] at h; cases h
    ·rw [hb] at h; exact h
theorem A_index_of {ty : TypeId} {x ix : Operand} {len sz z : Nat} {cs : List Value} {k : IntKind} {i : Int} {v : Value} (hz : ixV T ty = some (len, sz, z)) (hx : t x = some (.agg ⟨cs⟩)) (hi : t ix = some (.int k i)) (h0 : 0 ≤ i ∧ i < len)
  (hp : part cs (i.toNat * sz) z = some v) (hL : L ≤ H.size) (hq : Q true v H) : A T P ex t H L (.index ty x ix) Q := by
 unfold A
 show (match still (orElse (aIndex T t H ty x ix) (aIndexG P t H ty x ix)) with
  | some (b, v, H', m) => L ≤ m ∧ Q b v H'
  | none => False)
 have : aIndex T t H ty x ix = some (v, H, H.size) := by
  unfold ixV at hz
  unfold aIndex
  rw [hx, hi]
  cases hu : T.und ty with
  | none => rw [hu] at hz; cases hz
  | some d =>
   cases d with
   | array ln el =>
    rw [hu] at hz
    simp only at hz
    cases hie : T.inf el with
    | none => rw [hie] at hz; cases hz
    | some ie =>
     cases hl : ldS T el with
     | none => rw [hie, hl] at hz; cases hz
     | some z' =>
      rw [hie, hl] at hz
      cases hz
      simp only [hie,h0.1,h0.2,decide_true,Bool.and_self,cond_true]
      rw [aPart_of hl hp]
   | _ => rw [hu] at hz; cases hz
 rw [this]
 exact ⟨hL, hq⟩
theorem call_keep (hT : T.MemoFr) {g : FuncId} {args : List Value} {fn : Func} {c : Code} {R : Value → AHeap → Prop} {rs : List ResultVar} (hm : T.memo g args H = none) (hf : T.fn g = some fn) (hb : fn.body = some c) (hr : fn.results.toList = rs) {k : Nat} (hk : args.length + (fn.ntmps - args.length) = k) (hL : L ≤ H.size)
  (hw : W T P N none c L ⟨k, env args 0 .nil, H, []⟩ (retK T L rs R)) (hq : ∀ v H', R v H' → Q false v H') (hq' : ∀ v H', R v H' → gr v = true → Fr H H' → Q true v H) :
  resK (acall T (aexec T P N) g args H) L Q := by
 subst hk
 unfold W at hw
 unfold resK acall acall0
 rw [hm, hf]
 simp only [hb,envK_eq,fNat_eq]
 cases ha : aexec T P N none c ⟨args.length + (fn.ntmps - args.length), env args 0 .nil, H, []⟩ with
 | none => rw [ha] at hw; exact hw.elim
 | some p =>
  obtain ⟨x, s, m⟩ := p
  have hfr := aexec_fr hT N _ _ _ _ _ _ ha
  simp only at hfr
  rw [ha] at hw
  obtain ⟨h1, h2⟩ := hw
  have key : (s.ds = [] ∧ L ≤ s.H.size ∧ ∃ v, resV T s.n s.e s.H rs = some v ∧ R v s.H) → (match aleave T fn H s m with
    | some (b, v, H', m) => L ≤ m ∧ Q b v H'
    | none => False) := by
   rintro ⟨k1, k4, v, k2, k3⟩
   have hr' : ares T fn s.n s.e s.H = some v := by rw [← hr] at k2; exact k2
   unfold aleave
   rw [k1]
   simp only [atake,hr',fV_eq,fNat_eq,minAl]
   unfold quietV
   cases hq2 : (Nat.ble H.size (min m s.H.size) && gr v)
   ·simp only [cond_false]
    exact ⟨by omega, hq _ _ k3⟩
   ·simp only [cond_true]
    simp only [Bool.and_eq_true] at hq2
    have := Nat.le_of_ble_eq_true hq2.1
    exact ⟨hL, hq' _ _ k3 hq2.2 ⟨hfr.size, fun k hk => hfr.same k (by omega) hk⟩⟩
  cases x with
  | normal => exact key h2
  | ret => exact key h2
  | _ => exact h2.elim
theorem resK_mono {q : Res} {Q' : Bool → Value → AHeap → Prop} (h : resK q L Q) (hq : ∀ b v H', Q b v H' → Q' b v H') : resK q L Q' := by
 unfold resK at *
 cases q with
 | none => exact h
 | some p => exact ⟨h.1, hq _ _ _ h.2⟩
theorem resV_none : resV T n e H [] = some (.tuple ⟨[]⟩) := rfl
def mkS (T : Tab) (ty : TypeId) : Option (TypeId × Value × Nat × Nat) := match T.und ty with
 | some (.slice e) => match T.inf e with
  | some i => match i.zero with
   | some z => some (e, z, i.size, i.bytes)
   | none => none
  | none => none
 | _ => none
theorem A_make_of {ty e : TypeId} {x : Operand} {z : Value} {sz bs : Nat} {m : Int} (hz : mkS T ty = some (e, z, sz, bs)) (hx : t x = some (.int .i64 m)) (h0 : 0 ≤ m) (hb : (bs : Int) * m ≤ 281474976710656) (hm : m ≤ 9223372036854775807) (hg : allGrV (madeCells z.cells (m.toNat * sz)).toList = true)
  (hL : L ≤ H.size) (hq : Q false (.slice (some ⟨H.size, 0, none⟩) m.toNat m.toNat) (H.alloc (.rw (madeCells z.cells (m.toNat * sz)).toList e false []))) : A T P ex t H L (.makeSlice ty x x) Q := by
 unfold A
 show (match fresh H (newMade T t ty x x) with
  | some (b, v, H', m) => L ≤ m ∧ Q b v H'
  | none => False)
 have : newMade T t ty x x = some (.sl m.toNat m.toNat, .rw (madeCells z.cells (m.toNat * sz)).toList e false []) := by
  unfold mkS at hz
  unfold newMade
  rw [hx]
  cases hu : T.und ty with
  | none => rw [hu] at hz; cases hz
  | some d =>
   cases d with
   | slice el =>
    rw [hu] at hz
    simp only at hz
    cases hie : T.inf el with
    | none => rw [hie] at hz; cases hz
    | some ie =>
     rw [hie] at hz
     simp only at hz
     cases hze : ie.zero with
     | none => rw [hze] at hz; cases hz
     | some ze =>
      rw [hze] at hz
      cases hz
      simp only [hie,hze,h0,hb,hm,hg,Int.le_refl,decide_true,Bool.and_self,cond_true]
   | _ => rw [hu] at hz; cases hz
 rw [this]
 exact ⟨hL, hq⟩
theorem wrB_al {b o : Nat} {vs c : List Value} {ty : TypeId} {op : Bool} {al : List Nat} {Q : Nat → AHeap → Prop} : wrB (.rw c ty op al) H b o vs Q = letK (fitB o vs c) fun q => Split q (letK (newC o vs c) fun c => Q (minAl b al) ((H.kill al).put b (.rw c ty op []))) False := by
 unfold wrB fitB letK
 simp only [ble_iff]
 generalize (decide (o + vs.length ≤ c.length) && oneCells vs) = q
 cases q
 ·rw [cond_false, Split_false]
 ·rw [cond_true, Split_true]; rfl
def midK (n : Nat) (ds : List Nat) (I : VT → AHeap → Prop) (Q : Exit → ES → Prop) (x : Exit) (s : ES) : Prop := match x with
 | .normal => s.n = n ∧ s.ds = ds ∧ I s.e s.H
 | x => Q x s
def midN (I : VT → AHeap → Prop) (e : VT) (H : AHeap) (_ : Tag I := .mk) : Prop := I e H
theorem midK_normal {I : VT → AHeap → Prop} {Q : Exit → ES → Prop} : midK n ds I Q .normal ⟨n, e, H, ds⟩ = midN I e H := by simp [midK, midN]
theorem midK_exit {I : VT → AHeap → Prop} {Q : Exit → ES → Prop} {i : Nat} {s : ES} : midK n ds I Q (.exit i) s = Q (.exit i) s := nr rfl
theorem midK_ret {I : VT → AHeap → Prop} {Q : Exit → ES → Prop} {s : ES} : midK n ds I Q .ret s = Q .ret s := nr rfl
theorem W_seqI {x y : Code} {Q : Exit → ES → Prop} (I : VT → AHeap → Prop) (hx : W T P N r x L ⟨n, e, H, ds⟩ (midK n ds I Q)) (hy : ∀ e H, I e H → W T P N r y L ⟨n, e, H, ds⟩ Q) : W T P (N + 1) r (.seq x y) L ⟨n, e, H, ds⟩ Q := by
 rw [W_seq]
 refine W_mono hx ?_
 intro x' s' h
 cases x' with
 | normal =>
  obtain ⟨n', e', H', ds'⟩ := s'
  obtain ⟨rfl, rfl, h3⟩ := h
  exact hy e' H' h3
 | _ => exact h
theorem W_skipI {y : Code} {Q Q' : Exit → ES → Prop} {N' : Nat} (hL : L ≤ H.size) (hy : W T P N' r y L ⟨n, e, H, ds⟩ Q) : W T P (N + 1) r .skip L ⟨n, e, H, ds⟩ (fun x' s' => seqK x' (W T P N' r y L s' Q) (Q' x' s')) := by
 rw [W_skip, andK_of _ hL, seqK_normal]
 exact hy
def sub : List Bool → Code → Code
 | [], c => c
 | false :: p, .seq x _ => sub p x
 | true :: p, .seq _ y => sub p y
 | false :: p, .block _ b => sub p b
 | false :: p, .loop b => sub p b
 | false :: p, .cond _ x _ => sub p x
 | true :: p, .cond _ _ y => sub p y
 | _, c => c
theorem sub_nil {c : Code} : sub [] c = c := rfl
theorem sub_seq0 {p : List Bool} {x y : Code} : sub (false :: p) (.seq x y) = sub p x := rfl
theorem sub_seq1 {p : List Bool} {x y : Code} : sub (true :: p) (.seq x y) = sub p y := rfl
theorem sub_block {p : List Bool} {i : Nat} {x : Code} : sub (false :: p) (.block i x) = sub p x := rfl
theorem sub_loop {p : List Bool} {x : Code} : sub (false :: p) (.loop x) = sub p x := rfl
theorem sub_cond0 {p : List Bool} {c : Operand} {x y : Code} : sub (false :: p) (.cond c x y) = sub p x := rfl
theorem sub_cond1 {p : List Bool} {c : Operand} {x y : Code} : sub (true :: p) (.cond c x y) = sub p y := rfl
def bodyOf (f : Func) : Code := match f.body with
 | some c => c
 | none => .skip
def endK (n : Nat) (ds : List Nat) (I : VT → AHeap → Prop) (x : Exit) (s : ES) : Prop := match x with
 | .normal => s.n = n ∧ s.ds = ds ∧ I s.e s.H
 | _ => False
theorem endK_normal {I : VT → AHeap → Prop} : endK n ds I .normal ⟨n, e, H, ds⟩ = midN I e H := by simp [endK, midN]
theorem W_end {c : Code} {Q : Exit → ES → Prop} {I : VT → AHeap → Prop} (h : W T P N r c L ⟨n, e, H, ds⟩ (endK n ds I)) (hq : ∀ e' H', I e' H' → Q .normal ⟨n, e', H', ds⟩) : W T P N r c L ⟨n, e, H, ds⟩ Q := by
 refine W_mono h ?_
 intro x' s' h
 cases x' with
 | normal =>
  obtain ⟨n', e', H', ds'⟩ := s'
  obtain ⟨rfl, rfl, h3⟩ := h
  exact hq e' H' h3
 | _ => exact h.elim
def Keep (n : Nat) (js : List Nat) (e e' : VT) : Prop := ∀ j ∈ js, gt n e' j = gt n e j
theorem Keep.refl (n : Nat) (js : List Nat) (e : VT) : Keep n js e e := fun _ _ => rfl
theorem Keep.trans {js : List Nat} {e e' e'' : VT} (h : Keep n js e e') (h' : Keep n js e' e'') : Keep n js e e'' := fun j hj => (h' j hj).trans (h j hj)
theorem Keep.put {js : List Nat} {e e' : VT} {i : Nat} {v : Value} (h : Keep n js e e') (hi : i ∉ js) : Keep n js e (e'.put (some i) v) := fun j hj => by
 rw [gt_ne n e' i j v (fun hh => hi (hh ▸ hj))]
 exact h j hj
theorem Keep.none {js : List Nat} {e e' : VT} {v : Value} (h : Keep n js e e') : Keep n js e (e'.put none v) := h
def tv (t : List Int) : List Value := t.map fun n => .int .i64 n
theorem tv_len (t : List Int) : (tv t).length = t.length := List.length_map ..
theorem one_tv : ∀ t : List Int, oneCells (tv t) = true
 | [] => rfl
 | n :: t => one_tv t
theorem gr_tv (t : List Int) : gr (.agg ⟨tv t⟩) = true := by
 show (tv t).all (ground 5) = true
 rw [List.all_eq_true]
 intro v hv
 obtain ⟨n, -, rfl⟩ := List.mem_map.1 hv
 rfl
theorem newC_all {vs c : List Value} (h : vs.length = c.length) : newC 0 vs c = vs := by
 unfold newC
 rw [List.take_zero, List.nil_append, Nat.zero_add, h, List.drop_length, List.append_nil]
theorem newC_tv {t : List Int} {i : Nat} {v : Int} (h : i < t.length) : newC i [.int .i64 v] (tv t) = tv (t.set i v) := by
 unfold newC tv
 rw [← List.map_take, ← List.map_drop, List.map_set]
 simp only [List.length_cons,List.length_nil,Nat.zero_add]
 rw [List.set_eq_take_append_cons_drop, List.length_map, if_pos h, List.map_take, List.map_drop]
 simp
theorem part_tv {t : List Int} {s : Nat} (h : t.length = s) : part (tv t) 0 (s + 1) = some (.agg ⟨tv t⟩) := part_all (by rw [tv_len, h])
theorem midY_gen {l : Nat} {body : Code} {p : Option Code} {tl : List Value} {ps : Array Tmp} {as' bd : Code} {d : Nat} (hg : H.get l = .loop .ready p tl ps as' bd d) (hw : ∀ bz, bz = .loop .busy p tl ps as' bd d → W T P N (some l) body L ⟨n, e, H.put l bz, ds⟩ (endY l Q)) : midY T P N l L body Q .normal ⟨n, e, H, ds⟩ := midY_normal hg (hw _ rfl)
theorem yield_run1 {l p : Nat} {arg : Value} {assign body : Code} {d : Nat} {pe : Option Code} (hg : H.get l = .loop .ready pe (lst n e) #[p] assign body d) (hp : p < n) (hL : L ≤ l)
  (hw : ∀ e', gt n e' p = arg → (∀ j, j ≠ p → gt n e' j = gt n e j) → W T P N (some l) assign L ⟨n, e', H, []⟩ (midY T P N l L body Q)) : resK (ayield (aexec T P N) l [arg] H) L Q := by
 refine yield_run hg rfl hL ?_
 have hlen : (zipSet (lst n e) ((#[p] : Array Nat).toList.zip [arg])).length = n := by
  rw [zipSet_length, lst_length]
 have h1 := gt_round_same (n := n) (e := e) (p := p) (v := arg) hp
 have h2 := fun j (hj : j ≠ p) => gt_round_ne (n := n) (e := e) (p := p) (v := arg) hj
 have hz : zipSet (lst n e) ((#[p] : Array Nat).toList.zip [arg]) = zipSet (lst n e) [(p, arg)] := rfl
 rw [hlen]
 rw [hz] at hlen ⊢
 rw [hlen] at h1
 refine hw _ h1 fun j hj => ?_
 have := h2 j hj
 rwa [hlen] at this
end Go.Am
namespace Go.Am
open Go.Proofs
variable {T : Tab} {P : Program} {N L : Nat} {H : AHeap}
section
variable {ex : Exec} {t : Operand → Option Value} {Q : Bool → Value → AHeap → Prop}
def nilQ (v : Value) (L : Nat) (H : AHeap) (Q : Bool → Value → AHeap → Prop) (_ : Tag Q := .mk) : Prop := match v with
 | .pointer (some a) => L ≤ H.size ∧ Q true (.pointer (some a)) H
 | .func (.func f) first captured => L ≤ H.size ∧ Q true (.func (.func f) first captured) H
 | _ => False
theorem nilQ_ptr {a : Addr} : nilQ (.pointer (some a)) L H Q = andK (L ≤ H.size) (Q true (.pointer (some a)) H) := nr rfl
theorem A_nilCheck {x : Operand} : A T P ex t H L (.nilCheck x) Q = optK (t x) fun v => nilQ v L H Q := by
 unfold A
 show (match still (aNilCheck t H x) with
  | some (b, v, H', m) => L ≤ m ∧ Q b v H'
  | none => False) = _
 unfold aNilCheck
 cases t x with
 | none => rfl
 | some v =>
  cases v with
  | pointer a => cases a <;> rfl
  | func f a b => cases f <;> rfl
  | _ => rfl
def cvS (T : Tab) (src dst : TypeId) : Option IntKind := match T.und src, T.und dst with
 | some _, some (.int k) => some k
 | _, _ => none
def cvV (T : Tab) (P : Program) (H : AHeap) (src dst : TypeId) (v : Value) : Option Value := match aConv T P (fun _ => some v) H src dst (.tmp 0) with
 | some (v, _, _) => some v
 | none => none
theorem cvV_int {src dst : TypeId} {k k' : IntKind} {n : Int} (hs : cvS T src dst = some k) : cvV T P H src dst (.int k' n) = some (.int k (k.wrap n)) := by
 unfold cvS at hs
 unfold cvV aConv
 rw [show allGr (fun _ => some (Value.int k' n)) [.tmp 0] = true by simp [allGr, gr, ground], show aρ (fun _ => some (Value.int k' n)) (.tmp 0) = .int k' n by simp [aρ]]
 simp only [cond_true]
 cases hu : T.und src with
 | none => rw [hu] at hs; cases hs
 | some d =>
  rw [hu] at hs
  cases hv : T.und dst with
  | none => rw [hv] at hs; cases hs
  | some e =>
   rw [hv] at hs
   cases e with
   | int q => cases hs; rfl
   | _ => cases hs
theorem aPureOf_shape {s : Sem Value} {v : Value} {H' : AHeap} {m : Nat} (h : aPureOf P H s = some (v, H', m)) : H' = H ∧ m = H.size := by
 unfold aPureOf at h
 split at h
 ·rename_i u hu
  cases hg : gr u
  ·rw [hg] at h; cases h
  ·rw [hg] at h; cases h; exact ⟨rfl, rfl⟩
 ·cases h
theorem aConv_shape {src dst : TypeId} {x : Operand} {v : Value} {H' : AHeap} {m : Nat} (h : aConv T P t H src dst x = some (v, H', m)) : H' = H ∧ m = H.size := by
 unfold aConv at h
 cases hb : allGr t [x]
 ·rw [hb] at h; cases h
 ·rw [hb] at h
  simp only [cond_true] at h
  split at h
  ·cases h; exact ⟨rfl, rfl⟩
  ·exact aPureOf_shape h
theorem A_conv {src dst : TypeId} {x : Operand} : A T P ex t H L (.convert src dst x) Q = optK (t x) fun v => optK (cvV T P H src dst v) fun v => andK (L ≤ H.size) (Q true v H) := by
 unfold A
 show (match still (aConv T P t H src dst x) with
  | some (b, v, H', m) => L ≤ m ∧ Q b v H'
  | none => False) = _
 cases hx : t x with
 | none =>
  unfold aConv
  rw [show allGr t [x] = false by simp [allGr, hx]]; rfl
 | some v =>
  have e : aConv T P t H src dst x = aConv T P (fun _ => some v) H src dst (.tmp 0) := by
   unfold aConv
   rw [show allGr t [x] = allGr (fun _ => some v) [.tmp 0] by simp [allGr, hx], show aρ t x = aρ (fun _ => some v) (.tmp 0) by simp [aρ, hx]]
  rw [e]
  simp only [optK,cvV]
  cases h : aConv T P (fun _ => some v) H src dst (.tmp 0) with
  | none => rfl
  | some r =>
   obtain ⟨u, H', m⟩ := r
   obtain ⟨rfl, rfl⟩ := aConv_shape h
   rfl
def mmV (P : Program) (H : AHeap) (mx : Bool) (a b : Value) : Option Value := match aMinMax P (fun x => match x with
  | .tmp 0 => some a
  | _ => some b) H mx [.tmp 0, .tmp 1].toArray with
 | some (v, _, _) => some v
 | none => none
theorem mm_min {a b : Int} : mmV P H false (.int .i64 a) (.int .i64 b) = some (.int .i64 (if b < a then b else a)) := nr rfl
theorem mm_max {a b : Int} : mmV P H true (.int .i64 a) (.int .i64 b) = some (.int .i64 (if b > a then b else a)) := nr rfl
theorem aMinMax_gen {mx : Bool} {x y : Operand} : (match still (aMinMax P t H mx [x, y].toArray) with
  | some (b, v, H', m) => L ≤ m ∧ Q b v H'
  | none => False) = optK (t x) fun a => optK (t y) fun b => optK (mmV P H mx a b) fun v => andK (L ≤ H.size) (Q true v H) := by
 cases hx : t x with
 | none =>
  unfold aMinMax
  rw [show allGr t [x, y].toArray.toList = false by simp [allGr, hx]]; rfl
 | some a =>
  cases hy : t y with
  | none =>
   unfold aMinMax
   rw [show allGr t [x, y].toArray.toList = false by simp [allGr, hx, hy]]; rfl
  | some b =>
   have e : aMinMax P t H mx [x, y].toArray = aMinMax P (fun x => match x with
     | .tmp 0 => some a
     | _ => some b) H mx [.tmp 0, .tmp 1].toArray := by
    unfold aMinMax
    simp [allGr, aρ, hx, hy]
   rw [e]
   simp only [optK,mmV]
   cases h : aMinMax P (fun x => match x with
     | .tmp 0 => some a
     | _ => some b) H mx [.tmp 0, .tmp 1].toArray with
   | none => rfl
   | some r =>
    obtain ⟨u, H', m⟩ := r
    have : H' = H ∧ m = H.size := by
     unfold aMinMax at h
     cases hb : allGr (fun x => match x with
      | .tmp 0 => some a
      | _ => some b) [.tmp 0, .tmp 1].toArray.toList
     ·rw [hb] at h; cases h
     ·rw [hb] at h
      exact aPureOf_shape h
    obtain ⟨rfl, rfl⟩ := this
    rfl
theorem A_min {tys : List TypeId} {x y : Operand} : A T P ex t H L (.call ⟨.builtin .min, [x, y].toArray, tys.toArray⟩) Q = optK (t x) fun a => optK (t y) fun b => optK (mmV P H false a b) fun v => andK (L ≤ H.size) (Q true v H) := by
 unfold A
 exact aMinMax_gen (mx := false)
theorem A_max {tys : List TypeId} {x y : Operand} : A T P ex t H L (.call ⟨.builtin .max, [x, y].toArray, tys.toArray⟩) Q = optK (t x) fun a => optK (t y) fun b => optK (mmV P H true a b) fun v => andK (L ≤ H.size) (Q true v H) := by
 unfold A
 exact aMinMax_gen (mx := true)
end
def u64w (n : Int) : Int := IntKind.wrap .u64 n
section
variable {ty : TypeId} {x y : Operand} {a b : Int}
theorem u64_add : binV T P .add ty x y (.int .u64 a) (.int .u64 b) = some (.int .u64 (u64w (a + b))) := nr rfl
theorem u64_mul : binV T P .mul ty x y (.int .u64 a) (.int .u64 b) = some (.int .u64 (u64w (a * b))) := nr rfl
def xorU (a b : Int) : Int := u64w ((BitVec.ofInt 64 a ^^^ BitVec.ofInt 64 b).toNat : Nat)
theorem u64_xor : binV T P .xor ty x y (.int .u64 a) (.int .u64 b) = some (.int .u64 (xorU a b)) := nr rfl
theorem u64_shl6 : binV T P .shl ty x y (.int .u64 a) (.int .u64 6) = some (.int .u64 (u64w (a * 64))) := nr rfl
theorem u64_shr2 : binV T P .shr ty x y (.int .u64 a) (.int .u64 2) = some (.int .u64 (a.fdiv 4)) := nr rfl
theorem u64_shr20 : binV T P .shr ty x y (.int .u64 a) (.int .u64 20) = some (.int .u64 (a.fdiv 1048576)) := nr rfl
theorem rem_of {k : IntKind} (h : b ≠ 0) (hr : ∀ n, gr (Value.int k n) = true) : pureRun P (Op.intDiv .rem k a b) = some (.int k (a.tmod b)) := by
 unfold Op.intDiv
 rw [if_neg h]; rfl
theorem u64_rem (h : b ≠ 0) : binV T P .rem ty x y (.int .u64 a) (.int .u64 b) = some (.int .u64 (a.tmod b)) := by
 show (match (match pureRun P (Op.intDiv .rem .u64 a b) with
  | some v => bif gr v then some v else none
  | none => none) with
  | some v => some v
  | none => _) = _
 rw [rem_of h fun _ => rfl]; rfl
theorem i64_rem (h : b ≠ 0) : binV T P .rem ty x y (.int .i64 a) (.int .i64 b) = some (.int .i64 (a.tmod b)) := by
 show (match (match pureRun P (Op.intDiv .rem .i64 a b) with
  | some v => bif gr v then some v else none
  | none => none) with
  | some v => some v
  | none => _) = _
 rw [rem_of h fun _ => rfl]; rfl
end
theorem u64w_range (n : Int) : 0 ≤ u64w n ∧ u64w n < 18446744073709551616 := by
 have : u64w n = n % 18446744073709551616 := rfl
 omega
theorem u64w_of {n : Int} (h : 0 ≤ n ∧ n < 18446744073709551616) : u64w n = n := by
 have : u64w n = n % 18446744073709551616 := rfl
 omega
end Go.Am
namespace Go.Am
open Go.Proofs
variable {T : Tab} {P : Program} {N L : Nat} {H H' : AHeap} {Q : Bool → Value → AHeap → Prop} {α : Type}
structure Enc (α : Type) where
 f : α → List Value
 z : Nat
 len : ∀ x, (f x).length = z
 one : ∀ x, oneCells (f x) = true
def Enc.fl (E : Enc α) : List α → List Value
 | [] => []
 | x :: l => E.f x ++ E.fl l
variable {E : Enc α} {l l' : List α} {x : α} {i : Nat}
theorem fl_length : ∀ l : List α, (E.fl l).length = l.length * E.z
 | [] => by simp [Enc.fl]
 | x :: l => by rw [Enc.fl, List.length_append, E.len, fl_length l, List.length_cons, Nat.succ_mul, Nat.add_comm]
theorem fl_app : ∀ l l' : List α, E.fl (l ++ l') = E.fl l ++ E.fl l'
 | [], l' => rfl
 | x :: l, l' => by
  show E.f x ++ E.fl (l ++ l') = E.f x ++ E.fl l ++ E.fl l'
  rw [fl_app l l', List.append_assoc]
theorem one_app {a b : List Value} (ha : oneCells a = true) (hb : oneCells b = true) : oneCells (a ++ b) = true := by
 induction a with
 | nil => exact hb
 | cons v a ih =>
  unfold oneCells at ha
  rw [Bool.and_eq_true] at ha
  show (v.oneCell' && oneCells (a ++ b)) = true
  rw [ha.1, ih ha.2]; rfl
theorem one_fl : ∀ l : List α, oneCells (E.fl l) = true
 | [] => rfl
 | x :: l => one_app (E.one x) (one_fl l)
theorem fl_at : ∀ {l : List α} {i : Nat}, l[i]? = some x → ((E.fl l).drop (i * E.z)).take E.z = E.f x
 | [], i, h => by simp at h
 | y :: l, 0, h => by
  simp only [List.getElem?_cons_zero,Option.some.injEq] at h
  subst h
  rw [Nat.zero_mul, List.drop_zero, Enc.fl, ← E.len y, List.take_left]
 | y :: l, i + 1, h => by
  rw [Enc.fl, show (i + 1) * E.z = (E.f y).length + i * E.z by rw [E.len, Nat.succ_mul, Nat.add_comm], List.drop_length_add_append]
  exact fl_at (by simpa using h)
theorem newC_fl {k : Nat} {s : α} (h : k < l.length) : newC (k * E.z) (E.f s) (E.fl l) = E.fl (l.set k s) := by
 obtain ⟨r, hr⟩ : ∃ r, l[k] = r := ⟨_, rfl⟩
 have e : l = l.take k ++ (r :: l.drop (k + 1)) := by
  rw [← hr, List.getElem_cons_drop, List.take_append_drop]
 have hk : (E.fl (l.take k)).length = k * E.z := by rw [fl_length, List.length_take]; congr 1; omega
 have e2 : E.fl l = E.fl (l.take k) ++ (E.f r ++ E.fl (l.drop (k + 1))) := by
  conv => lhs; rw [e]
  rw [fl_app]; rfl
 have e3 : E.fl (l.set k s) = E.fl (l.take k) ++ (E.f s ++ E.fl (l.drop (k + 1))) := by
  rw [List.set_eq_take_append_cons_drop, if_pos h, fl_app]; rfl
 have hz : k * E.z = (E.fl (l.take k)).length + 0 := by omega
 rw [e2, e3, hz, newC_app, newC_pre (by rw [E.len, E.len]; omega), newC_all (by rw [E.len, E.len])]
structure Rw (E : Enc α) (H : AHeap) (a : Option Addr) (l : List α) : Prop where
 get : l ≠ [] → ∃ b o c, a = some ⟨b, o, none⟩ ∧ b < H.size ∧ cellsOf (H.get b) = some c ∧ (c.drop o).take (l.length * E.z) = E.fl l
theorem Rw.nil {a : Option Addr} : Rw E H a [] := ⟨fun h => absurd rfl h⟩
theorem Rw.fr {a : Option Addr} (h : Rw E H a l) (f : Fr H H') : Rw E H' a l := ⟨fun hl => by
 obtain ⟨b, o, c, h1, h2, h3, h4⟩ := h.get hl
 exact ⟨b, o, c, h1, Nat.lt_of_lt_of_le h2 f.size, by rw [f.same b h2]; exact h3, h4⟩⟩
theorem Rw.src {b o : Nat} {s : Option Nat} (h : Rw E H (some ⟨b, o, s⟩) l) (hl : l ≠ []) : srcCells H ⟨b, o, s⟩ (l.length * E.z) = some (E.fl l) := by
 obtain ⟨b', o', c', h1, h2, h3, h4⟩ := h.get hl
 cases h1
 unfold srcCells
 rw [h3]
 simp only [h4,fl_length,show Nat.beq (l.length * E.z) (l.length * E.z) = true by simp,cond_true]
theorem drop_take_at {c : List Value} {o n z i : Nat} (hi : i + z ≤ n) : (((c.drop o).take n).drop i).take z = (c.drop (o + i)).take z := by
 rw [List.drop_take, List.take_take, List.drop_drop, Nat.min_eq_left (by omega)]
theorem Rw.at_ {a : Option Addr} (h : Rw E H a l) (hi : l[i]? = some x) : ∃ b o c, a = some ⟨b, o, none⟩ ∧ b < H.size ∧ cellsOf (H.get b) = some c ∧ (c.drop (o + i * E.z)).take E.z = E.f x := by
 have hlt := (List.getElem?_eq_some_iff.1 hi).1
 obtain ⟨b, o, c, h1, h2, h3, h4⟩ := h.get (fun h0 => by rw [h0] at hlt; simp at hlt)
 refine ⟨b, o, c, h1, h2, h3, ?_⟩
 have h5 : i * E.z + E.z ≤ l.length * E.z := by
  rw [← Nat.succ_mul]
  exact Nat.mul_le_mul_right _ hlt
 rw [← drop_take_at (n := l.length * E.z) h5, h4]
 exact fl_at hi
theorem Rw.of {b : Nat} {c r : List Value} (hb : b < H.size) (h : cellsOf (H.get b) = some c) (hc : c = E.fl l ++ r) : Rw E H (some ⟨b, 0, none⟩) l := ⟨fun _ => ⟨b, 0, c, rfl, hb, h, by
 rw [List.drop_zero, hc, ← fl_length, List.take_left]⟩⟩
theorem Grow.rw {tb c el : Nat} {a : Option Addr} (g : Grow H tb (.slice a l.length c) l.length (E.fl l) el E.z) : Rw E H a l := ⟨fun hne => by
 obtain ⟨b, al, h1, h2, h3, h4, h5⟩ := g.cons (by simpa using hne)
 cases h1
 exact (Rw.of (r := []) h3 (by rw [h4]; rfl) (by rw [List.append_nil])).get hne⟩
theorem part_of {c L : List Value} {k s : Nat} (h : (c.drop k).take s = L) (hl : L.length = s) : part c k (s + 1) = some (.agg ⟨L⟩) := by
 unfold part
 simp only [h,hl,show Nat.beq s s = true by simp,cond_true]
theorem cell_of {c : List Value} {k : Nat} {v : Value} (h : (c.drop k).take 1 = [v]) : c[k]? = some v := by
 have : ((c.drop k).take 1)[0]? = some v := by rw [h]; rfl
 rw [List.getElem?_take, if_pos (by omega), List.getElem?_drop, Nat.add_zero] at this
 exact this
def intE : Enc Int := ⟨fun n => [.int .i64 n], 1, fun _ => rfl, fun _ => rfl⟩
end Go.Am
namespace Go.Am
open Go.Proofs
variable {T : Tab} {P : Program} {N L : Nat} {H : AHeap} {Q : Bool → Value → AHeap → Prop}
structure Pk where
 s : Int
 w : Int
 o : Int
 f : Int
def Pk.enc (p : Pk) : List Value := [.int .i64 p.s, .int .i64 p.w, .int .i64 p.o, .int .i64 p.f]
def pkE : Enc Pk := ⟨Pk.enc, 4, fun _ => rfl, fun _ => rfl⟩
structure Gd where
 fo : Int
 pr : Int
def Gd.enc (g : Gd) : List Value := [.int .i64 g.fo, .int .i64 g.pr]
def gdE : Enc Gd := ⟨Gd.enc, 2, fun _ => rfl, fun _ => rfl⟩
structure Pk.Ok (p : Pk) : Prop where
 s : 0 ≤ p.s ∧ p.s ≤ 6
 w : 0 ≤ p.w ∧ p.w ≤ p.s
 o : 0 ≤ p.o ∧ p.o ≤ p.s
 f : 0 ≤ p.f ∧ p.f ≤ p.o
def Pk.hi (p : Pk) : Int := if p.s - p.o + p.f < p.w then p.s - p.o + p.f else p.w
def Pk.il (p : Pk) (n : Int) : Int := if 0 > p.f - (p.s - n) then 0 else p.f - (p.s - n)
def Pk.ih (p : Pk) (n : Int) : Int := if n < p.hi then n else p.hi
theorem c66 {p : Pk} (h : p.Ok) : acall tabA (aexec tabA Try.prog (N + 40)) 66 [.agg ⟨p.enc⟩] H = some (true, .agg ⟨[.int .i64 p.f, .int .i64 p.hi]⟩, H, H.size) := by
 refine call_quiet (k := 17) (rs := [.cell 2 38]) rfl fn_66 rfl rfl rfl ?_ rfl
 obtain ⟨h1, h2, h3, h4⟩ := h
 have w1 : w64 (p.s - p.o) = p.s - p.o := w64_of (by omega)
 have w2 : w64 (p.s - p.o + p.f) = p.s - p.o + p.f := w64_of (by omega)
 have hh : (if p.s - p.o + p.f < p.w then p.s - p.o + p.f else p.w) = p.hi := rfl
 simp (disch:=first|(simp only [yk,seval];done)|omega|(simp only [yz]<;>omega)|fail) only [↓yp,yA,ys0,ys1,seval,fitB,newC,endD,endR,Pk.enc,A_min,mm_min,w1,w2,hh,A_build st_bdS_38]
theorem c94 {p : Pk} {n : Int} (h : p.Ok) (hn : 0 ≤ n ∧ n ≤ 6) : acall tabA (aexec tabA Try.prog (N + 80)) 94 [.agg ⟨p.enc⟩, .int .i64 n] H = some (true, .agg ⟨[.int .i64 (p.il n), .int .i64 (p.ih n)]⟩, H, H.size) := by
 refine call_quiet (k := 23) (rs := [.cell 4 38]) rfl fn_94 rfl rfl rfl ?_ rfl
 have h66 := fun (N : Nat) (H : AHeap) => c66 (N := N) (H := H) h
 obtain ⟨h1, h2, h3, h4⟩ := h
 have w1 : w64 (p.s - n) = p.s - n := w64_of (by omega)
 have w2 : w64 (p.f - (p.s - n)) = p.f - (p.s - n) := w64_of (by omega)
 have hl : (if 0 > p.f - (p.s - n) then 0 else p.f - (p.s - n)) = p.il n := rfl
 have hh : (if n < p.hi then n else p.hi) = p.ih n := rfl
 simp only [Pk.enc] at h66
 simp (disch:=first|(simp only [yk,seval];done)|omega|(simp only [yz]<;>omega)|fail) only [↓yp,yA,ys0,ys1,seval,fitB,newC,endD,endR,Pk.enc]
 refine W_draw [6, 7] rfl (by kernel_rfl) (by kernel_rfl) (by first|omega|(simp only [yz]<;>omega)) ?_
 simp (disch:=first|(simp only [yk,seval];done)|omega|(simp only [yz]<;>omega)|fail) only [↓yp,yA,ys0,ys1,seval,fitB,newC,endD,endR,h66,w1]
 simp (disch:=first|(simp only [yk,seval];done)|omega|(simp only [yz]<;>omega)|fail) only [↓yp,yA,ys0,ys1,seval,fitB,newC,endD,endR,A_min,A_max,mm_min,mm_max,w2,hl,hh,A_build st_bdS_38]
theorem c130 {a b : Int} : acall tabA (aexec tabA Try.prog (N + 20)) 130 [.agg ⟨[.int .i64 a, .int .i64 b]⟩] H = some (true, .int .i64 a, H, H.size) := by
 refine call_quiet (k := 5) (rs := [.tmp 2]) rfl fn_130 rfl rfl rfl ?_ rfl
 simp (disch:=first|(simp only [yk,seval];done)|omega|(simp only [yz]<;>omega)|fail) only [↓yp,yA,ys0,ys1,seval,fitB,newC,endD,endR]
theorem c115 {a b : Int} : acall tabA (aexec tabA Try.prog (N + 20)) 115 [.agg ⟨[.int .i64 a, .int .i64 b]⟩] H = some (true, .int .i64 b, H, H.size) := by
 refine call_quiet (k := 5) (rs := [.tmp 2]) rfl fn_115 rfl rfl rfl ?_ rfl
 simp (disch:=first|(simp only [yk,seval];done)|omega|(simp only [yz]<;>omega)|fail) only [↓yp,yA,ys0,ys1,seval,fitB,newC,endD,endR]
end Go.Am
