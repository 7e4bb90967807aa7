/- The machine by recursors. -/
import Derived.Test.YtnibabkgeolenaaT9
set_option linter.unusedSimpArgs false
set_option linter.unusedVariables false
namespace Go.Am
variable {α β γ : Type} {T : Tab} {P : Program} {H : AHeap} {g : Nat → Option Value}

noncomputable def gE (n : Nat) (e : VT) (i : Nat) : Option Value := some (tmpF n e i)
theorem envG_gE (n : Nat) (e : VT) : envG (gE n e) = aenv n e := by
  funext x
  cases x with
  | tmp i => show some (tmpF n e i) = _; rw [tmpF_eq]; rfl
  | _ => rfl
noncomputable def gM (l : List Nat) (n : Nat) (e : VT) (i : Nat) : Option Value := Bool.rec (motive := fun _ => Option Value) none (some (tmpF n e i)) (memNatF i l)
theorem envG_gM (l : List Nat) (n : Nat) (e : VT) : envG (gM l n e) = maskE l n e := by
  funext x
  cases x with
  | tmp i =>
    show Bool.rec (motive := fun _ => Option Value) none (some (tmpF n e i)) (memNatF i l) = _
    rw [boolRec_eq, memNatF_eq, tmpF_eq]; rfl
  | _ => rfl

/-! ### Guards -/
noncomputable def truthF (v : Value) (w : Bool) (yes no : α) : α := Value.rec (motive_1 := fun _ => α) (motive_2 := fun _ => PUnit.{1}) (motive_3 := fun _ => PUnit.{1}) (fun b => Bool.rec (motive := fun _ => α) (Bool.rec (motive := fun _ => α) yes no b) (Bool.rec (motive := fun _ => α) no yes b) w) (fun _ _ => no) (fun _ _ => no) (fun _ _ _ => no) (fun _ => no) (fun _ => no) (fun _ _ _ => no) (fun _ => no) (fun _ => no) (fun _ _ _ _ _ => no) no (fun _ _ _ => no) no (fun _ _ => no) (fun _ _ => no) (fun _ _ => PUnit.unit) PUnit.unit (fun _ _ _ _ => PUnit.unit) v
noncomputable def guardF (L : List Oper) (n : Nat) (e : VT) (gd : Option (Nat × Bool)) (yes no : α) : α := Option.rec (motive := fun _ => α) yes (fun p => Prod.rec (motive := fun _ => α) (fun j w =>
  Option.rec (motive := fun _ => α) no (fun d => Bool.rec (motive := fun _ => α) no (truthF (e.getF d) w yes no) (Nat.ble (Nat.succ d) n)) (dstF L j)) p) gd
theorem guardF_eq (ops : Array Oper) (n : Nat) (e : VT) (o : Oper) (yes no : α) : guardF ops.toList n e o.guard yes no = bif wantE ops n e o then yes else no := by
  unfold guardF wantE
  cases hg : o.guard with
  | none => rfl
  | some p =>
    obtain ⟨j, w⟩ := p
    simp only [Region.wanted,hg,ayieldE]
    rw [dstF_arr]
    cases (ops[j]?).bind (·.dst) with
    | none => rfl
    | some d =>
      simp only [boolRec_eq]
      rw [VT.getF_eq]
      have : Nat.ble (Nat.succ d) n = Nat.blt d n := rfl
      rw [this]
      cases Nat.blt d n
      · rfl
      · simp only [cond_true]
        cases e.get d with
        | bool b => cases b <;> cases w <;> rfl
        | _ => rfl

/-! ### Regions in the order of the text -/
noncomputable def outF (o : Option Tmp) (e : VT) (v : Value) (k : VT → α) : α := Option.rec (motive := fun _ => α) (k e) (fun d => fullF v fun v => VT.setF e d v k) o
@[simp] theorem outF_eq (o : Option Tmp) (e : VT) (v : Value) (k : VT → α) : outF o e v k = k (e.put o v) := by
  cases o with
  | none => rfl
  | some d =>
    show fullF v (fun v => VT.setF e d v k) = _
    rw [fullF_eq, VT.setF_eq]; rfl
noncomputable def blankF (o : Option Tmp) (e : VT) (k : VT → α) : α := Option.rec (motive := fun _ => α) (k e) (fun d => VT.setF e d undef k) o
@[simp] theorem blankF_eq (o : Option Tmp) (e : VT) (k : VT → α) : blankF o e k = k (e.put o undef) := by
  cases o with
  | none => rfl
  | some d => exact VT.setF_eq _ _ _ _
def minO (M : Option Nat) (m : Nat) : Nat := match M with
  | none => m
  | some k => min k m
noncomputable def minOF (M : Option Nat) (m : Nat) (k : Nat → α) : α := Option.rec (motive := fun _ => α) (k m) (fun M => minF M m k) M
@[simp] theorem minOF_eq (M : Option Nat) (m : Nat) (k : Nat → α) : minOF M m k = k (minO M m) := by
  cases M with
  | none => rfl
  | some M => exact minF_eq M m k
theorem minO_min (M : Option Nat) (a b : Nat) : minO (some (minO M a)) b = minO M (min a b) := by
  cases M with
  | none => rfl
  | some M => simp only [minO]; omega
abbrev RR := Option (VT × AHeap × Nat)
noncomputable def aopsF (T : Tab) (P : Program) (ex : Exec) (L : List Oper) (n : Nat) (l : List Oper) : VT → AHeap → Option Nat → RR := List.rec (motive := fun _ => VT → AHeap → Option Nat → RR)
  (fun e H M => minOF M H.size fun m => some (e, H, m))
  (fun o _ ih e H M => guardF L n e o.guard
    (opF T P ex (gE n e) H (fun _ v H₁ m₁ => minOF M m₁ fun m => outF o.dst e v fun e => ih e H₁ (some m)) o.op)
    (blankF o.dst e fun e => ih e H M)) l
theorem aopsF_eq (ex : Exec) (ops : Array Oper) (n : Nat) (ds : List Nat) : ∀ (l : List Oper) (e : VT) (H : AHeap) (M : Option Nat), aopsF T P ex ops.toList n l e H M = match aops T P ex ops n ds l e H with
    | some (e', H', m) => some (e', H', minO M m)
    | none => none
  | [], e, H, M => by
    show minOF M H.size (fun m => some (e, H, m)) = _
    rw [minOF_eq]; rfl
  | o :: l, e, H, M => by
    have h : aopsF T P ex ops.toList n (o :: l) e H M = guardF ops.toList n e o.guard
      (opF T P ex (gE n e) H (fun _ v H₁ m₁ => minOF M m₁ fun m => outF o.dst e v fun e => aopsF T P ex ops.toList n l e H₁ (some m)) o.op)
      (blankF o.dst e fun e => aopsF T P ex ops.toList n l e H M) := rfl
    rw [h, guardF_eq, opF_eq, envG_gE]
    simp only [aops]
    cases wantE ops n e o
    · simp only [cond_false,blankF_eq,VT.putK_eq]
      exact aopsF_eq ex ops n ds l _ H M
    · simp only [cond_true]
      cases aopAny T P ex (aenv n e) H o.op with
      | none => rfl
      | some r =>
        obtain ⟨b, v, H₁, m₁⟩ := r
        simp only [bnd_some,minOF_eq,outF_eq,fH_eq,fNat_eq,VT.putK_eq]
        rw [aopsF_eq ex ops n ds l _ H₁ _]
        cases aops T P ex ops n ds l (e.put o.dst v) H₁ with
        | none => rfl
        | some r =>
          obtain ⟨e', H', m₂⟩ := r
          simp only [minO_min]

/-! ### Regions that draw -/
abbrev DR := Option (List Fl × List Nat × List AHeap × VT × Nat)
noncomputable def stillF (f : Fl) (r : DR) : DR := optF r fun p => Prod.rec (motive := fun _ => DR) (fun fl p => some (f :: fl, p)) p
noncomputable def movedF (i : Nat) (H : AHeap) (m₁ : Nat) (r : DR) : DR := optF r fun p => Prod.rec (motive := fun _ => DR) (fun fl p => Prod.rec (motive := fun _ => DR) (fun hs p => Prod.rec (motive := fun _ => DR) (fun Gs p => Prod.rec (motive := fun _ => DR) (fun ef m =>
  minF m₁ m fun m => some (fl, i :: hs, H :: Gs, ef, m)) p) p) p) p
noncomputable def dpassF (T : Tab) (P : Program) (ex : Exec) (L : List Oper) (n : Nat) (l : List Oper) : Nat → Nat → VT → AHeap → DR := List.rec (motive := fun _ => Nat → Nat → VT → AHeap → DR)
  (fun _ _ e H => some ([], [], [H], e, H.size))
  (fun o _ ih i q e H => guardF L n e o.guard
    (opF T P ex (gM (tmpsOf o.op.operands.toList) n e) H (fun b v H₁ m₁ => fullF v fun v => Bool.rec (motive := fun _ => DR)
      (outF o.dst e v fun e' => natF (Nat.succ i) fun i' => natF (Nat.succ q) fun q => movedF i H m₁ (ih i' q e' H₁))
      (outF o.dst e v fun e' => natF (Nat.succ i) fun i' => stillF ⟨i, q, tmpsOf o.op.operands.toList, e, o, v⟩ (ih i' q e' H)) b) o.op)
    (blankF o.dst e fun e => natF (Nat.succ i) fun i' => ih i' q e H)) l
theorem dpassF_eq (ex : Exec) (ops : Array Oper) (n : Nat) : ∀ (l : List Oper) (i q : Nat) (e : VT) (H : AHeap), dpassF T P ex ops.toList n l i q e H = dpass T P ex ops n l i q e H
  | [], _, _, _, _ => rfl
  | o :: l, i, q, e, H => by
    have h : dpassF T P ex ops.toList n (o :: l) i q e H = guardF ops.toList n e o.guard
      (opF T P ex (gM (tmpsOf o.op.operands.toList) n e) H (fun b v H₁ m₁ => fullF v fun v => Bool.rec (motive := fun _ => DR)
        (outF o.dst e v fun e' => natF (Nat.succ i) fun i' => natF (Nat.succ q) fun q => movedF i H m₁ (dpassF T P ex ops.toList n l i' q e' H₁))
        (outF o.dst e v fun e' => natF (Nat.succ i) fun i' => stillF ⟨i, q, tmpsOf o.op.operands.toList, e, o, v⟩ (dpassF T P ex ops.toList n l i' q e' H)) b) o.op)
      (blankF o.dst e fun e => natF (Nat.succ i) fun i' => dpassF T P ex ops.toList n l i' q e H) := rfl
    rw [h, guardF_eq, opF_eq, envG_gM]
    have fn : ∀ {α : Type} (l : List Nat) (k : List Nat → α), fNats l k = k l := fun l k => fList_eq fNat_eq l k
    simp only [dpass,fn]
    cases wantE ops n e o
    · simp only [cond_false,blankF_eq,VT.putK_eq,natF_eq]
      exact dpassF_eq ex ops n l _ _ _ _
    · simp only [cond_true]
      cases aopAny T P ex (maskE (tmpsOf o.op.operands.toList) n e) H o.op with
      | none => rfl
      | some r =>
        obtain ⟨b, v, H₁, m₁⟩ := r
        cases b
        · simp only [bnd_some,fullF_eq,outF_eq,natF_eq,fH_eq,fNat_eq,VT.putK_eq]
          rw [dpassF_eq ex ops n l _ _ _ _]
          show movedF i H m₁ (dpass T P ex ops n l (i + 1) (q + 1) (e.put o.dst v) H₁) = _
          cases dpass T P ex ops n l (i + 1) (q + 1) (e.put o.dst v) H₁ with
          | none => rfl
          | some r =>
            obtain ⟨fl, hs, Gs, ef, m⟩ := r
            show minF m₁ m (fun m => some (fl, i :: hs, H :: Gs, ef, m)) = _
            rw [minF_eq]
        · simp only [bnd_some,fullF_eq,outF_eq,natF_eq,fV_eq,VT.putK_eq]
          rw [dpassF_eq ex ops n l _ _ _ _]
          show stillF _ (dpass T P ex ops n l (i + 1) q (e.put o.dst v) H) = _
          cases dpass T P ex ops n l (i + 1) q (e.put o.dst v) H with
          | none => rfl
          | some r =>
            obtain ⟨fl, hs, Gs, ef, m⟩ := r
            rfl
noncomputable def blockedF (M w i q : Nat) (hs : List Nat) : Nat → Bool := List.rec (motive := fun _ => Nat → Bool) (fun _ => false)
  (fun p _ ih j => Bool.rec (motive := fun _ => Bool) (Bool.rec (motive := fun _ => Bool) (ih (Nat.succ j)) (Bool.rec (motive := fun _ => Bool) (ih (Nat.succ j)) true (Nat.ble (Nat.succ j) q)) (befF M w p i)) (Bool.rec (motive := fun _ => Bool)
    (Bool.rec (motive := fun _ => Bool) (ih (Nat.succ j)) (Bool.rec (motive := fun _ => Bool) (ih (Nat.succ j)) true (Nat.ble (Nat.succ j) q)) (befF M w p i)) true (Nat.ble q j)) (befF M w i p)) hs
theorem blockedF_eq (M w i q : Nat) : ∀ hs j, blockedF M w i q hs j = blocked (befM M w) i q hs j
  | [], _ => rfl
  | p :: hs, j => by
    have h : blockedF M w i q (p :: hs) j = Bool.rec (motive := fun _ => Bool) (Bool.rec (motive := fun _ => Bool) (blockedF M w i q hs (j + 1)) (Bool.rec (motive := fun _ => Bool) (blockedF M w i q hs (j + 1)) true (Nat.blt j q)) (befF M w p i)) (Bool.rec (motive := fun _ => Bool)
      (Bool.rec (motive := fun _ => Bool) (blockedF M w i q hs (j + 1)) (Bool.rec (motive := fun _ => Bool) (blockedF M w i q hs (j + 1)) true (Nat.blt j q)) (befF M w p i)) true (Nat.ble q j)) (befF M w i p) := rfl
    rw [h, blockedF_eq M w i q hs, blocked]
    simp only [boolRec_eq,befF_eq]
    cases befM M w p i <;> cases befM M w i p <;> cases Nat.ble q j <;> cases Nat.blt j q <;> cases blocked (befM M w) i q hs (j + 1) <;> rfl
noncomputable def sameF (a b : Value) : Bool := Value.rec (motive_1 := fun _ => Bool) (motive_2 := fun _ => PUnit.{1}) (motive_3 := fun _ => PUnit.{1}) (fun _ => sameV 6 a b) (fun q n => Value.rec (motive_1 := fun _ => Bool) (motive_2 := fun _ => PUnit.{1}) (motive_3 := fun _ => PUnit.{1}) (fun _ => false) (fun q' m => Bool.rec (motive := fun _ => Bool) false (decide (q = q')) (eqI n m)) (fun _ _ => false) (fun _ _ _ => false) (fun _ => false) (fun _ => false) (fun _ _ _ => false) (fun _ => false) (fun _ => false) (fun _ _ _ _ _ => false) false (fun _ _ _ => false) false (fun _ _ => false) (fun _ _ => false) (fun _ _ => PUnit.unit) PUnit.unit (fun _ _ _ _ => PUnit.unit) b) (fun _ _ => sameV 6 a b) (fun _ _ _ => sameV 6 a b) (fun _ => sameV 6 a b) (fun _ => sameV 6 a b) (fun _ _ _ => sameV 6 a b) (fun _ => sameV 6 a b) (fun _ => sameV 6 a b) (fun _ _ _ _ _ => sameV 6 a b) (sameV 6 a b) (fun _ _ _ => sameV 6 a b) (sameV 6 a b) (fun _ _ => sameV 6 a b) (fun _ _ => sameV 6 a b) (fun _ _ => PUnit.unit) PUnit.unit (fun _ _ _ _ => PUnit.unit) a
theorem sameF_eq (a b : Value) : sameF a b = sameV 6 a b := by
  cases a with
  | int q n =>
    cases b with
    | int q' m =>
      show Bool.rec (motive := fun _ => Bool) false (decide (q = q')) (eqI n m) = _
      rw [boolRec_eq, eqI_eq]
      show _ = (decide (q = q') && decide (n = m))
      cases decide (q = q') <;> cases decide (n = m) <;> rfl
    | _ => rfl
  | _ => rfl
noncomputable def againF (T : Tab) (P : Program) (ex : Exec) (n : Nat) (f : Fl) (G : AHeap) (k : Option γ) : Option γ := Fl.rec (motive := fun _ => Option γ) (fun _ _ tl e o v =>
  opF T P ex (gM tl n e) G (fun b v' _ _ => Bool.rec (motive := fun _ => Option γ) none (ifF (sameF v v') k) b) o.op) f
theorem againF_eq (ex : Exec) (n : Nat) (f : Fl) (G : AHeap) (k : Option γ) : againF T P ex n f G k = bif again T P ex n f G then k else none := by
  obtain ⟨i, q, tl, e, o, v⟩ := f
  show opF T P ex (gM tl n e) G (fun b v' _ _ => Bool.rec (motive := fun _ => Option γ) none (ifF (sameF v v') k) b) o.op = _
  rw [opF_eq, envG_gM]
  unfold again
  simp only
  cases aopAny T P ex (maskE tl n e) G o.op with
  | none => rfl
  | some r =>
    obtain ⟨b, v', H', m⟩ := r
    cases b
    · rfl
    · simp only [bnd_some,ifF_eq,sameF_eq]
noncomputable def stagesF (T : Tab) (P : Program) (ex : Exec) (n M w : Nat) (hs : List Nat) (f : Fl) (Gs : List AHeap) : Nat → Option γ → Option γ := List.rec (motive := fun _ => Nat → Option γ → Option γ) (fun _ k => k)
  (fun G _ ih q k => Bool.rec (motive := fun _ => Option γ) (Bool.rec (motive := fun _ => Option γ) (againF T P ex n f G (ih (Nat.succ q) k)) (ih (Nat.succ q) k) (blockedF M w f.i q hs 0)) (ih (Nat.succ q) k) (Nat.beq q f.q)) Gs
theorem stagesF_eq (ex : Exec) (n M w : Nat) (hs : List Nat) (f : Fl) : ∀ (Gs : List AHeap) (q : Nat) (k : Option γ), stagesF T P ex n M w hs f Gs q k = bif stagesOk T P ex n (befM M w) hs f Gs q then k else none
  | [], _, _ => rfl
  | G :: Gs, q, k => by
    have h : stagesF T P ex n M w hs f (G :: Gs) q k = Bool.rec (motive := fun _ => Option γ) (Bool.rec (motive := fun _ => Option γ) (againF T P ex n f G (stagesF T P ex n M w hs f Gs (q + 1) k)) (stagesF T P ex n M w hs f Gs (q + 1) k) (blockedF M w f.i q hs 0)) (stagesF T P ex n M w hs f Gs (q + 1) k) (Nat.beq q f.q) := rfl
    rw [h, boolRec_eq, boolRec_eq, againF_eq, blockedF_eq, stagesF_eq ex n M w hs f Gs, stagesOk]
    cases Nat.beq q f.q <;> cases blocked (befM M w) f.i q hs 0 <;> cases again T P ex n f G <;> rfl
noncomputable def allFlF (T : Tab) (P : Program) (ex : Exec) (n M w : Nat) (hs : List Nat) (Gs : List AHeap) (fl : List Fl) (k : Option γ) : Option γ := List.rec (motive := fun _ => Option γ) k (fun f _ ih => stagesF T P ex n M w hs f Gs 0 ih) fl
theorem allFlF_eq (ex : Exec) (n M w : Nat) (hs : List Nat) (Gs : List AHeap) (k : Option γ) : ∀ fl, allFlF T P ex n M w hs Gs fl k = bif allFl (fun f => stagesOk T P ex n (befM M w) hs f Gs 0) fl then k else none
  | [] => rfl
  | f :: fl => by
    have h : allFlF T P ex n M w hs Gs (f :: fl) k = stagesF T P ex n M w hs f Gs 0 (allFlF T P ex n M w hs Gs fl k) := rfl
    rw [h, stagesF_eq, allFlF_eq ex n M w hs Gs k fl, allFl]
    cases stagesOk T P ex n (befM M w) hs f Gs 0 <;> rfl
noncomputable def afterF (T : Tab) (P : Program) (ex : Exec) (n M w : Nat) (hs : List Nat) (Gs : List AHeap) (fl : List Fl) (k : Option γ) : Option γ := List.rec (motive := fun _ => Option γ) k (fun p r _ => ifF (chain (befM M w) (p :: r)) (allFlF T P ex n M w (p :: r) Gs fl k)) hs
theorem afterF_eq (ex : Exec) (n M w : Nat) (hs : List Nat) (Gs : List AHeap) (fl : List Fl) (k : Option γ) : afterF T P ex n M w hs Gs fl k = bif after T P ex n (befM M w) hs Gs fl then k else none := by
  cases hs with
  | nil => rfl
  | cons p r =>
    show ifF (chain (befM M w) (p :: r)) (allFlF T P ex n M w (p :: r) Gs fl k) = _
    rw [ifF_eq, allFlF_eq]
    simp only [after]
    cases chain (befM M w) (p :: r) <;> rfl
noncomputable def matS (L : List Oper) : Nat := matF (lenF L) L 0 0
/-- All that is asked before a region runs, in one closed term. -/
noncomputable def statS (ops : Array Oper) : Bool := rstatF ops (matS ops.toList) (lenF ops.toList)
noncomputable def adrawF (T : Tab) (P : Program) (ex : Exec) (ops : Array Oper) (n : Nat) (e : VT) (H : AHeap) : RR :=
  ifF (statS ops) (optF (dpassF T P ex ops.toList n ops.toList 0 0 e H) fun p => Prod.rec (motive := fun _ => RR) (fun fl p => Prod.rec (motive := fun _ => RR) (fun hs p => Prod.rec (motive := fun _ => RR) (fun Gs p => Prod.rec (motive := fun _ => RR) (fun ef m =>
    afterF T P ex n (matS ops.toList) (lenF ops.toList) hs Gs fl (minF m H.size fun m => nthF Gs (lenF hs) fun H' => some (ef, H', m))) p) p) p) p)
theorem adrawF_eq (ex : Exec) (ops : Array Oper) (n : Nat) (e : VT) (H : AHeap) : adrawF T P ex ops n e H = adraw T P ex ops n e H := by
  unfold adrawF adraw statS matS
  rw [ifF_eq, rstatF_eq, optF_eq, dpassF_eq]
  simp only [fNat_eq,matF_eq,lenF_eq]
  cases rstat ops (befM (matOf ops.toList.length ops.toList 0 0) ops.toList.length)
  · rfl
  · simp only [cond_true]
    cases hd : dpass T P ex ops n ops.toList 0 0 e H with
    | none => rfl
    | some r =>
      obtain ⟨fl, hs, Gs, ef, m⟩ := r
      simp only [bnv_some,afterF_eq,minF_eq,nthF_eq,fH_eq]
      obtain ⟨_, _, sh3⟩ := dpass_shape hd
      have hlt : hs.length < Gs.length := by omega
      have hget : Gs[hs.length]? = some Gs[hs.length] := List.getElem?_eq_getElem hlt
      have hgd : Gs.getD hs.length H = Gs[hs.length] := by rw [List.getD_eq_getElem?_getD, hget]; rfl
      rw [hget, hgd]
      rfl

/-! ### Code -/
abbrev EX := Option (Exit × ES × Nat)
noncomputable def seqF (q : EX) (k : ES → EX) : EX := optF q fun p => Prod.rec (motive := fun _ => EX) (fun x p => Prod.rec (motive := fun _ => EX) (fun s m => Exit.rec (motive := fun _ => EX) (optF (k s) fun p => Prod.rec (motive := fun _ => EX) (fun x p => Prod.rec (motive := fun _ => EX) (fun s m₂ => minF m m₂ fun m => some (x, s, m)) p) p) (fun i => some (.exit i, s, m)) (fun i => some (.goto i, s, m)) (some (.ret, s, m)) (fun c => some (.panic c, s, m)) (some (.outgrown, s, m)) x) p) p
theorem seqF_eq (q : EX) (k : ES → EX) : seqF q k = aseq q k := by
  cases q with
  | none => rfl
  | some p =>
    obtain ⟨x, s, m⟩ := p
    cases x with
    | normal =>
      show optF (k s) (fun p => Prod.rec (motive := fun _ => EX) (fun x p => Prod.rec (motive := fun _ => EX) (fun s m₂ => minF m m₂ fun m => some (x, s, m)) p) p) = _
      rw [optF_eq]
      simp only [aseq,isNormal,cond_true]
      cases k s with
      | none => rfl
      | some p =>
        obtain ⟨x, s, m₂⟩ := p
        simp only [bnv_some,minF_eq,fNat_eq]
    | _ => rfl
noncomputable def blockF (id : Nat) (q : EX) : EX := optF q fun p => Prod.rec (motive := fun _ => EX) (fun x p => Exit.rec (motive := fun _ => EX) (some (.normal, p)) (fun i => Bool.rec (motive := fun _ => EX) (some (.exit i, p)) (some (.normal, p)) (Nat.beq i id)) (fun i => some (.goto i, p)) (some (.ret, p)) (fun c => some (.panic c, p)) (some (.outgrown, p)) x) p
theorem blockF_eq (id : Nat) (q : EX) : blockF id q = match q with
    | some (e, s', m) => some (blockExit id e, s', m)
    | none => none := by
  cases q with
  | none => rfl
  | some p =>
    obtain ⟨x, s, m⟩ := p
    cases x with
    | exit i =>
      show Bool.rec (motive := fun _ => EX) (some (.exit i, s, m)) (some (.normal, s, m)) (Nat.beq i id) = _
      rw [boolRec_eq, beq_iff]
      simp only [blockExit]
      by_cases h : i = id
      · simp [h]
      · simp [h]
    | _ => rfl
noncomputable def scopeF (q : EX) : EX := optF q fun p => Prod.rec (motive := fun _ => EX) (fun x p => Exit.rec (motive := fun _ => EX) (some (.normal, p)) (fun i => some (.exit i, p)) (fun _ => none) (some (.ret, p)) (fun c => some (.panic c, p)) (some (.outgrown, p)) x) p
theorem scopeF_eq (q : EX) : scopeF q = scopeX q := by
  cases q with
  | none => rfl
  | some p =>
    obtain ⟨x, s, m⟩ := p
    cases x <;> rfl
noncomputable def condF (n : Nat) (e : VT) (c : Operand) (x y : EX) : EX := evF (gE n e) c fun v => boolF v fun b => Bool.rec (motive := fun _ => EX) y x b
noncomputable def regF (n : Nat) (ds : List Nat) (r : RR) : EX := optF r fun p => Prod.rec (motive := fun _ => EX) (fun e p => Prod.rec (motive := fun _ => EX) (fun H m => some (.normal, ⟨n, e, H, ds⟩, m)) p) p
/-! ### Rounds and loops over functions -/
noncomputable def loopF (b : ABlk) (k : LoopState → Option Code → List Value → Array Tmp → Code → Code → Nat → Option γ) : Option γ := ABlk.rec (motive := fun _ => Option γ) none (fun _ => none) (fun _ _ _ _ => none) (fun _ _ => none) k none b
noncomputable def exF (r : EX) (k : Exit → ES → Nat → Option γ) : Option γ := optF r fun p => Prod.rec (motive := fun _ => Option γ) (fun x p => Prod.rec (motive := fun _ => Option γ) (fun s m => k x s m) p) p
theorem zipSet_length : ∀ (l : List (Tmp × Value)) (t : List Value), (zipSet t l).length = t.length
  | [], _ => rfl
  | (p, a) :: l, t => by rw [zipSet, zipSet_length l]; simp
noncomputable def lstF (n : Nat) (e : VT) (k : List Value → Option γ) : Option γ := List.rec (motive := fun _ => (List Value → Option γ) → Option γ) (fun k => k []) (fun i _ ih k => fullF (e.getF i) fun v => ih fun vs => k (v :: vs)) (List.range n) k
theorem lstF_eq (n : Nat) (e : VT) (k : List Value → Option γ) : lstF n e k = k (lst n e) := by
  unfold lstF lst
  generalize List.range n = l
  induction l generalizing k with
  | nil => rfl
  | cons i l ih =>
    show fullF (e.getF i) _ = _
    rw [fullF_eq, VT.getF_eq]
    exact ih (fun vs => k (e.get i :: vs))
noncomputable def busyF (st : LoopState) (y : Option γ) : Option γ := LoopState.rec (motive := fun _ => Option γ) y none y y st
noncomputable def rangeF (T : Tab) (ex : Exec) (slow : EX) (r : Option Nat) (g : Operand) (ps : Array Tmp) (assign body : Code) (n : Nat) (e : VT) (H : AHeap) (ds : List Nat) : EX :=
  Option.rec (motive := fun _ => EX) (evF (gE n e) g fun v => funF v fun fn first cap => Fn.rec (motive := fun _ => EX) (fun f => lstF n e fun t => allocF H .defer fun H₀ => allocF H₀ (.loop .ready none t ps assign body H.size) fun H₁ =>
      resF (acallF T ex f (appF (appF first.toList [yieldV H₀.size]) cap.toList) H₁) fun _ _ H₂ m₁ => minF H.size m₁ fun m => loopF (H₂.getF H₀.size) fun st pend t' ps' as' bd' d' => busyF st
        (putBF H₂ H₀.size (.loop .exhausted pend t' ps' as' bd' d') fun H₃ => Option.rec (motive := fun _ => EX) (minF m H₀.size fun m => some (.normal, ⟨n, e, H₃, H.size :: ds⟩, m)) (fun c => exF (ex none c ⟨n, e, H₃, H.size :: ds⟩) fun x s m₂ => minF H₀.size m₂ fun a => minF m a fun m => some (x, s, m)) pend)) (fun _ => none) (fun _ _ => none) (fun _ _ _ _ => none) (fun _ => none) fn) (fun _ => slow) r
theorem rangeF_eq (ex : Exec) (r : Option Nat) (g : Operand) (ps : Array Tmp) (assign body : Code) (n : Nat) (e : VT) (H : AHeap) (ds : List Nat) :
    rangeF T ex (astep T P ex r (.rangeFunc g ps assign body) ⟨n, e, H, ds⟩) r g ps assign body n e H ds = astep T P ex r (.rangeFunc g ps assign body) ⟨n, e, H, ds⟩ := by
  cases r with
  | some l => rfl
  | none =>
    show evF (gE n e) g _ = _
    rw [evF_eq, envG_gE]
    simp only [astep,astepG]
    cases aenv n e g with
    | none => rfl
    | some v =>
      cases v with
      | func fn first cap =>
        cases fn with
        | func f =>
          show lstF n e _ = _
          rw [lstF_eq, allocF_eq, allocF_eq]
          have hsz : (H.alloc .defer).size = H.size + 1 := by obtain ⟨sz, t⟩ := H; simp [AHeap.alloc, Am.T.setK_eq, fBlk]
          rw [resF_eq, hsz, acallF_eq, appF_eq, appF_eq]
          simp only
          cases acall T ex f (first.toList ++ [yieldV (H.size + 1)] ++ cap.toList) ((H.alloc .defer).alloc (.loop .ready none (lst n e) ps assign body H.size)) with
          | none => rfl
          | some p =>
            obtain ⟨b, v, H₂, m₁⟩ := p
            simp only [bnd_some,minF_eq,aendLoop]
            rw [AHeap.getF_eq]
            cases H₂.get (H.size + 1) with
            | loop st pend t' ps' as' bd' d' =>
              show busyF st _ = _
              cases st with
              | busy => rfl
              | _ =>
                simp only [busyF,putBF_eq]
                cases pend with
                | none =>
                  simp only
                | some c =>
                  simp only
                  cases ex none c ⟨n, e, H₂.put (H.size + 1) (.loop .exhausted (some c) t' ps' as' bd' d'), H.size :: ds⟩ with
                  | none => rfl
                  | some p => obtain ⟨x, s, m₂⟩ := p; rfl
            | _ => rfl
        | _ => rfl
      | _ => rfl
noncomputable def astepF (T : Tab) (P : Program) (ex : Exec) : Exec := fun r c s => ES.rec (motive := fun _ => EX) (fun n e H ds => Code.rec (motive := fun _ => EX) (some (.normal, ⟨n, e, H, ds⟩, H.size)) (fun _ ops dr => regF n ds (Bool.rec (motive := fun _ => RR) (aopsF T P ex ops.toList n ops.toList e H none) (Option.rec (motive := fun _ => RR) (orD (adrawF T P ex ops n e H) (adrawB T P ex ops n e H)) (fun pl => adrawR T P ex ops n e H pl) (T.plan ops.toList (genv n e) H)) dr)) (fun x y _ _ => seqF (ex r x ⟨n, e, H, ds⟩) (ex r y)) (fun c x y _ _ => condF n e c (ex r x ⟨n, e, H, ds⟩) (ex r y ⟨n, e, H, ds⟩)) (fun id b _ => blockF id (ex r b ⟨n, e, H, ds⟩)) (fun b _ => seqF (ex r b ⟨n, e, H, ds⟩) (ex r (.loop b))) (fun g ps as b _ _ => rangeF T ex (astep T P ex r (.rangeFunc g ps as b) ⟨n, e, H, ds⟩) r g ps as b n e H ds) (fun id => some (.exit id, ⟨n, e, H, ds⟩, H.size)) (fun b _ => scopeF (ex r b ⟨n, e, H, ds⟩)) (fun _ => some (.normal, ⟨n, e, H, ds⟩, H.size)) (fun _ => none) (some (.ret, ⟨n, e, H, ds⟩, H.size)) (fun _ => none) c) s
theorem astepF_eq (ex : Exec) : astepF T P ex = astep T P ex := by
  funext r c s
  obtain ⟨n, e, H, ds⟩ := s
  cases c with
  | region id ops dr =>
    show regF n ds (Bool.rec (motive := fun _ => RR) (aopsF T P ex ops.toList n ops.toList e H none) (Option.rec (motive := fun _ => RR) (orD (adrawF T P ex ops n e H) (adrawB T P ex ops n e H)) (fun pl => adrawR T P ex ops n e H pl) (T.plan ops.toList (genv n e) H)) dr) = _
    have hx : Option.rec (motive := fun _ => RR) (orD (adrawF T P ex ops n e H) (adrawB T P ex ops n e H)) (fun pl => adrawR T P ex ops n e H pl) (T.plan ops.toList (genv n e) H) = adrawX T P ex ops n e H := by
      unfold adrawX
      rw [adrawF_eq]
      cases T.plan ops.toList (genv n e) H <;> rfl
    rw [hx, boolRec_eq, aopsF_eq ex ops n ds]
    unfold regF
    rw [optF_eq]
    simp only [astep,astepG]
    cases dr
    · simp only [cond_false]
      cases aops T P ex ops n ds ops.toList e H with
      | none => rfl
      | some p => obtain ⟨e', H', m⟩ := p; rfl
    · simp only [cond_true]
      cases adrawX T P ex ops n e H with
      | none => rfl
      | some p => obtain ⟨e', H', m⟩ := p; rfl
  | seq x y => exact seqF_eq _ _
  | loop b => exact seqF_eq _ _
  | block id b => exact blockF_eq _ _
  | scope b => exact scopeF_eq _
  | cond c x y =>
    show evF (gE n e) c (fun v => boolF v fun b => Bool.rec (motive := fun _ => EX) (ex r y ⟨n, e, H, ds⟩) (ex r x ⟨n, e, H, ds⟩) b) = _
    rw [evF_eq, envG_gE]
    simp only [astep,astepG]
    cases aenv n e c with
    | none => rfl
    | some v =>
      cases v with
      | bool b => cases b <;> rfl
      | _ => rfl
  | rangeFunc g ps as b => exact rangeF_eq ex r g ps as b n e H ds
  | _ => rfl
noncomputable def aexecF (T : Tab) (P : Program) (n : Nat) : Exec := Nat.rec (motive := fun _ => Exec) (fun _ _ _ => none) (fun _ ih => astepF T P ih) n
theorem aexecF_eq (T : Tab) (P : Program) : ∀ n, aexecF T P n = aexec T P n
  | 0 => rfl
  | n + 1 => by
    have h : aexecF T P (n + 1) = astepF T P (aexecF T P n) := rfl
    rw [h, astepF_eq, aexecF_eq T P n]; rfl
end Go.Am
/- Calls whose outcome is known: parts of a long run, each by itself. -/
namespace Go.Am
variable {T : Tab} {P : Program}

/-! ### When two blocks are the same -/
def eqL {α : Type} (f : α → α → Bool) : List α → List α → Bool
  | [], [] => true
  | x :: xs, y :: ys => f x y && eqL f xs ys
  | _, _ => false
theorem eqL_ok {α : Type} {f : α → α → Bool} (hf : ∀ x y, f x y = true → x = y) : ∀ {a b : List α}, eqL f a b = true → a = b
  | [], [], _ => rfl
  | x :: xs, y :: ys, h => by
    simp only [eqL,Bool.and_eq_true] at h
    rw [hf _ _ h.1, eqL_ok hf h.2]
  | [], _ :: _, h => by simp [eqL] at h
  | _ :: _, [], h => by simp [eqL] at h
def sameEnt (a b : Value × Value × Nat) : Bool := sameV 6 a.1 b.1 && (sameV 6 a.2.1 b.2.1 && Nat.beq a.2.2 b.2.2)
def sameBlk : ABlk → ABlk → Bool
  | .dead, .dead => true
  | .ro c, .ro d => eqL (sameV 6) c d
  | .rw c e o al, .rw c' e' o' al' => eqL (sameV 6) c c' && (Nat.beq e e' && (cond o o' (!o') && eqL Nat.beq al al'))
  | .map es n, .map es' n' => eqL sameEnt es es' && Nat.beq n n'
  | _, _ => false
theorem sameEnt_ok {a b : Value × Value × Nat} (h : sameEnt a b = true) : a = b := by
  obtain ⟨x, y, n⟩ := a
  obtain ⟨x', y', n'⟩ := b
  simp only [sameEnt,Bool.and_eq_true] at h
  rw [sameV_ok _ _ _ h.1, sameV_ok _ _ _ h.2.1, Nat.eq_of_beq_eq_true h.2.2]
theorem sameBlk_ok {a b : ABlk} (h : sameBlk a b = true) : a = b := by
  have hv : ∀ x y : Value, sameV 6 x y = true → x = y := sameV_ok 6
  cases a <;> cases b <;> simp only [sameBlk,Bool.and_eq_true,Bool.false_eq_true] at h
  · rfl
  · rw [eqL_ok hv h]
  · rename_i c e o al c' e' o' al'
    have ho : o = o' := by cases o <;> cases o' <;> simp_all
    rw [eqL_ok hv h.1, show e = e' from Nat.eq_of_beq_eq_true h.2.1, ho, eqL_ok (fun _ _ => Nat.eq_of_beq_eq_true) h.2.2.2]
  · rw [eqL_ok (fun _ _ => sameEnt_ok) h.1, Nat.eq_of_beq_eq_true h.2]

/-! ### Heaps out of their blocks -/
def hpOf (s : Nat) : List (Nat × ABlk) → AHeap
  | [] => ⟨s, .nil⟩
  | p :: l => (hpOf s l).put p.1 p.2
theorem hpOf_size (s : Nat) : ∀ l, (hpOf s l).size = s
  | [] => rfl
  | p :: l => by rw [hpOf, AHeap.size_put, hpOf_size s l]
theorem hpOf_get (s : Nat) : ∀ l k, (hpOf s l).get k = .dead ∨ ∃ p ∈ l, p.1 = k ∧ (hpOf s l).get k = p.2
  | [], k => .inl (by simp only [hpOf,AHeap.get,T.get_nil]; cases Nat.blt k s <;> rfl)
  | p :: l, k => by
    by_cases hk : k < s
    · by_cases e : k = p.1
      · subst e
        refine .inr ⟨p, by simp, rfl, ?_⟩
        rw [hpOf, AHeap.get_put_same _ _ (by rw [hpOf_size]; exact hk)]
      · rw [hpOf, AHeap.get_put_other _ _ e]
        rcases hpOf_get s l k with h | ⟨q, h1, h2, h3⟩
        · exact .inl h
        · exact .inr ⟨q, by simp [h1], h2, h3⟩
    · exact .inl (AHeap.get_ge (by rw [hpOf_size]; exact hk))
def lessL (H : AHeap) : List (Nat × ABlk) → Bool
  | [] => true
  | p :: l => sameBlk p.2 (H.get p.1) && lessL H l
theorem lessL_ok {H : AHeap} : ∀ {l}, lessL H l = true → ∀ p ∈ l, p.2 = H.get p.1
  | p :: l, h, q, hq => by
    simp only [lessL,Bool.and_eq_true] at h
    rcases List.mem_cons.1 hq with rfl | hq
    · exact sameBlk_ok h.1
    · exact lessL_ok h.2 q hq
theorem less_of {H : AHeap} {s : Nat} {l : List (Nat × ABlk)} (hs : Nat.beq s H.size = true) (h : lessL H l = true) : Less (hpOf s l) H := by
  refine ⟨by rw [hpOf_size]; exact Nat.eq_of_beq_eq_true hs, fun k => ?_⟩
  rcases hpOf_get s l k with e | ⟨p, h1, h2, h3⟩
  · exact .inr e
  · refine .inl ?_
    rw [h3, lessL_ok h p h1, h2]
def sameTo (H H' : AHeap) : Nat → Bool
  | 0 => true
  | k + 1 => sameBlk (H.get k) (H'.get k) && sameTo H H' k
theorem sameTo_ok {H H' : AHeap} : ∀ {n}, sameTo H H' n = true → ∀ k, k < n → H.get k = H'.get k
  | n + 1, h, k, hk => by
    simp only [sameTo,Bool.and_eq_true] at h
    by_cases e : k = n
    · subst e; exact sameBlk_ok h.1
    · exact sameTo_ok h.2 k (by omega)

/-! ### Calls from other heaps -/
theorem SCall.congr {f : FuncId} {args : List Value} {H H₀ H' : AHeap} {v : Value} {m : Nat} (h : SCall P f args H v H' m) (hs : H₀.size = H.size) (hg : ∀ k, H₀.get k = H.get k) : SCall P f args H₀ v H' m := by
  intro F n σ w hF hR ha
  refine (h F n σ w hF (hR.less ⟨hs.symm, fun k => .inl (hg k).symm⟩) ha).mono ?_
  rintro e w' ⟨σ', rfl, k1, k2, x⟩
  exact ⟨σ', rfl, k1, k2, ⟨fun k hk => x.agree k (by omega), by rw [hs]; exact x.hsize, x.wsize, x.os, x.tape, x.output, fun k hm hk => (x.keep k hm (by omega)).trans (hg k).symm, x.frame, fun k b s hk => x.fresh k b s (by omega)⟩⟩
theorem SCall.more {f : FuncId} {args : List Value} {H H₀ : AHeap} {v : Value} (h : SCall P f args H v H H.size) (hl : Less H H₀) : SCall P f args H₀ v H₀ H₀.size := by
  intro F n σ w hF hR ha
  refine (h F n σ w hF (hR.less hl) ha).mono ?_
  rintro e w' ⟨σ', rfl, k1, k2, x⟩
  have hb : ∀ k b s, σ'.at_ k = some (b, s) → σ.at_ k = some (b, s) := fun k b s hp => by rw [← (x.agree k (k2.lt k b s hp).1).1]; exact hp
  have hh : ∀ b, b < w.heap.size → w'.heap[b]? = w.heap[b]? := fun b hb' => x.frame b hb' fun k s hk hp => by have := (hR.lt k b s hp).1; rw [← hl.1] at this; omega
  refine ⟨σ', rfl, k1, ⟨fun k b s hp => ⟨by rw [← hl.1]; exact (k2.lt k b s hp).1, (k2.lt k b s hp).2⟩, fun k b s hp => ?_, fun k k' b s s' hk hk' => hR.excl k k' b s s' (hb _ _ _ hk) (hb _ _ _ hk')⟩, ⟨fun k hk => x.agree k (by rw [hl.1]; exact hk), Nat.le_refl _, x.wsize, x.os, x.tape, x.output, fun _ _ _ => rfl, fun b hb' _ => hh b hb', fun k b s hk hp => x.fresh k b s (by rw [hl.1]; exact hk) hp |>.imp id fun ⟨k0, s0, h1, h2⟩ => ⟨k0, s0, by rw [← hl.1]; exact h1, h2⟩⟩⟩
  have := hR.holds k b s (hb _ _ _ hp)
  rw [← (x.agree k (k2.lt k b s hp).1).2] at this
  exact this.agree (x.agr (hR.less hl)) (hh b (hR.lt k b s (hb _ _ _ hp)).2)

/-! ### What is known -/
structure Loud where
  f : FuncId
  args : List Value
  s : Nat
  l : List (Nat × ABlk)
  v : Value
  s' : Nat
  l' : List (Nat × ABlk)
  m : Nat
structure Quiet where
  f : FuncId
  args : List Value
  s : Nat
  l : List (Nat × ABlk)
  v : Value
def HasFn (P : Program) (f : FuncId) : Prop := ∃ fn c, P.funcs[f]? = some fn ∧ fn.body = some c ∧ (fn.name == "runtime.NumGoroutine") = false
def Loud.Ok (P : Program) (e : Loud) : Prop := HasFn P e.f ∧ SCall P e.f e.args (hpOf e.s e.l) e.v (hpOf e.s' e.l') e.m
def Quiet.Ok (P : Program) (e : Quiet) : Prop := HasFn P e.f ∧ SCall P e.f e.args (hpOf e.s e.l) e.v (hpOf e.s e.l) e.s
def quiets (P : Program) : List Quiet → Prop
  | [] => True
  | e :: l => e.Ok P ∧ quiets P l

noncomputable def loudF (ls : List Loud) (f : FuncId) (args : List Value) (H : AHeap) (no : Option (Bool × Value × AHeap × Nat)) : Option (Bool × Value × AHeap × Nat) := List.rec (motive := fun _ => Option (Bool × Value × AHeap × Nat)) no
  (fun e _ ih => Loud.rec (motive := fun _ => Option (Bool × Value × AHeap × Nat)) (fun f' args' s l v s' l' m => Bool.rec (motive := fun _ => Option (Bool × Value × AHeap × Nat)) ih
    (Bool.rec (motive := fun _ => Option (Bool × Value × AHeap × Nat)) ih (some (false, v, hpOf s' l', m)) (eqL (sameV 6) args' args && (Nat.beq s H.size && sameTo H (hpOf s l) s))) (Nat.beq f' f)) e) ls
noncomputable def quietsF (ls : List Quiet) (f : FuncId) (args : List Value) (H : AHeap) (no : Option (Bool × Value × AHeap × Nat)) : Option (Bool × Value × AHeap × Nat) := List.rec (motive := fun _ => Option (Bool × Value × AHeap × Nat)) no
  (fun e _ ih => Quiet.rec (motive := fun _ => Option (Bool × Value × AHeap × Nat)) (fun f' args' s l v => Bool.rec (motive := fun _ => Option (Bool × Value × AHeap × Nat)) ih
    (Bool.rec (motive := fun _ => Option (Bool × Value × AHeap × Nat)) ih (some (true, v, H, H.size)) (eqL (sameV 6) args' args && (Nat.beq s H.size && lessL H l))) (Nat.beq f' f)) e) ls
theorem quietsF_ok {f : FuncId} {args : List Value} {H : AHeap} {no : Option (Bool × Value × AHeap × Nat)} {b : Bool} {v : Value} {H' : AHeap} {m : Nat} : ∀ {ls : List Quiet}, quiets P ls → quietsF ls f args H no = some (b, v, H', m) →
    (H' = H ∧ m = H.size ∧ HasFn P f ∧ SCall P f args H v H' m) ∨ no = some (b, v, H', m)
  | [], _, h => .inr h
  | e :: ls, hl, h => by
    obtain ⟨f', args', s, l, v'⟩ := e
    have h' : Bool.rec (motive := fun _ => Option (Bool × Value × AHeap × Nat)) (quietsF ls f args H no)
      (Bool.rec (motive := fun _ => Option (Bool × Value × AHeap × Nat)) (quietsF ls f args H no) (some (true, v', H, H.size)) (eqL (sameV 6) args' args && (Nat.beq s H.size && lessL H l))) (Nat.beq f' f) = some (b, v, H', m) := h
    rw [boolRec_eq, boolRec_eq] at h'
    cases e1 : Nat.beq f' f
    · rw [e1] at h'; exact quietsF_ok hl.2 h'
    · rw [e1] at h'
      cases e2 : (eqL (sameV 6) args' args && (Nat.beq s H.size && lessL H l))
      · rw [e2] at h'; exact quietsF_ok hl.2 h'
      · rw [e2] at h'
        simp only [Bool.and_eq_true] at e2
        have h'' : some (true, v', H, H.size) = some (b, v, H', m) := h'
        cases h''
        have hf : f' = f := Nat.eq_of_beq_eq_true e1
        subst hf
        have ha := eqL_ok (sameV_ok 6) e2.1
        subst ha
        have := hl.1.2
        rw [show s = (hpOf s l).size from (hpOf_size s l).symm] at this
        have hk : SCall P f' args' (hpOf s l) v (hpOf s l) (hpOf s l).size := by
          have h0 := hl.1.2
          simp only at h0
          rw [hpOf_size]; exact h0
        exact .inl ⟨rfl, rfl, hl.1.1, hk.more (less_of e2.2.1 e2.2.2)⟩

/-- The tables, and what is known of calls. -/
noncomputable def Tab.knows (T : Tab) (ls : List Loud) (qs : List Quiet) : Tab := ⟨T.und, T.inf, T.fn, fun f args H => loudF ls f args H (quietsF qs f args H none), T.plan⟩
abbrev ii (n : Nat) : Value := .int .i64 (.ofNat n)
abbrev ng (n : Nat) : Value := .int .i64 (.negSucc n)

/-! ### Parts of a run -/
def loudChk (s₀ : Nat) (v : Value) (s' : Nat) (l' : List (Nat × ABlk)) (m : Nat) : Res → Bool
  | some (_, v', H', m') => sameV 6 v v' && (Nat.ble m m' && (Nat.beq s' H'.size && (lessL H' l' && sameTo (hpOf s' l') H' (min m s₀))))
  | none => false
def quietChk (v : Value) : Res → Bool
  | some (b, v', _, _) => b && sameV 6 v v'
  | none => false
theorem loud_of (hT : T.Fits P) {n : Nat} {e : Loud} (h : loudChk e.s e.v e.s' e.l' e.m (acallF T (aexecF T P n) e.f e.args (hpOf e.s e.l)) = true) : e.Ok P := by
  obtain ⟨f, args, s, l, v, s', l', m⟩ := e
  simp only at h
  cases hr : acallF T (aexecF T P n) f args (hpOf s l) with
  | none => rw [hr] at h; cases h
  | some r =>
    obtain ⟨b, v', H', m'⟩ := r
    rw [hr] at h
    simp only [loudChk,Bool.and_eq_true] at h
    obtain ⟨h1, h2, h3, h4, h5⟩ := h
    have hv := sameV_ok _ _ _ h1
    subst hv
    have hr' := hr
    rw [acallF_eq, aexecF_eq] at hr'
    obtain ⟨⟨fn, c, hf⟩, h6, _⟩ := acall_ok hT (aexec_ok hT n).1 hr'
    refine ⟨⟨fn, c, hf.1, hf.2, hf.3⟩, ?_⟩
    exact (h6.weaken (Nat.le_of_ble_eq_true h2)).less (less_of h3 h4) fun k hk hk' => sameTo_ok h5 k (by rw [hpOf_size] at hk'; omega)
theorem quiet_of (hT : T.Fits P) {n : Nat} {e : Quiet} (h : quietChk e.v (acallF T (aexecF T P n) e.f e.args (hpOf e.s e.l)) = true) : e.Ok P := by
  obtain ⟨f, args, s, l, v⟩ := e
  simp only at h
  cases hr : acallF T (aexecF T P n) f args (hpOf s l) with
  | none => rw [hr] at h; cases h
  | some r =>
    obtain ⟨b, v', H', m'⟩ := r
    rw [hr] at h
    simp only [quietChk,Bool.and_eq_true] at h
    obtain ⟨h1, h2⟩ := h
    have hv := sameV_ok _ _ _ h2
    subst hv
    have hr' := hr
    rw [acallF_eq, aexecF_eq] at hr'
    obtain ⟨⟨fn, c, hf⟩, h6, h7⟩ := acall_ok hT (aexec_ok hT n).1 hr'
    obtain ⟨rfl, rfl⟩ := h7 h1
    refine ⟨⟨fn, c, hf.1, hf.2, hf.3⟩, ?_⟩
    rw [hpOf_size] at h6
    exact h6
end Go.Am
