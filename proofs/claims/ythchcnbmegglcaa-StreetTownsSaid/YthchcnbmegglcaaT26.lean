/- The program's Pass. -/
import Derived.Test.YthchcnbmegglcaaT25
set_option linter.unusedSimpArgs false
set_option linter.unusedVariables false
namespace Go.Am
open Go.Proofs
variable {T : Tab} {P : Program} {N L : Nat} {H : AHeap} {Q : Bool → Value → AHeap → Prop}

theorem asked_ok {C w ld : Int} {l : List Str} {cs ss ms : List Int} (h : asked C l w ld cs ss ms = 0) : chk C l = 0 ∧ off w 1 9 = false ∧ off ld 0 9 = false ∧ (∀ n ∈ cs, 0 ≤ n ∧ n ≤ C - 1) ∧ (∀ n ∈ ss, 0 ≤ n ∧ n ≤ (l.length : Int) - 1) ∧ (∀ n ∈ ms, 0 ≤ n ∧ n ≤ 240) := by
  unfold asked at h
  have any : ∀ {p : Int → Bool} {l : List Int}, ¬ l.any p = true → ∀ n ∈ l, p n = false := fun {p l} h n hn => by
    cases hp : p n with
    | false => rfl
    | true => exact absurd (List.any_eq_true.2 ⟨n, hn, hp⟩) h
  split at h
  · rename_i h1; exact absurd h h1
  · split at h
    · cases h
    · split at h
      · cases h
      · split at h
        · cases h
        · split at h
          · cases h
          · rename_i h1 h2 h3 h4 h5
            simp only [Bool.or_eq_true,not_or,Bool.not_eq_true] at h2
            exact ⟨Classical.byContradiction h1, h2.1, h2.2, fun n hn => off_iff.1 (any h3 n hn), fun n hn => off_iff.1 (any h4 n hn), fun n hn => off_iff.1 (any h5 n hn)⟩
theorem fit_of {C ld : Int} {l : List Str} {s : Str} (h : chk C l = 0) (hs : s ∈ l) (hd : off ld 0 9 = false) : Fit s ld := by
  have hb := (chk_ok h).2.2.2 s hs
  have h1 := bad2_span hb
  unfold bad2 at hb
  simp only [Bool.or_eq_false_iff] at hb
  have h2 := off_iff.1 hb.1
  have h3 := off_iff.1 hb.2.1
  have h4 := off_iff.1 hd
  refine ⟨h2, ⟨Int.mul_nonneg h3.1 h4.1, ?_⟩, h1.1, h1.2⟩
  have := Int.mul_le_mul h3.2 h4.2 h4.1 (by omega)
  omega
/-- What Pass gives: the minute, and the error. -/
def passV (C : Int) (l : List Str) (w ld li : Int) (b : Bool) (m : Int) : Int × Int :=
  if asked C l w ld [] [li] [m] ≠ 0 then (0, asked C l w ld [] [li] [m]) else match l[li.toNat]? with
  | some s => if (bif mayL s b w ld then arriveL s b ld m else -1) = -1 then (0, 1) else (arriveL s b ld m, 0)
  | none => (0, 1)
theorem st_brS_52_1 : brS tabA 52 1 = some (1, 3, [.int .i64 0]) := by kernel_rfl
/-- The questions of Pass. -/
theorem c82q {a : Option Addr} {cap b₁ b₂ : Nat} {l : List Str} {C w ld li m : Int} (hs : Sl H a l) (hl : l.length ≤ 18) (k₁ : b₁ < H.size) (h₁ : cellsOf (H.get b₁) = some [.int .i64 li]) (k₂ : b₂ < H.size) (h₂ : cellsOf (H.get b₂) = some [.int .i64 m]) :
    acall tabA (aexec tabA Try.prog (N + 400)) 82 [.agg ⟨[.int .i64 C, .slice a l.length cap]⟩, .agg ⟨[.int .i64 w, .int .i64 ld]⟩, .slice none 0 0, .slice (some ⟨b₁, 0, none⟩) 1 1, .slice (some ⟨b₂, 0, none⟩) 1 1] H = some (true, .int .i64 (asked C l w ld [] [li] [m]), H, H.size) :=
  c82 (cs := []) (ss := [li]) (ms := [m]) (ac := none) (kc := 0) hs hl Il.nil (by simp) (Il.one k₁ h₁) (by simp) (Il.one k₂ h₂) (by simp)
theorem c26q {a : Option Addr} {cap b₁ b₂ : Nat} {l : List Str} {C w ld li m : Int} (hs : Sl H a l) (hl : l.length ≤ 18) (k₁ : b₁ < H.size) (h₁ : cellsOf (H.get b₁) = some [.int .i64 li]) (k₂ : b₂ < H.size) (h₂ : cellsOf (H.get b₂) = some [.int .i64 m]) :
    acall tabA (aexec tabA Try.prog (N + 400)) 26 [.agg ⟨[.int .i64 C, .slice a l.length cap]⟩, .agg ⟨[.int .i64 w, .int .i64 ld]⟩, .slice none 0 0, .slice (some ⟨b₁, 0, none⟩) 1 1, .slice (some ⟨b₂, 0, none⟩) 1 1] H = some (true, .int .i64 (asked C l w ld [] [li] [m]), H, H.size) :=
  c26 (cs := []) (ss := [li]) (ms := [m]) (ac := none) (kc := 0) hs hl Il.nil (by simp) (Il.one k₁ h₁) (by simp) (Il.one k₂ h₂) (by simp)
set_option maxHeartbeats 1000000 in
theorem c25 {a : Option Addr} {cap : Nat} {l : List Str} {C w ld li m : Int} {b : Bool} (hs : Sl H a l) (hl : l.length ≤ 18) :
    acall tabA (aexec tabA Try.prog (N + 500)) 25 [.agg ⟨[.int .i64 C, .slice a l.length cap]⟩, .agg ⟨[.int .i64 w, .int .i64 ld]⟩, legV li b, .int .i64 m] H = some (true, .tuple ⟨[.int .i64 (passV C l w ld li b m).1, .int .i64 (passV C l w ld li b m).2]⟩, H, H.size) := by
  refine call_quiet (k := 32) (rs := [.tmp 8, .tmp 9]) rfl fn_25 rfl rfl rfl ?_ rfl
  simp (disch := (first | (simp only [ne_eq,Nat.reduceEqDiff,not_false_eq_true,Nat.reduceLT]; done) | omega | (simp only [zde,zdf,zdg] <;> omega) | fail)) only [zaa,zab,↓zag,↓zaj,↓zak,↓zal,↓zan,↓zao,↓zaq,↓zas,↓zat,↓zax,zay,zaz,zba,zbe,zbo,zbs,zbt,zbu,zbw,zbx,zcn,zco,zcp,zcq,Nat.le_refl,cond_true,Nat.zero_add,Nat.reduceAdd,Nat.reduceBEq,List.nil_append,List.append_nil,zda,zdb,zde,zdh,zdj,zdk,zds,zdt,zee,List.take_zero,List.drop_succ_cons,List.drop_nil,decide_true,Bool.and_self,List.length_cons,List.length_nil,zep,zeq,zer,zes,zet,zeu,zev,List.getElem?_cons_zero,Nat.le_add_right,zgr,Nat.add_zero,Nat.mul_one,ziz,zkn,zko,zkq,legV,A_buildSlice st_brS_52_1]
  rw [c82q (li := li) (m := m) (hs.fr (by (repeat (first | exact Fr.refl _ | assumption | refine Fr.allocd ?_ _ | refine Fr.kill ?_ (by first | assumption | omega) | refine Fr.put ?_ (by first | omega | (simp only [zde,zdf,zdg] <;> omega)) _)))) hl (by (first | omega | (simp only [zde] <;> omega))) (by simp (disch := (first | (simp only [ne_eq,Nat.reduceEqDiff,not_false_eq_true,Nat.reduceLT]; done) | omega | (simp only [zde,zdf,zdg] <;> omega) | fail)) only [zda,zdb,zdh]) (by (first | omega | (simp only [zde] <;> omega))) (by simp (disch := (first | (simp only [ne_eq,Nat.reduceEqDiff,not_false_eq_true,Nat.reduceLT]; done) | omega | (simp only [zde,zdf,zdg] <;> omega) | fail)) only [zda,zdh])]
  simp (disch := (first | (simp only [ne_eq,Nat.reduceEqDiff,not_false_eq_true,Nat.reduceLT]; done) | omega | (simp only [zde,zdf,zdg] <;> omega) | fail)) only [zaa,zab,↓zag,↓zai,↓zaj,↓zak,↓zal,↓zan,↓zao,↓zaw,zay,zba,zbd,zbe,zbh,zbs,zbu,zbw,zch,zcm,Nat.zero_add,Nat.reduceAdd,zde]
  by_cases h0 : asked C l w ld [] [li] [m] = 0
  rotate_left
  · have h0' : decide (asked C l w ld [] [li] [m] = 0) = false := by simpa using h0
    simp (disch := (first | (simp only [ne_eq,Nat.reduceEqDiff,not_false_eq_true,Nat.reduceLT]; done) | omega | (simp only [zde,zdf,zdg] <;> omega) | fail)) only [zaa,zab,↓zaf,↓zag,↓zaj,↓zak,↓zal,↓zan,↓zao,zay,zba,zbc,zbe,zbg,zbs,zbu,zbw,zbx,zcs,zcu,Nat.zero_add,Nat.reduceAdd,zde,Bool.not_false,h0',passV]
    simp [h0]
  have h0' : decide (asked C l w ld [] [li] [m] = 0) = true := by simpa using h0
  obtain ⟨hc, hw, hd, -, hli, hm⟩ := asked_ok h0
  have hli := hli li (by simp)
  have hm := hm m (by simp)
  obtain ⟨i, rfl⟩ : ∃ i : Nat, li = i := ⟨li.toNat, by omega⟩
  have hilt : i < l.length := by omega
  obtain ⟨s, hi⟩ : ∃ s, l[i]? = some s := ⟨l[i], by simp [hilt]⟩
  have hf := fit_of hc (List.mem_of_getElem? hi) hd
  have ht := hf.takes b
  have hpv : passV C l w ld i b m = if (bif mayL s b w ld then arriveL s b ld m else -1) = -1 then (0, 1) else (arriveL s b ld m, 0) := by
    unfold passV
    rw [if_neg (by simpa using h0)]
    simp only [Int.toNat_natCast,hi]
  obtain ⟨bb, o, c, rfl, hb, hcc, hp⟩ := hs.get (fun h => by subst h; simp at hi)
  have k1 := hf.mi
  have k2 := hf.ul
  have k3 := hf.hi
  have h84 := fun (H' : AHeap) (f : Fr H H') (N : Nat) => c84 (N := N) (C := C) (w := w) (ld := ld) (m := m) (cap := cap) (b := b) (hs.fr f) hi (fun N' H'' f' => c117 (N := N') (C := C) (w := w) (cap := cap) (b := b) ((hs.fr f).fr f') hi (w64_of (by omega)) (w64_of (by omega)) (w64_of (by omega)) (w64_of (by omega)) (w64_of (by omega)) (by omega))
  simp only [jobV,legV] at h84
  simp (disch := (first | (simp only [ne_eq,Nat.reduceEqDiff,not_false_eq_true,Nat.reduceLT]; done) | omega | (simp only [zde,zdf,zdg] <;> omega) | fail)) only [zaa,zab,↓zac,↓zag,zba,zbb,zbe,Nat.zero_add,Nat.reduceAdd,zde,Bool.not_true,h0']
  refine W_draw [2] rfl (by kernel_rfl) (by kernel_rfl) (by (first | omega | (simp only [zde] <;> omega))) ?_
  simp (disch := (first | (simp only [ne_eq,Nat.reduceEqDiff,not_false_eq_true,Nat.reduceLT]; done) | omega | (simp only [zde,zdf,zdg] <;> omega) | fail)) only [↓zan,↓zat,↓zax,zay,zaz,zba,zbo,zbw,zbx,zcn,zco,zcp,zcq,cond_true,Nat.reduceAdd,Nat.reduceEqDiff,List.nil_append,List.append_nil,zda,zdb,zdd,zde,zdf,zdh,zdk,decide_true,decide_false,zfa,zfb,zfe,zff,zfg,zfh,↓zfj,Bool.or_true,Bool.or_false,zfs,zfv,zgk,zgm,zgn,zgp,zkn,zko,zkp,c83,jobV]
  rw [h84 _ (by (repeat (first | exact Fr.refl _ | assumption | refine Fr.allocd ?_ _ | refine Fr.kill ?_ (by first | assumption | omega) | refine Fr.put ?_ (by first | omega | (simp only [zde,zdf,zdg] <;> omega)) _)))]
  simp (disch := (first | (simp only [ne_eq,Nat.reduceEqDiff,not_false_eq_true,Nat.reduceLT]; done) | omega | (simp only [zde,zdf,zdg] <;> omega) | fail)) only [↓zag,↓zai,↓zaj,↓zak,↓zal,↓zan,↓zao,↓zat,↓zaw,↓zax,zay,zaz,zba,zbe,zbh,zbo,zbs,zbu,zbw,zbx,zcg,zcm,zcn,zco,zcp,zcq,cond_true,Nat.reduceAdd,Nat.reduceEqDiff,Nat.reduceLeDiff,List.nil_append,List.append_nil,zda,zdb,zdd,zde,zdf,zdh,zdk,decide_true,decide_false,Bool.and_self,zfa,zfb,zfe,zff,zfg,↓zfi,↓zfj,zfl,zfm,zfn,zfo,zfp,zfq,zfr,Bool.or_true,Bool.or_false,and_true,true_and,zft,zgm,zgn,zgs,zgt,zgv,zgw,zgz,zha,zhz,zia,zkn,zko,zkp]
  rw [h84 _ (by (repeat (first | exact Fr.refl _ | assumption | refine Fr.allocd ?_ _ | refine Fr.kill ?_ (by first | assumption | omega) | refine Fr.put ?_ (by first | omega | (simp only [zde,zdf,zdg] <;> omega)) _)))]
  simp (disch := (first | (simp only [ne_eq,Nat.reduceEqDiff,not_false_eq_true,Nat.reduceLT]; done) | omega | (simp only [zde,zdf,zdg] <;> omega) | fail)) only [zba,zcm,Nat.reduceLeDiff,zde,and_true,true_and,zgs]
  rw [h84 _ (by (repeat (first | exact Fr.refl _ | assumption | refine Fr.allocd ?_ _ | refine Fr.kill ?_ (by first | assumption | omega) | refine Fr.put ?_ (by first | omega | (simp only [zde,zdf,zdg] <;> omega)) _)))]
  simp (disch := (first | (simp only [ne_eq,Nat.reduceEqDiff,not_false_eq_true,Nat.reduceLT]; done) | omega | (simp only [zde,zdf,zdg] <;> omega) | fail)) only [zba,zcm,Nat.reduceLeDiff,zde,zdf,and_true,true_and,zgs]
  rw [hpv]
  refine ⟨fun hA => ?_, fun hA => ?_⟩
  · have hA' := of_decide_eq_true hA
    simp (disch := (first | (simp only [ne_eq,Nat.reduceEqDiff,not_false_eq_true,Nat.reduceLT]; done) | omega | (simp only [zde,zdf,zdg] <;> omega) | fail)) only [↓zaf,↓zag,↓zaj,↓zak,↓zal,↓zao,zay,zba,zbe,zbg,zbu,zbw,zbx,zcs,zcu,zde,zdf,decide_true,zfp,zfq,if_true,zhz,zia,hA']
  · have hA' := of_decide_eq_false hA
    have hmy : mayL s b w ld = true := by
      cases h : mayL s b w ld with
      | true => rfl
      | false => rw [h] at hA'; exact absurd rfl hA'
    rw [hmy] at hA'
    simp (disch := (first | (simp only [ne_eq,Nat.reduceEqDiff,not_false_eq_true,Nat.reduceLT]; done) | omega | (simp only [zde,zdf,zdg] <;> omega) | fail)) only [↓zac,↓zaf,↓zag,↓zaj,↓zak,↓zal,↓zan,↓zao,zay,zba,zbe,zbs,zbu,zbw,zbx,zcs,zcu,cond_true,zde,zdf,zfp,zfq,zhz,zia,hmy]
    simp only [cond_true] at hA'
    rw [if_neg hA']
end Go.Am
/- What the law lays for itself. -/
namespace Go.Am
open Go.Proofs
variable {T : Tab} {P : Program} {N L : Nat} {H : AHeap} {Q : Bool → Value → AHeap → Prop}

/-- What a call leaves without a change holds no address. -/
theorem acall_gr {ex : Exec} {g : FuncId} {args : List Value} {v : Value} {H' : AHeap} {m : Nat} (hm : T.memo g args H = none) (h : acall T ex g args H = some (true, v, H', m)) : gr v = true := by
  have quiet : ∀ {v' : Value} {G : AHeap} {m' : Nat}, quietV v' H G m' = some (true, v, H', m) → gr v = true := fun {v' G m'} h => by
    unfold quietV at h
    cases hq : (Nat.ble H.size m' && gr v')
    · rw [hq] at h; cases h
    · rw [hq] at h
      cases h
      simp only [Bool.and_eq_true] at hq
      exact hq.2
  have leave : ∀ {fn : Func} {s' : ES} {m' : Nat}, aleave T fn H s' m' = some (true, v, H', m) → gr v = true := fun {fn s' m'} h => by
    unfold aleave at h
    split at h
    · split at h
      · simp only [fV_eq,fNat_eq] at h
        exact quiet h
      · cases h
    · cases h
  unfold acall at h
  rw [hm] at h
  simp only at h
  unfold acall0 at h
  split at h
  · cases h
  · split at h
    · cases h
    · simp only [envK_eq,fNat_eq] at h
      split at h
      · exact leave h
      · exact leave h
      · cases h
/-- A call that gives a value with addresses, out of what is known of it for any way. -/
theorem resK_fls {ex : Exec} {g : FuncId} {args : List Value} {R : Value → AHeap → Prop} (hm : T.memo g args H = none) (h : resK (acall T ex g args H) L (fun _ v H' => R v H')) (hg : ∀ v H', R v H' → gr v = false) (hq : ∀ v H', R v H' → Q false v H') : resK (acall T ex g args H) L Q := by
  unfold resK at h ⊢
  cases ha : acall T ex g args H with
  | none => rw [ha] at h; exact h.elim
  | some p =>
    obtain ⟨b, v, H', m⟩ := p
    rw [ha] at h
    obtain ⟨h1, h2⟩ := h
    cases b
    · exact ⟨h1, hq v H' h2⟩
    · have := acall_gr hm ha
      rw [hg v H' h2] at this; cases this
/-- A place of the walk from which only what is told goes on. -/
theorem W_gen {r : Option Nat} {c : Code} {n : Nat} {e : VT} {ds : List Nat} {Q : Exit → ES → Prop} (I : VT → AHeap → Prop) (hi : I e H) (h : ∀ e H, I e H → W T P N r c L ⟨n, e, H, ds⟩ Q) : W T P N r c L ⟨n, e, H, ds⟩ Q := h e H hi

theorem maskE_nilSlice {l : List Nat} {n : Nat} {e : VT} : maskE l n e (.const (.slice none 0 0)) = some (.slice none 0 0) := nr rfl
theorem c19n {a : Option Addr} {cap : Nat} {C : Int} : acall tabA (aexec tabA Try.prog (N + 120)) 19 [.agg ⟨[.int .i64 C, .slice a 0 cap]⟩] H = some (true, .agg ⟨[.int .i64 C, .slice none 0 0]⟩, H, H.size) := by
  refine call_quiet (k := 9) (rs := [.cell 2 24]) rfl fn_19 rfl rfl rfl ?_ rfl
  simp (disch := (first | (simp only [ne_eq,Nat.reduceEqDiff,not_false_eq_true,Nat.reduceLT]; done) | omega | (simp only [zde,zdf,zdg] <;> omega) | fail)) only [zaa,zab,↓zag,↓zaj,↓zak,↓zal,↓zaq,↓zar,zay,zaz,zba,zbe,zbs,zbw,Nat.le_refl,Nat.zero_add,zde,zds,Nat.le_add_right,zie]
  refine W_draw [6] rfl (by kernel_rfl) (by kernel_rfl) (by (first | omega | (simp only [zde] <;> omega))) ?_
  simp (disch := (first | (simp only [ne_eq,Nat.reduceEqDiff,not_false_eq_true,Nat.reduceLT]; done) | omega | (simp only [zde,zdf,zdg] <;> omega) | fail)) only [↓zaf,↓zas,↓zat,↓zau,↓zax,zay,zaz,zba,zbb,zbe,zbo,zbw,zbx,zby,zcm,zcn,zco,zcp,zcq,zcu,Nat.le_refl,cond_true,Nat.zero_add,Nat.reduceAdd,Nat.reduceBEq,Nat.reduceEqDiff,Nat.reduceLeDiff,List.nil_append,List.cons_append,List.append_nil,zda,zdb,zdc,zdd,zde,zdf,zdh,zdj,zdk,zds,zdt,zdv,zdy,↓zeb,zec,zed,zee,zef,zeg,zei,List.take_zero,List.take_succ_cons,List.drop_zero,List.drop_succ_cons,List.drop_nil,decide_true,decide_false,Bool.and_self,Bool.true_and,List.length_cons,List.length_nil,zep,zeq,zer,zes,zet,zeu,zev,zex,zey,zez,zfa,zfb,zfe,zff,zfg,zfh,↓zfi,↓zfj,zfl,zfm,zfn,zfo,zfp,zfq,zfr,Bool.or_true,Bool.or_false,and_true,List.getElem?_cons_zero,List.getElem?_cons_succ,Nat.le_add_right,zfv,zga,zgc,zgi,zgk,zgm,zgn,zgp,List.map_cons,List.map_nil,zgs,zgu,zgv,zgw,zgz,zha,Nat.add_zero,zhz,zia,ziv,ziw,zkb,zkm,zkn,zkq,c74n,A_build zil]
theorem c19f {a : Option Addr} {cap : Nat} {l : List Str} {C : Int} (hs : Sl H a l) (hl : l.length ≤ 18) (hne : l ≠ []) (hL : L ≤ H.size) {M : Nat} (hM : 120 ≤ M)
    (hq : ∀ a' cap' H', New H H' a' cap' l → Q false (.agg ⟨[.int .i64 C, .slice a' l.length cap']⟩) H') : resK (acall tabA (aexec tabA Try.prog M) 19 [.agg ⟨[.int .i64 C, .slice a l.length cap]⟩] H) L Q := by
  refine resK_fls (R := fun v H' => ∃ a' cap', v = .agg ⟨[.int .i64 C, .slice a' l.length cap']⟩ ∧ New H H' a' cap' l) rfl (c19 hs hl hL hM fun b a' cap' H' h => ⟨a', cap', rfl, h⟩) ?_ ?_
  · rintro v H' ⟨a', cap', rfl, h⟩
    cases hg : gr (.agg ⟨[.int .i64 C, .slice a' l.length cap']⟩) with
    | false => rfl
    | true => exact absurd (gr_town hg) (h.some hne)
  · rintro v H' ⟨a', cap', rfl, h⟩
    exact hq _ _ _ h
theorem c20n {a : Option Addr} {cap : Nat} {C : Int} : acall tabA (aexec tabA Try.prog (N + 120)) 20 [.agg ⟨[.int .i64 C, .slice a 0 cap]⟩] H = some (true, .agg ⟨[.int .i64 C, .slice none 0 0]⟩, H, H.size) := by
  refine call_quiet (k := 24) (rs := [.cell 2 34]) rfl fn_20 rfl rfl rfl ?_ rfl
  simp (disch := (first | (simp only [ne_eq,Nat.reduceEqDiff,not_false_eq_true,Nat.reduceLT]; done) | omega | (simp only [zde,zdf,zdg] <;> omega) | fail)) only [zaa,zab,↓zag,↓zah,↓zaj,↓zak,↓zal,↓zan,↓zaq,↓zar,↓zas,↓zat,↓zau,zay,zaz,zba,zbb,zbe,zbo,zbs,zbu,zbw,zbx,zby,Nat.le_refl,cond_true,Nat.zero_add,Nat.reduceAdd,Nat.reduceBEq,Nat.reduceLeDiff,List.nil_append,List.cons_append,zda,zdb,zdd,zde,zdf,zdh,zdj,zds,zdt,zdy,↓zdz,↓zeb,zec,zed,zee,zef,zeg,zei,List.take_zero,List.drop_zero,List.drop_succ_cons,List.drop_nil,decide_true,Bool.and_self,List.length_cons,List.length_nil,zep,zeq,zer,zes,zet,zeu,zev,List.getElem?_cons_zero,List.getElem?_cons_succ,Nat.le_add_right,Nat.add_zero,zif,ziv,ziw,zke,zkm,zkq,A_build zim,lenV_slice zio]
  rw [W_loop]
  simp (disch := (first | (simp only [ne_eq,Nat.reduceEqDiff,not_false_eq_true,Nat.reduceLT]; done) | omega | (simp only [zde,zdf,zdg] <;> omega) | fail)) only [↓zae,↓zaf,↓zag,↓zai,↓zaj,↓zak,↓zal,↓zat,↓zau,↓zaw,zay,zaz,zba,zbb,zbc,zbe,zbf,zbh,zbo,zbs,zbw,zbx,zby,zcb,zci,zcu,Nat.le_refl,Nat.zero_add,Nat.reduceAdd,List.nil_append,List.cons_append,zda,zdb,zdc,zdd,zde,zdf,zdh,zdk,zds,zdy,↓zeb,zec,zed,zee,zef,zeg,zei,List.take_zero,List.drop_succ_cons,List.drop_nil,decide_true,decide_false,Bool.and_self,List.length_cons,List.length_nil,zex,zey,zez,Nat.le_add_right,zke,zks,Int.lt_irrefl,decide_false,Int.natCast_zero]
theorem c20f {a : Option Addr} {cap : Nat} {l : List Str} {C : Int} (hs : Sl H a l) (hl : l.length ≤ 18) (hne : l ≠ []) (hL : L ≤ H.size) {M : Nat} (hM : 120 ≤ M)
    (hq : ∀ a' cap' H', Fr H H' → Sl H' a' l → Q false (.agg ⟨[.int .i64 C, .slice a' l.length cap']⟩) H') : resK (acall tabA (aexec tabA Try.prog M) 20 [.agg ⟨[.int .i64 C, .slice a l.length cap]⟩] H) L Q := by
  refine resK_fls (R := fun v H' => ∃ a' cap', v = .agg ⟨[.int .i64 C, .slice a' l.length cap']⟩ ∧ Fr H H' ∧ Sl H' a' l) rfl (c20 hs hl hL hM fun b a' cap' H' h h' => ⟨a', cap', rfl, h, h'⟩) ?_ ?_
  · rintro v H' ⟨a', cap', rfl, h, h'⟩
    obtain ⟨b, o, c, rfl, _⟩ := h'.get hne
    rfl
  · rintro v H' ⟨a', cap', rfl, h, h'⟩
    exact hq _ _ _ h h'
/-! ### clear -/
/-- The cells of an element of a row that is cleared. -/
def clS (T : Tab) (ty : TypeId) : Option (Array Value) := match T.und ty with
  | some (.slice e) => match T.inf e with
    | some i => match i.zero with
      | some z => some z.cells
      | none => none
    | none => none
  | _ => none
def clK (zc : Array Value) (v : Value) (H : AHeap) (L : Nat) (Q : Bool → Value → AHeap → Prop) (_ : Tag Q := .mk) : Prop := match v with
  | .slice a n _ => bif Nat.beq n 0 then L ≤ H.size ∧ Q false (.tuple #[]) H else match a with
    | some a => bif allGrV (Builtin.zeroCells zc n).toList then (match aWrite H a.block a.off (Builtin.zeroCells zc n).toList with
      | some (H', m) => L ≤ m ∧ Q false (.tuple #[]) H'
      | none => False) else False
    | none => False
  | _ => False
theorem A_clear {ex : Exec} {t : Operand → Option Value} {ty : TypeId} {tys : List TypeId} {x : Operand} {zc : Array Value} (hs : clS T ty = some zc) : A T P ex t H L (.call ⟨.builtin .clear, [x].toArray, (ty :: tys).toArray⟩) Q = optK (t x) fun v => clK zc v H L Q := by
  unfold A
  show (match moves (aClear T t H (ty :: tys).toArray [x].toArray) with
    | some (b, v, H', m) => L ≤ m ∧ Q b v H'
    | none => False) = _
  unfold clS at hs
  unfold aClear
  simp only
  cases hu : T.und ty with
  | none => rw [hu] at hs; cases hs
  | some d =>
    rw [hu] at hs
    cases d with
    | slice e =>
      simp only at hs
      cases hi : T.inf e with
      | none => rw [hi] at hs; cases hs
      | some i =>
        rw [hi] at hs
        simp only at hs
        cases hz : i.zero with
        | none => rw [hz] at hs; cases hs
        | some z =>
          rw [hz] at hs
          cases hs
          cases t x with
          | none => rfl
          | some v =>
            simp only [optK]
            cases v with
            | slice a n c =>
              simp only [clK]
              cases hn : Nat.beq n 0
              · simp only [cond_false]
                cases a with
                | none => rfl
                | some a =>
                  simp only [hi,hz]
                  cases allGrV (Builtin.zeroCells z.cells n).toList
                  · rfl
                  · simp only [cond_true]
                    cases aWrite H a.block a.off (Builtin.zeroCells z.cells n).toList with
                    | none => rfl
                    | some p => rfl
              · rfl
            | _ => rfl
    | _ => cases hs
theorem clK_none {zc : Array Value} {a : Option Addr} {cap : Nat} : clK zc (.slice a 0 cap) H L Q = andK (L ≤ H.size) (Q false (.tuple #[]) H) := nr rfl
theorem clK_row {zc : Array Value} {b n cap ty : Nat} {op : Bool} {c : List Value} (hn : n ≠ 0) (hg : H.get b = .rw c ty op []) (hc : c.length = (Builtin.zeroCells zc n).toList.length) (h1 : allGrV (Builtin.zeroCells zc n).toList = true) (h2 : oneCells (Builtin.zeroCells zc n).toList = true) :
    clK zc (.slice (some ⟨b, 0, none⟩) n cap) H L Q = andK (L ≤ b) (Q false (.tuple #[]) (H.put b (.rw (Builtin.zeroCells zc n).toList ty op []))) := by
  have hw : aWrite H b 0 (Builtin.zeroCells zc n).toList = some (H.put b (.rw (Builtin.zeroCells zc n).toList ty op []), b) := by
    have := zeb (H := H) (b := b) (o := 0) (vs := (Builtin.zeroCells zc n).toList) (Q := fun m H' => aWrite H b 0 (Builtin.zeroCells zc n).toList = some (H', m))
    unfold wrK at this
    cases ha : aWrite H b 0 (Builtin.zeroCells zc n).toList with
    | none =>
      unfold aWrite at ha
      rw [hg] at ha
      simp only [Nat.zero_add,hc,h2,Bool.and_true] at ha
      rw [show Nat.ble (Builtin.zeroCells zc n).toList.length (Builtin.zeroCells zc n).toList.length = true from Nat.ble_eq_true_of_le (Nat.le_refl _)] at ha
      cases ha
    | some p =>
      unfold aWrite at ha
      rw [hg] at ha
      simp only [Nat.zero_add,hc,h2,Bool.and_true] at ha
      rw [show Nat.ble (Builtin.zeroCells zc n).toList.length (Builtin.zeroCells zc n).toList.length = true from Nat.ble_eq_true_of_le (Nat.le_refl _)] at ha
      simp only [cond_true,Option.some.injEq] at ha
      rw [← ha]
      rw [List.take_zero, List.nil_append, List.drop_of_length_le (by rw [hc]; exact Nat.le_refl _), List.append_nil]
      rfl
  unfold clK
  simp only
  rw [show Nat.beq n 0 = false from beq_ne hn, cond_false, h1, cond_true, hw]; rfl
theorem okI_of {n : Int} (h : 0 ≤ n ∧ n ≤ 1000) : okI n := by
  unfold okI Lit.wf
  simp only [Bool.and_eq_true,decide_eq_true_eq]
  have h1 : IntKind.min .i64 = -9223372036854775808 := by kernel_rfl
  have h2 : IntKind.max .i64 = 9223372036854775807 := by kernel_rfl
  rw [h1, h2]
  omega
theorem mir_ok {C : Int} {l : List Str} {s : Str} (hc : chk C l = 0) (hs : s ∈ l) : (mir s).Ok := by
  have h1 := (chk_ok hc).2.2.1 s hs
  have h2 := (chk_ok hc).2.2.2 s hs
  have h0 := off_iff.1 (chk_ok hc).1
  unfold bad1 at h1
  unfold bad2 at h2
  simp only [Bool.or_eq_false_iff] at h1 h2
  have a1 := off_iff.1 h1.1
  have a2 := off_iff.1 h1.2.1
  have b1 := off_iff.1 h2.1
  have b2 := off_iff.1 h2.2.1
  have b3 := off_iff.1 h2.2.2.1
  have b4 := off_iff.1 h2.2.2.2.1
  have b5 := off_iff.1 h2.2.2.2.2.1
  have b6 := off_iff.1 h2.2.2.2.2.2
  exact ⟨okI_of (by show 0 ≤ s.to ∧ s.to ≤ 1000; omega), okI_of (by show 0 ≤ s.fr ∧ s.fr ≤ 1000; omega), okI_of (by show 0 ≤ s.mi ∧ s.mi ≤ 1000; omega), okI_of (by show 0 ≤ s.up ∧ s.up ≤ 1000; omega), okI_of (by show 0 ≤ s.wi ∧ s.wi ≤ 1000; omega), okI_of (by show 0 ≤ s.be ∧ s.be ≤ 1000; omega), okI_of (by show 0 ≤ 239 - s.hi ∧ 239 - s.hi ≤ 1000; omega), okI_of (by show 0 ≤ 239 - s.lo ∧ 239 - s.lo ≤ 1000; omega)⟩
def zc22 : Array Value := #[.int .i64 0, .int .i64 0, .int .i64 0, .int .i64 0, .int .i64 0, .int .i64 0, .bool false, .int .i64 0, .int .i64 0]
theorem zc_all : ((List.range 19).all fun n => allGrV (Builtin.zeroCells zc22 n).toList && (oneCells (Builtin.zeroCells zc22 n).toList && Nat.beq (Builtin.zeroCells zc22 n).toList.length (n * 9))) = true := by kernel_rfl
theorem zc_ok {n : Nat} (h : n ≤ 18) : allGrV (Builtin.zeroCells zc22 n).toList = true ∧ oneCells (Builtin.zeroCells zc22 n).toList = true ∧ (Builtin.zeroCells zc22 n).toList.length = n * 9 := by
  have := List.all_eq_true.1 zc_all n (List.mem_range.2 (by omega))
  simp only [Bool.and_eq_true] at this
  exact ⟨this.1, this.2.1, Nat.eq_of_beq_eq_true this.2.2⟩
theorem st_clS_22 : clS tabA 22 = some zc22 := by kernel_rfl
end Go.Am
/- The end of the law StreetTowns: Pass. -/
namespace Go.Am
open Go.Proofs
variable {T : Tab} {P : Program} {N L : Nat} {H : AHeap} {Q : Bool → Value → AHeap → Prop}

theorem awake_r {ex : Exec} : acall tabA ex 18 [] H = some (true, .bool true, H, H.size) := nr rfl
/-- What is left of code behind its first parts. -/
def cdrop : Nat → Code → Code
  | n + 1, .seq _ y => cdrop n y
  | _, c => c
def codeOf (o : Option Code) : Code := match o with
  | some c => c
  | none => .skip
/-- What the law knows when its own town and that of the reference are laid. -/
structure Laid (H : AHeap) (a : Option Addr) (cap : Nat) (l : List Str) (C w ld li m : Int) (b : Bool) (e : VT) (H' : AHeap) (a1 : Option Addr) (cap1 : Nat) (a2 : Option Addr) (cap2 : Nat) : Prop where
  g3 : gt 130 e 3 = .int .i64 m
  g4 : gt 130 e 4 = .pointer (some ⟨H.size, 0, none⟩)
  g5 : gt 130 e 5 = .pointer (some ⟨H.size + 1, 0, none⟩)
  g6 : gt 130 e 6 = .pointer (some ⟨H.size + 1 + 1, 0, none⟩)
  g9 : gt 130 e 9 = .pointer (some ⟨H.size + 1 + 1 + 1, 0, none⟩)
  g10 : gt 130 e 10 = .pointer (some ⟨H.size + 1 + 1 + 1 + 1, 0, none⟩)
  fr : Fr H H'
  sz : H.size + 1 + 1 + 1 + 1 < H'.size
  b4 : H'.get H.size = .rw [.int .i64 C, .slice a l.length cap] 24 false []
  b5 : H'.get (H.size + 1) = .rw [.int .i64 w, .int .i64 ld] 26 false []
  b6 : H'.get (H.size + 1 + 1) = .rw [.int .i64 li, .bool b] 28 false []
  b9 : H'.get (H.size + 1 + 1 + 1) = .rw [.int .i64 C, .slice a1 l.length cap1] 24 false []
  b10 : H'.get (H.size + 1 + 1 + 1 + 1) = .rw [.int .i64 C, .slice a2 l.length cap2] 34 false []
  s1 : Sl H' a1 l
  n1 : a1 = none → cap1 = 0
  s2 : Sl H' a2 l
theorem plan22 {ops : List Oper} {env : Nat → Value} {H : AHeap} {v x : Value} {b o : Nat} {s : Option Nat} {c : List Value} (hd : ops.map (·.dst) = [some 87, some 88, some 89, some 90, some 91, some 92, some 93, some 94, some 95, some 11]) (h6 : env 6 = .pointer (some ⟨b, o, s⟩)) (hb : cellsOf (H.get b) = some (v :: c)) (h3 : env 3 = x) :
    tabA.plan ops env H = some [(5, .rw [v] 3 false []), (7, .rw [x] 3 false [])] := by
  show planA ops env H = _
  unfold planA
  rw [if_neg (by rw [hd]; decide), if_pos hd, h6]
  simp only [hb,h3]
theorem plan_no {ops : List Oper} {env : Nat → Value} {H : AHeap} (h1 : ops.map (·.dst) ≠ [some 22, some 23, some 24, some 25, some 9, some 10, none, none]) (h2 : ops.map (·.dst) ≠ [some 87, some 88, some 89, some 90, some 91, some 92, some 93, some 94, some 95, some 11]) : tabA.plan ops env H = none := by
  show planA ops env H = _
  unfold planA
  rw [if_neg h1, if_neg h2]
theorem arrive_ge {s : Str} {b : Bool} {ld m : Int} (h0 : 0 ≤ m) (hh : 0 ≤ s.hi) (ht : 1 ≤ takes s b ld) : -1 ≤ arriveL s b ld m := by
  unfold arriveL
  cases meetsL s b ld m <;> simp only [cond_true,cond_false] <;> split <;> omega
set_option maxHeartbeats 1000000 in
theorem c3tail {a a1 a2 : Option Addr} {cap cap1 cap2 : Nat} {l : List Str} {C w ld li m : Int} {b : Bool} {e : VT} {H' : AHeap} (hs : Sl H a l) (hok : ∀ s ∈ l, s.Ok) (hl : l.length ≤ 18) (I : Laid H a cap l C w ld li m b e H' a1 cap1 a2 cap2) :
    W tabA Try.prog (N + 900) none (cdrop 11 (codeOf Try.f3.body)) H.size ⟨130, e, H', []⟩ (retK tabA H.size [.tmp 8] fun u _ => u = .bool true) := by
  have g3 := I.g3
  have g4 := I.g4
  have g5 := I.g5
  have g6 := I.g6
  have g9 := I.g9
  have g10 := I.g10
  have sz := I.sz
  have b4 := I.b4
  have b5 := I.b5
  have b6 := I.b6
  have b9 := I.b9
  have b10 := I.b10
  simp only [Try.f3,codeOf,cdrop]
  have h25 := fun (H'' : AHeap) (f : Fr H' H'') (N : Nat) => c25 (N := N) (C := C) (w := w) (ld := ld) (li := li) (m := m) (cap := cap1) (b := b) (I.s1.fr f) hl
  simp only [legV] at h25
  simp (disch := (first | (simp only [ne_eq,Nat.reduceEqDiff,not_false_eq_true,Nat.reduceLT]; done) | omega | (simp only [zde,zdf,zdg] <;> omega) | fail)) only [↓zag,↓zaj,↓zal,↓zan,↓zat,↓zax,zay,zaz,zba,zbo,zbs,zbt,zbw,zbx,zcn,zco,zcp,zcq,List.nil_append,List.append_nil,zdh,zdk,zkn,zko,zkp,g3,g5,g6,g9,b5,b6,b9]
  rw [h25 _ (by (repeat (first | exact Fr.refl _ | assumption | refine Fr.allocd ?_ _ | refine Fr.kill ?_ (by first | assumption | omega) | refine Fr.put ?_ (by first | omega | (simp only [zde,zdf,zdg] <;> omega)) _)))]
  simp (disch := (first | (simp only [ne_eq,Nat.reduceEqDiff,not_false_eq_true,Nat.reduceLT]; done) | omega | (simp only [zde,zdf,zdg] <;> omega) | fail)) only [↓zag,↓zaj,↓zak,↓zal,↓zan,↓zao,↓zav,zay,zba,zbe,zbq,zbs,zbu,zbw,zbx,zcm,List.getElem?_cons_zero,List.getElem?_cons_succ]
  refine W_drawR (pl := [(5, .rw [.int .i64 li] 3 false []), (7, .rw [.int .i64 m] 3 false [])]) [] [] (plan22 (c := [.bool b]) (b := H.size + 1 + 1) (o := 0) (s := none) rfl (by simp (disch := (first | (simp only [ne_eq,Nat.reduceEqDiff,not_false_eq_true,Nat.reduceLT]; done) | omega | (simp only [zde,zdf,zdg] <;> omega) | fail)) only [zbx,g6]) (by simp (disch := (first | (simp only [ne_eq,Nat.reduceEqDiff,not_false_eq_true,Nat.reduceLT]; done) | omega | (simp only [zde,zdf,zdg] <;> omega) | fail)) only [zdh,b6]) (by simp (disch := (first | (simp only [ne_eq,Nat.reduceEqDiff,not_false_eq_true,Nat.reduceLT]; done) | omega | (simp only [zde,zdf,zdg] <;> omega) | fail)) only [zbx,g3])) (by kernel_rfl) (by kernel_rfl) (by kernel_rfl) (by (first | omega | (simp only [zde,zdf,zdg] <;> omega))) ?_
  have h26 := fun (H'' : AHeap) (f : Fr H' H'') (N b₁ b₂ : Nat) (k₁ : b₁ < H''.size) (h₁ : cellsOf (H''.get b₁) = some [.int .i64 li]) (k₂ : b₂ < H''.size) (h₂ : cellsOf (H''.get b₂) = some [.int .i64 m]) => c26q (N := N) (C := C) (w := w) (ld := ld) (li := li) (m := m) (cap := cap2) (I.s2.fr f) hl k₁ h₁ k₂ h₂
  simp (disch := (first | (simp only [ne_eq,Nat.reduceEqDiff,not_false_eq_true,Nat.reduceLT]; done) | omega | (simp only [zde,zdf,zdg] <;> omega) | fail)) only [↓zan,↓zas,↓zat,↓zax,zay,zaz,zba,zbo,zbw,zbx,zcm,zcn,zco,zcp,zcq,Nat.le_refl,cond_true,Nat.zero_add,Nat.reduceAdd,Nat.reduceBEq,Nat.reduceEqDiff,List.nil_append,List.append_nil,zda,zdb,zde,zdh,zdj,zdk,zdt,zee,List.take_zero,List.drop_succ_cons,List.drop_nil,decide_true,decide_false,Bool.and_self,List.length_cons,List.length_nil,zep,zeq,zer,zes,zet,zeu,zev,zfa,zfb,zfe,zff,zfg,Bool.or_true,Bool.or_false,List.getElem?_cons_zero,zfs,zfv,zgc,zgj,zgk,zgm,zgn,zgo,zgp,List.map_cons,List.map_nil,zhb,zhc,zhd,zhe,zhf,zhg,zhh,zhi,↓zhm,if_true,if_false,Nat.add_zero,Nat.mul_one,ziz,zko,zkq,zks,g3,g5,g6,g10,b5,b6,b10,c27,newK_row st_brS_52_1,maskE_nilSlice]
  rw [h26 _ (by (repeat (first | exact Fr.refl _ | assumption | refine Fr.allocd ?_ _ | refine Fr.kill ?_ (by first | assumption | omega) | refine Fr.put ?_ (by first | omega | (simp only [zde,zdf,zdg] <;> omega)) _))) _ _ _ (by (first | omega | (simp only [zde] <;> omega))) (by simp (disch := (first | (simp only [ne_eq,Nat.reduceEqDiff,not_false_eq_true,Nat.reduceLT]; done) | omega | (simp only [zde,zdf,zdg] <;> omega) | fail)) only [zda,zdb,zdh]) (by (first | omega | (simp only [zde] <;> omega))) (by simp (disch := (first | (simp only [ne_eq,Nat.reduceEqDiff,not_false_eq_true,Nat.reduceLT]; done) | omega | (simp only [zde,zdf,zdg] <;> omega) | fail)) only [zda,zdh])]
  simp (disch := (first | (simp only [ne_eq,Nat.reduceEqDiff,not_false_eq_true,Nat.reduceLT]; done) | omega | (simp only [zde,zdf,zdg] <;> omega) | fail)) only [↓zag,↓zai,↓zaj,↓zak,↓zal,↓zan,↓zao,↓zas,↓zat,↓zaw,↓zax,zay,zaz,zba,zbe,zbh,zbo,zbs,zbu,zbw,zbx,zcg,zcm,zcn,zco,zcp,zcq,Nat.le_refl,cond_true,Nat.zero_add,Nat.reduceAdd,Nat.reduceBEq,Nat.reduceEqDiff,Nat.reduceLeDiff,List.nil_append,List.append_nil,zda,zdb,zde,zdh,zdj,zdk,zdt,zee,List.take_zero,List.drop_succ_cons,List.drop_nil,decide_true,decide_false,Bool.and_self,List.length_cons,List.length_nil,zep,zeq,zer,zes,zet,zeu,zev,zfa,zfb,zfe,zff,zfg,zfp,Bool.or_true,Bool.or_false,and_true,true_and,List.getElem?_cons_zero,zft,zgm,zgn,zhb,zhc,zhd,zhe,zhf,zhg,zhh,zhi,↓zhl,↓zhm,zho,zhr,zhs,zht,zhu,zhv,zhw,if_true,if_false,Nat.add_zero,zhz,zia,Nat.mul_one,ziz,zko,zkq,zks,g3,g5,g6,g10,b5,b6,b10,c27,newK_row st_brS_52_1,maskE_nilSlice]
  rw [h26 _ (by (repeat (first | exact Fr.refl _ | assumption | refine Fr.allocd ?_ _ | refine Fr.kill ?_ (by first | assumption | omega) | refine Fr.put ?_ (by first | omega | (simp only [zde,zdf,zdg] <;> omega)) _))) _ _ _ (by (first | omega | (simp only [zde] <;> omega))) (by simp (disch := (first | (simp only [ne_eq,Nat.reduceEqDiff,not_false_eq_true,Nat.reduceLT]; done) | omega | (simp only [zde,zdf,zdg] <;> omega) | fail)) only [zda,zdb,zdh]) (by (first | omega | (simp only [zde] <;> omega))) (by simp (disch := (first | (simp only [ne_eq,Nat.reduceEqDiff,not_false_eq_true,Nat.reduceLT]; done) | omega | (simp only [zde,zdf,zdg] <;> omega) | fail)) only [zda,zdh])]
  have h30 := fun (H'' : AHeap) (f : Fr H' H'') (N : Nat) => c30 (N := N) (C := C) (cap := cap1) (cap' := cap) (I.s1.fr f) ((hs.fr I.fr).fr f) hl hok
  simp (disch := (first | (simp only [ne_eq,Nat.reduceEqDiff,not_false_eq_true,Nat.reduceLT]; done) | omega | (simp only [zde,zdf,zdg] <;> omega) | fail)) only [zba,zcm,Nat.reduceLeDiff,zde,and_true,true_and]
  by_cases h0 : asked C l w ld [] [li] [m] = 0
  rotate_left
  · have h0' : decide (asked C l w ld [] [li] [m] = 0) = false := by simpa using h0
    have hpv : passV C l w ld li b m = (0, asked C l w ld [] [li] [m]) := by
      unfold passV
      rw [if_pos h0]
    simp (disch := (first | (simp only [ne_eq,Nat.reduceEqDiff,not_false_eq_true,Nat.reduceLT]; done) | omega | (simp only [zde,zdf,zdg] <;> omega) | fail)) only [↓zac,↓zag,↓zaj,↓zal,↓zam,↓zan,↓zap,↓zat,↓zaw,↓zax,zay,zaz,zba,zbb,zbc,zbe,zbi,zbj,zbl,zbm,zbn,zbo,zbs,zbt,zbv,zbw,zbx,zcg,zcn,zco,zcp,zcq,cond_true,List.nil_append,List.append_nil,zdb,zde,zdh,zdk,decide_true,zfp,zhh,zhi,zhz,zkn,h0',hpv,g4,g9,b4,b9]
    rw [h30 _ (by (repeat (first | exact Fr.refl _ | assumption | refine Fr.allocd ?_ _ | refine Fr.kill ?_ (by first | assumption | omega) | refine Fr.put ?_ (by first | omega | (simp only [zde,zdf,zdg] <;> omega)) _)))]
    simp (disch := (first | (simp only [ne_eq,Nat.reduceEqDiff,not_false_eq_true,Nat.reduceLT]; done) | omega | (simp only [zde,zdf,zdg] <;> omega) | fail)) only [↓zaf,↓zak,↓zal,↓zam,↓zan,↓zao,↓zap,↓zax,zay,zaz,zba,zbb,zbe,zbi,zbj,zbl,zbm,zbn,zbs,zbt,zbv,zbw,zbx,zcm,zcn,zco,zcr,zcu,cond_true,List.nil_append,List.append_nil,zde,awake_r]
  have h0' : decide (asked C l w ld [] [li] [m] = 0) = true := by simpa using h0
  obtain ⟨hc, hw, hd, -, hli, hm⟩ := asked_ok h0
  have hli := hli li (by simp)
  have hm := hm m (by simp)
  obtain ⟨i, rfl⟩ : ∃ i : Nat, li = i := ⟨li.toNat, by omega⟩
  have hilt : i < l.length := by omega
  obtain ⟨s, hi⟩ : ∃ s, l[i]? = some s := ⟨l[i], by simp [hilt]⟩
  have hf := fit_of hc (List.mem_of_getElem? hi) hd
  have ht := hf.takes b
  have hpv : passV C l w ld i b m = if (bif mayL s b w ld then arriveL s b ld m else -1) = -1 then (0, 1) else (arriveL s b ld m, 0) := by
    unfold passV
    rw [if_neg (by simpa using h0)]
    simp only [Int.toNat_natCast,hi]
  have h28 := fun (H'' : AHeap) (f : Fr H' H'') (N : Nat) => c28 (N := N) (C := C) (w := w) (ld := ld) (m := m) (cap := cap2) (b := b) (I.s2.fr f) hi hf hm.1 hm.2
  have h29 := fun (H'' : AHeap) (f : Fr H' H'') (N : Nat) => c29 (N := N) (C := C) (w := w) (ld := ld) (cap := cap2) (b := b) (I.s2.fr f) hi
  simp only [legV] at h28 h29
  simp (disch := (first | (simp only [ne_eq,Nat.reduceEqDiff,not_false_eq_true,Nat.reduceLT]; done) | omega | (simp only [zde,zdf,zdg] <;> omega) | fail)) only [↓zag,zbb,zfp,zhh,zhi,zhz,h0']
  refine W_draw [] (plan_no (by decide +kernel) (by decide +kernel)) (by kernel_rfl) (by kernel_rfl) (by (first | omega | (simp only [zde] <;> omega))) ?_
  simp (disch := (first | (simp only [ne_eq,Nat.reduceEqDiff,not_false_eq_true,Nat.reduceLT]; done) | omega | (simp only [zde,zdf,zdg] <;> omega) | fail)) only [↓zan,↓zat,↓zax,zay,zaz,zba,zbo,zbw,zbx,zcm,zcn,zco,zcp,zcq,cond_true,Nat.reduceAdd,Nat.reduceEqDiff,List.nil_append,List.append_nil,zdb,zde,zdh,zdk,decide_true,decide_false,zfa,zfb,zfc,zfe,zff,zfg,↓zfj,Bool.or_true,Bool.or_false,zfs,zfv,zgk,zgm,zgn,zgo,zgp,zko,zkp,zks,g3,g5,g6,g10,b5,b6,b10,c27]
  rw [h28 _ (by (repeat (first | exact Fr.refl _ | assumption | refine Fr.allocd ?_ _ | refine Fr.kill ?_ (by first | assumption | omega) | refine Fr.put ?_ (by first | omega | (simp only [zde,zdf,zdg] <;> omega)) _)))]
  simp (disch := (first | (simp only [ne_eq,Nat.reduceEqDiff,not_false_eq_true,Nat.reduceLT]; done) | omega | (simp only [zde,zdf,zdg] <;> omega) | fail)) only [↓zag,↓zan,↓zao,↓zat,↓zax,zay,zaz,zba,zbe,zbo,zbw,zbx,zcm,zcn,zco,zcp,zcq,cond_true,Nat.reduceAdd,Nat.reduceEqDiff,Nat.reduceLeDiff,List.nil_append,List.append_nil,zdb,zde,zdh,zdk,decide_true,decide_false,Bool.and_self,zfa,zfb,zfc,zfe,zff,zfg,↓zfi,↓zfj,zfl,zfm,zfn,zfo,zfp,zfr,Bool.or_true,Bool.or_false,and_true,true_and,zft,zgm,zgn,zgs,zgt,zgv,zgw,zgz,zha,zhz,zia,zko,zkp,zks,g3,g5,g6,g10,b5,b6,b10,c27]
  rw [h28 _ (by (repeat (first | exact Fr.refl _ | assumption | refine Fr.allocd ?_ _ | refine Fr.kill ?_ (by first | assumption | omega) | refine Fr.put ?_ (by first | omega | (simp only [zde,zdf,zdg] <;> omega)) _)))]
  simp (disch := (first | (simp only [ne_eq,Nat.reduceEqDiff,not_false_eq_true,Nat.reduceLT]; done) | omega | (simp only [zde,zdf,zdg] <;> omega) | fail)) only [zba,zcm,Nat.reduceLeDiff,zde,and_true,true_and,zgs]
  have hge := arrive_ge (ld := ld) (b := b) hm.1 hf.hi.1 ht.1
  refine W_draw [] (plan_no (by decide +kernel) (by decide +kernel)) (by kernel_rfl) (by kernel_rfl) (by (first | omega | (simp only [zde] <;> omega))) ?_
  cases hneg : decide (arriveL s b ld m < 0)
  rotate_left
  · have hn1 : arriveL s b ld m = -1 := by have := of_decide_eq_true hneg; omega
    have hpv' : passV C l w ld i b m = (0, 1) := by
      rw [hpv, hn1]
      cases mayL s b w ld <;> rfl
    simp (disch := (first | (simp only [ne_eq,Nat.reduceEqDiff,not_false_eq_true,Nat.reduceLT]; done) | omega | (simp only [zde,zdf,zdg] <;> omega) | fail)) only [↓zag,↓zai,↓zaj,↓zak,↓zal,↓zam,↓zan,↓zao,↓zap,↓zat,↓zaw,↓zax,zay,zaz,zba,zbb,zbe,zbh,zbi,zbj,zbk,zbl,zbm,zbn,zbo,zbs,zbt,zbu,zbv,zbw,zbx,zcg,zci,zcn,zco,zcp,zcq,cond_true,Nat.reduceAdd,Nat.reduceEqDiff,Nat.reduceLeDiff,List.nil_append,List.append_nil,zdb,zde,zdh,zdk,decide_true,decide_false,zfa,zfc,zfd,zfe,zff,zfg,↓zfi,↓zfj,↓zfk,zfl,zfm,zfn,zfo,zfp,zfr,Bool.or_true,Bool.or_false,and_true,true_and,zfs,zgb,zgg,zgm,zgn,zgo,zgs,zgt,zhz,zia,zkn,hneg,hpv',g4,g9,b4,b9]
    rw [h30 _ (by (repeat (first | exact Fr.refl _ | assumption | refine Fr.allocd ?_ _ | refine Fr.kill ?_ (by first | assumption | omega) | refine Fr.put ?_ (by first | omega | (simp only [zde,zdf,zdg] <;> omega)) _)))]
    simp (disch := (first | (simp only [ne_eq,Nat.reduceEqDiff,not_false_eq_true,Nat.reduceLT]; done) | omega | (simp only [zde,zdf,zdg] <;> omega) | fail)) only [↓zaf,↓zak,↓zal,↓zam,↓zan,↓zao,↓zap,↓zax,zay,zaz,zba,zbb,zbe,zbi,zbj,zbl,zbm,zbn,zbs,zbt,zbv,zbw,zbx,zcm,zcn,zco,zcr,zcu,cond_true,List.nil_append,List.append_nil,zde,awake_r]
  · have hn1 : ¬ arriveL s b ld m < 0 := of_decide_eq_false hneg
    simp (disch := (first | (simp only [ne_eq,Nat.reduceEqDiff,not_false_eq_true,Nat.reduceLT]; done) | omega | (simp only [zde,zdf,zdg] <;> omega) | fail)) only [↓zan,↓zat,↓zaw,↓zax,zay,zaz,zba,zbc,zbk,zbl,zbm,zbn,zbo,zbw,zbx,zci,zcm,zcn,zco,zcp,zcq,cond_true,Nat.reduceAdd,Nat.reduceEqDiff,List.nil_append,List.append_nil,zdb,zde,zdh,zdk,decide_true,decide_false,zfa,zfb,zfc,zfe,zff,zfg,↓zfj,↓zfk,Bool.or_true,Bool.or_false,zfs,zfv,zgb,zgk,zgm,zgn,zgo,zgp,zko,zkp,zks,hneg,g5,g6,g10,b5,b6,b10,c27]
    rw [h29 _ (by (repeat (first | exact Fr.refl _ | assumption | refine Fr.allocd ?_ _ | refine Fr.kill ?_ (by first | assumption | omega) | refine Fr.put ?_ (by first | omega | (simp only [zde,zdf,zdg] <;> omega)) _)))]
    simp (disch := (first | (simp only [ne_eq,Nat.reduceEqDiff,not_false_eq_true,Nat.reduceLT]; done) | omega | (simp only [zde,zdf,zdg] <;> omega) | fail)) only [↓zai,↓zan,↓zap,↓zat,↓zaw,↓zax,zay,zaz,zba,zbc,zbd,zbe,zbh,zbi,zbk,zbl,zbm,zbn,zbo,zbs,zbw,zbx,zci,zcm,zcn,zco,zcp,zcq,cond_true,cond_false,Nat.reduceAdd,Nat.reduceEqDiff,Nat.reduceLeDiff,List.nil_append,List.append_nil,zdb,zde,zdh,zdk,decide_true,decide_false,Bool.and_self,↓zen,zeo,zfa,zfb,zfc,zfd,zfe,zff,zfg,↓zfi,↓zfj,↓zfk,zfl,zfm,zfn,zfo,zfr,Bool.or_true,Bool.or_false,and_true,true_and,zfx,zgg,zgm,zgn,zgo,zgs,zgt,zgv,zgw,zgz,zha,zhz,zia,zko,zkp,zks,hneg,g5,g6,g10,b5,b6,b10,c27]
    rw [h29 _ (by (repeat (first | exact Fr.refl _ | assumption | refine Fr.allocd ?_ _ | refine Fr.kill ?_ (by first | assumption | omega) | refine Fr.put ?_ (by first | omega | (simp only [zde,zdf,zdg] <;> omega)) _)))]
    simp (disch := (first | (simp only [ne_eq,Nat.reduceEqDiff,not_false_eq_true,Nat.reduceLT]; done) | omega | (simp only [zde,zdf,zdg] <;> omega) | fail)) only [zba,zcm,Nat.reduceLeDiff,zde,and_true,true_and,zgt]
    have hcc : ∀ x : Int, decide (x = x) = true := fun x => by simp
    cases hmy : mayL s b w ld
    · have hpv' : passV C l w ld i b m = (0, 1) := by
        rw [hpv, hmy]; rfl
      simp (disch := (first | (simp only [ne_eq,Nat.reduceEqDiff,not_false_eq_true,Nat.reduceLT]; done) | omega | (simp only [zde,zdf,zdg] <;> omega) | fail)) only [↓zag,↓zaj,↓zak,↓zal,↓zam,↓zan,↓zao,↓zap,↓zat,↓zaw,↓zax,zay,zaz,zba,zbb,zbc,zbe,zbi,zbj,zbl,zbm,zbn,zbo,zbs,zbt,zbu,zbv,zbw,zbx,zcg,zcn,zco,zcp,zcq,cond_true,List.nil_append,List.append_nil,zdb,zde,zdh,zdk,decide_true,zfp,Bool.not_false,zhz,zkn,hpv',g4,g9,b4,b9]
      rw [h30 _ (by (repeat (first | exact Fr.refl _ | assumption | refine Fr.allocd ?_ _ | refine Fr.kill ?_ (by first | assumption | omega) | refine Fr.put ?_ (by first | omega | (simp only [zde,zdf,zdg] <;> omega)) _)))]
      simp (disch := (first | (simp only [ne_eq,Nat.reduceEqDiff,not_false_eq_true,Nat.reduceLT]; done) | omega | (simp only [zde,zdf,zdg] <;> omega) | fail)) only [↓zaf,↓zak,↓zal,↓zam,↓zan,↓zao,↓zap,↓zax,zay,zaz,zba,zbb,zbe,zbi,zbj,zbl,zbm,zbn,zbs,zbt,zbv,zbw,zbx,zcm,zcn,zco,zcr,zcu,cond_true,List.nil_append,List.append_nil,zde,Bool.not_false,awake_r]
    · have hpv' : passV C l w ld i b m = (arriveL s b ld m, 0) := by
        rw [hpv, hmy, cond_true, if_neg (by omega)]
      have ha0 : asked C l w ld [] [(i : Int)] [m] = 0 := h0
      simp (disch := (first | (simp only [ne_eq,Nat.reduceEqDiff,not_false_eq_true,Nat.reduceLT]; done) | omega | (simp only [zde,zdf,zdg] <;> omega) | fail)) only [↓zac,↓zag,↓zaj,↓zal,↓zam,↓zan,↓zap,↓zat,↓zaw,↓zax,zay,zaz,zba,zbb,zbe,zbi,zbj,zbl,zbm,zbn,zbo,zbs,zbt,zbv,zbw,zbx,zcg,zcn,zco,zcp,zcq,cond_true,List.nil_append,List.append_nil,zdb,zde,zdh,zdk,decide_true,zfp,Bool.not_true,zhz,zkn,hpv',ha0,g4,g9,b4,b9]
      rw [h30 _ (by (repeat (first | exact Fr.refl _ | assumption | refine Fr.allocd ?_ _ | refine Fr.kill ?_ (by first | assumption | omega) | refine Fr.put ?_ (by first | omega | (simp only [zde,zdf,zdg] <;> omega)) _)))]
      simp (disch := (first | (simp only [ne_eq,Nat.reduceEqDiff,not_false_eq_true,Nat.reduceLT]; done) | omega | (simp only [zde,zdf,zdg] <;> omega) | fail)) only [↓zaf,↓zak,↓zal,↓zam,↓zan,↓zao,↓zap,↓zax,zay,zaz,zba,zbb,zbe,zbi,zbj,zbl,zbm,zbn,zbs,zbt,zbv,zbw,zbx,zcm,zcn,zco,zcr,zcu,cond_true,List.nil_append,List.append_nil,zde,Bool.not_true,awake_r]
end Go.Am
