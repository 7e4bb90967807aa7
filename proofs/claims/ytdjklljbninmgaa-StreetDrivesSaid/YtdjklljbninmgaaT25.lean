/- The program's Pass. -/
import Derived.Test.YtdjklljbninmgaaT24
set_option linter.unusedSimpArgs false
set_option linter.unusedVariables false
namespace Go.Am
open Go.Proofs
variable {T : Tab} {P : Program} {N L : Nat} {H : AHeap} {Q : Bool → Value → AHeap → Prop}

theorem asked_ok {C w ld : Int} {l : List Str} {cs ss ms : List Int} (h : asked C l w ld cs ss ms = 0) : chk C l = 0 ∧ off w 1 9 = false ∧ off ld 0 9 = false ∧ (∀ n ∈ cs, 0 ≤ n ∧ n ≤ C - 1) ∧ (∀ n ∈ ss, 0 ≤ n ∧ n ≤ (l.length : Int) - 1) ∧ (∀ n ∈ ms, 0 ≤ n ∧ n ≤ 240) := by
  unfold asked at h
  have any : ∀ {p : Int → Bool} {l : List Int}, ¬ l.any p = true → ∀ n ∈ l, p n = false := fun {p l} h n hn => by
    cases hp : p n with
    | false => rfl
    | true => exact absurd (List.any_eq_true.2 ⟨n, hn, hp⟩) h
  split at h
  · rename_i h1; exact absurd h h1
  · split at h
    · cases h
    · split at h
      · cases h
      · split at h
        · cases h
        · split at h
          · cases h
          · rename_i h1 h2 h3 h4 h5
            simp only [Bool.or_eq_true,not_or,Bool.not_eq_true] at h2
            exact ⟨Classical.byContradiction h1, h2.1, h2.2, fun n hn => off_iff.1 (any h3 n hn), fun n hn => off_iff.1 (any h4 n hn), fun n hn => off_iff.1 (any h5 n hn)⟩
theorem fit_of {C ld : Int} {l : List Str} {s : Str} (h : chk C l = 0) (hs : s ∈ l) (hd : off ld 0 9 = false) : Fit s ld := by
  have hb := (chk_ok h).2.2.2 s hs
  have h1 := bad2_span hb
  unfold bad2 at hb
  simp only [Bool.or_eq_false_iff] at hb
  have h2 := off_iff.1 hb.1
  have h3 := off_iff.1 hb.2.1
  have h4 := off_iff.1 hd
  refine ⟨h2, ⟨Int.mul_nonneg h3.1 h4.1, ?_⟩, h1.1, h1.2⟩
  have := Int.mul_le_mul h3.2 h4.2 h4.1 (by omega)
  omega
theorem st_brS_52_1 : brS tabA 52 1 = some (1, 3, [.int .i64 0]) := by kernel_rfl
end Go.Am
/- What the law lays for itself. -/
namespace Go.Am
open Go.Proofs
variable {T : Tab} {P : Program} {N L : Nat} {H : AHeap} {Q : Bool → Value → AHeap → Prop}

/-- What a call leaves without a change holds no address. -/
theorem acall_gr {ex : Exec} {g : FuncId} {args : List Value} {v : Value} {H' : AHeap} {m : Nat} (hm : T.memo g args H = none) (h : acall T ex g args H = some (true, v, H', m)) : gr v = true := by
  have quiet : ∀ {v' : Value} {G : AHeap} {m' : Nat}, quietV v' H G m' = some (true, v, H', m) → gr v = true := fun {v' G m'} h => by
    unfold quietV at h
    cases hq : (Nat.ble H.size m' && gr v')
    · rw [hq] at h; cases h
    · rw [hq] at h
      cases h
      simp only [Bool.and_eq_true] at hq
      exact hq.2
  have leave : ∀ {fn : Func} {s' : ES} {m' : Nat}, aleave T fn H s' m' = some (true, v, H', m) → gr v = true := fun {fn s' m'} h => by
    unfold aleave at h
    split at h
    · split at h
      · simp only [fV_eq,fNat_eq] at h
        exact quiet h
      · cases h
    · cases h
  unfold acall at h
  rw [hm] at h
  simp only at h
  unfold acall0 at h
  split at h
  · cases h
  · split at h
    · cases h
    · simp only [envK_eq,fNat_eq] at h
      split at h
      · exact leave h
      · exact leave h
      · cases h
/-- A call that gives a value with addresses, out of what is known of it for any way. -/
theorem resK_fls {ex : Exec} {g : FuncId} {args : List Value} {R : Value → AHeap → Prop} (hm : T.memo g args H = none) (h : resK (acall T ex g args H) L (fun _ v H' => R v H')) (hg : ∀ v H', R v H' → gr v = false) (hq : ∀ v H', R v H' → Q false v H') : resK (acall T ex g args H) L Q := by
  unfold resK at h ⊢
  cases ha : acall T ex g args H with
  | none => rw [ha] at h; exact h.elim
  | some p =>
    obtain ⟨b, v, H', m⟩ := p
    rw [ha] at h
    obtain ⟨h1, h2⟩ := h
    cases b
    · exact ⟨h1, hq v H' h2⟩
    · have := acall_gr hm ha
      rw [hg v H' h2] at this; cases this
/-- A place of the walk from which only what is told goes on. -/
theorem W_gen {r : Option Nat} {c : Code} {n : Nat} {e : VT} {ds : List Nat} {Q : Exit → ES → Prop} (I : VT → AHeap → Prop) (hi : I e H) (h : ∀ e H, I e H → W T P N r c L ⟨n, e, H, ds⟩ Q) : W T P N r c L ⟨n, e, H, ds⟩ Q := h e H hi

theorem maskE_nilSlice {l : List Nat} {n : Nat} {e : VT} : maskE l n e (.const (.slice none 0 0)) = some (.slice none 0 0) := nr rfl
theorem c19n {a : Option Addr} {cap : Nat} {C : Int} : acall tabA (aexec tabA Try.prog (N + 120)) 19 [.agg ⟨[.int .i64 C, .slice a 0 cap]⟩] H = some (true, .agg ⟨[.int .i64 C, .slice none 0 0]⟩, H, H.size) := by
  refine call_quiet (k := 9) (rs := [.cell 2 24]) rfl fn_19 rfl rfl rfl ?_ rfl
  simp (disch := (first | (simp only [yk,seval]; done) | omega | (simp only [yz] <;> omega) | fail)) only [↓yp,yq0,yq1,yq2,yq3,yq4,yl,ys0,ys1,seval,zed,zee,zfr,zhw]
  refine W_draw [6] rfl (by kernel_rfl) (by kernel_rfl) (by (first | omega | (simp only [yz] <;> omega))) ?_
  simp (disch := (first | (simp only [yk,seval]; done) | omega | (simp only [yz] <;> omega) | fail)) only [↓yp,yq0,yq1,yq2,yq3,yq4,yl,ys0,ys1,seval,zed,zee,zfr,zhw,c74n,A_build zil]
theorem c19f {a : Option Addr} {cap : Nat} {l : List Str} {C : Int} (hs : Sl H a l) (hl : l.length ≤ 18) (hne : l ≠ []) (hL : L ≤ H.size) {M : Nat} (hM : 120 ≤ M)
    (hq : ∀ a' cap' H', New H H' a' cap' l → Q false (.agg ⟨[.int .i64 C, .slice a' l.length cap']⟩) H') : resK (acall tabA (aexec tabA Try.prog M) 19 [.agg ⟨[.int .i64 C, .slice a l.length cap]⟩] H) L Q := by
  refine resK_fls (R := fun v H' => ∃ a' cap', v = .agg ⟨[.int .i64 C, .slice a' l.length cap']⟩ ∧ New H H' a' cap' l) rfl (c19 hs hl hL hM fun b a' cap' H' h => ⟨a', cap', rfl, h⟩) ?_ ?_
  · rintro v H' ⟨a', cap', rfl, h⟩
    cases hg : gr (.agg ⟨[.int .i64 C, .slice a' l.length cap']⟩) with
    | false => rfl
    | true => exact absurd (gr_town hg) (h.some hne)
  · rintro v H' ⟨a', cap', rfl, h⟩
    exact hq _ _ _ h
theorem c20n {a : Option Addr} {cap : Nat} {C : Int} : acall tabA (aexec tabA Try.prog (N + 120)) 20 [.agg ⟨[.int .i64 C, .slice a 0 cap]⟩] H = some (true, .agg ⟨[.int .i64 C, .slice none 0 0]⟩, H, H.size) := by
  refine call_quiet (k := 24) (rs := [.cell 2 34]) rfl fn_20 rfl rfl rfl ?_ rfl
  simp (disch := (first | (simp only [yk,seval]; done) | omega | (simp only [yz] <;> omega) | fail)) only [↓yp,yq0,yq1,yq2,yq3,yq4,yl,ys0,ys1,seval,zed,zee,zfr,zhw,A_build zim,lenV_slice zio]
  rw [W_loop]
  simp (disch := (first | (simp only [yk,seval]; done) | omega | (simp only [yz] <;> omega) | fail)) only [↓yp,yq0,yq1,yq2,yq3,yq4,yl,ys0,ys1,seval,zed,zee,zfr,zhw,Int.lt_irrefl,decide_false,Int.natCast_zero]
theorem c20f {a : Option Addr} {cap : Nat} {l : List Str} {C : Int} (hs : Sl H a l) (hl : l.length ≤ 18) (hne : l ≠ []) (hL : L ≤ H.size) {M : Nat} (hM : 120 ≤ M)
    (hq : ∀ a' cap' H', Fr H H' → Sl H' a' l → Q false (.agg ⟨[.int .i64 C, .slice a' l.length cap']⟩) H') : resK (acall tabA (aexec tabA Try.prog M) 20 [.agg ⟨[.int .i64 C, .slice a l.length cap]⟩] H) L Q := by
  refine resK_fls (R := fun v H' => ∃ a' cap', v = .agg ⟨[.int .i64 C, .slice a' l.length cap']⟩ ∧ Fr H H' ∧ Sl H' a' l) rfl (c20 hs hl hL hM fun b a' cap' H' h h' => ⟨a', cap', rfl, h, h'⟩) ?_ ?_
  · rintro v H' ⟨a', cap', rfl, h, h'⟩
    obtain ⟨b, o, c, rfl, _⟩ := h'.get hne
    rfl
  · rintro v H' ⟨a', cap', rfl, h, h'⟩
    exact hq _ _ _ h h'
/-! ### clear -/
theorem okI_of {n : Int} (h : 0 ≤ n ∧ n ≤ 1000) : okI n := by
  unfold okI Lit.wf
  simp only [Bool.and_eq_true,decide_eq_true_eq]
  have h1 : IntKind.min .i64 = -9223372036854775808 := by kernel_rfl
  have h2 : IntKind.max .i64 = 9223372036854775807 := by kernel_rfl
  rw [h1, h2]
  omega
end Go.Am
/- The end of the law StreetTowns: Pass. -/
namespace Go.Am
open Go.Proofs
variable {T : Tab} {P : Program} {N L : Nat} {H : AHeap} {Q : Bool → Value → AHeap → Prop}

theorem awake_r {ex : Exec} : acall tabA ex 18 [] H = some (true, .bool true, H, H.size) := nr rfl
end Go.Am
