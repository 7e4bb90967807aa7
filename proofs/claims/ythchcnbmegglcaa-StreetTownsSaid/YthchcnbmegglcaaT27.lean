/- The law StreetTowns. -/
import Derived.Test.YthchcnbmegglcaaT26
import Derived.Carry
import Derived.ChangeArms
import Derived.Lib.SmallJoins
import Derived.WideKeyArgs
set_option linter.unusedSimpArgs false
set_option linter.unusedVariables false
namespace Go.Am
open Go.Proofs
variable {T : Tab} {P : Program} {N L : Nat} {H : AHeap} {Q : Bool → Value → AHeap → Prop}

def cutK (n : Nat) (ds : List Nat) (I : VT → AHeap → Prop) (x : Exit) (s : ES) : Prop := match x with
  | .normal => s.n = n ∧ s.ds = ds ∧ I s.e s.H
  | _ => False
theorem cutK_normal {n : Nat} {e : VT} {ds : List Nat} {I : VT → AHeap → Prop} : cutK n ds I .normal ⟨n, e, H, ds⟩ = I e H := by simp [cutK]
/-- What is told behind the first part is all that the rest may use. -/
theorem W_cutK {N N' n : Nat} {r : Option Nat} {x y : Code} {e : VT} {ds : List Nat} {Q : Exit → ES → Prop} {Q' : Exit → ES → Prop} (I : VT → AHeap → Prop) (hx : W T P N r x L ⟨n, e, H, ds⟩ (cutK n ds I)) (hy : ∀ e H, I e H → W T P N' r y L ⟨n, e, H, ds⟩ Q) :
    W T P N r x L ⟨n, e, H, ds⟩ (fun x' s' => seqK x' (W T P N' r y L s' Q) (Q' x' s')) := by
  refine W_mono hx ?_
  intro x' s' h
  cases x' with
  | normal =>
    obtain ⟨n', e', H', ds'⟩ := s'
    obtain ⟨rfl, rfl, h3⟩ := h
    exact hy e' H' h3
  | _ => exact h.elim
/-- A store into a block that has no room for a street leaves streets alone. -/
theorem Sl.put {H : AHeap} {a : Option Addr} {l : List Str} (h : Sl H a l) {k : Nat} {blk : ABlk} {c : List Value} (hk : cellsOf (H.get k) = some c) (hc : c.length < 9) : Sl (H.put k blk) a l := by
  have ne : ∀ b o s', l ≠ [] → a = some ⟨b, o, s'⟩ → b ≠ k := by
    rintro b o s' hl rfl rfl
    obtain ⟨b', o', c', h1, h2, h3, h4⟩ := h.get hl
    cases h1
    rw [hk] at h3
    cases h3
    obtain ⟨s, hs⟩ : ∃ s, l[0]? = some s := ⟨l[0]'(List.length_pos_iff.2 hl), by simp⟩
    have := (part_row (h4 0 s hs))
    have h5 := this.2
    rw [← this.1] at h5
    simp only [List.length_take,List.length_drop] at h5
    omega
  refine ⟨fun hl => ?_, fun b o s c hl ha hcc => ?_⟩
  · obtain ⟨b, o, c, h1, h2, h3, h4⟩ := h.get hl
    exact ⟨b, o, c, h1, by rw [zdf]; exact h2, by rw [zdd (ne b o none hl h1)]; exact h3, h4⟩
  · rw [zdd (ne b o s hl ha)] at hcc
    exact h.row b o s c hl ha hcc
theorem Laid.next {a a1 a2 : Option Addr} {cap cap1 cap2 : Nat} {l : List Str} {C w ld li m : Int} {b : Bool} {e e' : VT} {H' H'' : AHeap} (I : Laid H a cap l C w ld li m b e H' a1 cap1 a2 cap2) (f : Fr H' H'') (h3 : gt 130 e' 3 = gt 130 e 3) (h4 : gt 130 e' 4 = gt 130 e 4) (h5 : gt 130 e' 5 = gt 130 e 5) (h6 : gt 130 e' 6 = gt 130 e 6) (h9 : gt 130 e' 9 = gt 130 e 9) (h10 : gt 130 e' 10 = gt 130 e 10) :
    Laid H a cap l C w ld li m b e' H'' a1 cap1 a2 cap2 where
  g3 := h3.trans I.g3
  g4 := h4.trans I.g4
  g5 := h5.trans I.g5
  g6 := h6.trans I.g6
  g9 := h9.trans I.g9
  g10 := h10.trans I.g10
  fr := I.fr.trans f
  sz := Nat.lt_of_lt_of_le I.sz f.size
  b4 := (f.same _ (by have := I.sz; omega)).trans I.b4
  b5 := (f.same _ (by have := I.sz; omega)).trans I.b5
  b6 := (f.same _ (by have := I.sz; omega)).trans I.b6
  b9 := (f.same _ (by have := I.sz; omega)).trans I.b9
  b10 := (f.same _ (by have := I.sz; omega)).trans I.b10
  s1 := I.s1.fr f
  n1 := I.n1
  s2 := I.s2.fr f
set_option maxHeartbeats 1000000 in
theorem c3 {a : Option Addr} {cap : Nat} {l : List Str} {C w ld li m : Int} {b : Bool} (hs : Sl H a l) (hn : a = none → cap = 0) (hok : ∀ s ∈ l, s.Ok) :
    acall tabA (aexec tabA Try.prog (N + 1000)) 3 [.agg ⟨[.int .i64 C, .slice a l.length cap]⟩, .agg ⟨[.int .i64 w, .int .i64 ld]⟩, legV li b, .int .i64 m] H = some (true, .bool true, H, H.size) := by
  refine call_quiet (k := 130) (rs := [.tmp 8]) rfl fn_3 rfl rfl rfl ?_ rfl
  simp (disch := (first | (simp only [ne_eq,Nat.reduceEqDiff,not_false_eq_true,Nat.reduceLT]; done) | omega | (simp only [zde,zdf,zdg] <;> omega) | fail)) only [zaa,zab,↓zag,↓zai,↓zaj,↓zak,↓zal,↓zao,↓zaq,↓zat,↓zax,zay,zaz,zba,zbe,zbh,zbo,zbs,zbt,zbv,zbw,zbx,zcm,zcn,zco,zcp,zcq,Nat.le_refl,Nat.zero_add,Nat.reduceAdd,List.nil_append,List.append_nil,zda,zdb,zde,zdh,zdk,zds,Nat.le_add_right,zkn,legV,c17]
  refine ⟨fun hA => ?_, fun hA => ?_⟩
  · simp (disch := (first | (simp only [ne_eq,Nat.reduceEqDiff,not_false_eq_true,Nat.reduceLT]; done) | omega | (simp only [zde,zdf,zdg] <;> omega) | fail)) only [zaa,zab,↓zaf,↓zag,↓zaj,↓zak,↓zal,↓zao,↓zax,zay,zaz,zba,zbe,zbg,zbs,zbt,zbw,zcm,zcn,zco,zcr,zcu,Nat.zero_add,Nat.reduceAdd,List.nil_append,List.append_nil,zde,awake_r]
  have hl : l.length ≤ 18 := by simp at hA; omega
  simp (disch := (first | (simp only [ne_eq,Nat.reduceEqDiff,not_false_eq_true,Nat.reduceLT]; done) | omega | (simp only [zde,zdf,zdg] <;> omega) | fail)) only [zaa,zab,↓zac,↓zag,zba,zbe,Nat.zero_add,Nat.reduceAdd,zde]
  refine W_cutK (fun e H' => ∃ a1 cap1 a2 cap2, Laid H a cap l C w ld li m b e H' a1 cap1 a2 cap2) ?_ ?_
  · by_cases hne : l = []
    · subst hne
      refine W_drawR [6, 7] [(4, 1), (4, 2), (5, 2)] rfl (by kernel_rfl) (by kernel_rfl) (by kernel_rfl) (by (first | omega | (simp only [zde] <;> omega))) ?_
      simp (disch := (first | (simp only [ne_eq,Nat.reduceEqDiff,not_false_eq_true,Nat.reduceLT]; done) | omega | (simp only [zde,zdf,zdg] <;> omega) | fail)) only [↓zat,↓zau,↓zax,zay,zaz,zba,zbb,zbo,zbw,zbx,zby,zcm,zcn,zco,zcp,zcq,Nat.le_refl,cond_true,Nat.zero_add,Nat.reduceAdd,Nat.reduceEqDiff,Nat.reduceLeDiff,List.nil_append,List.cons_append,List.append_nil,zda,zdb,zdd,zde,zdf,zdh,zdk,zds,zdy,↓zeb,zec,zed,zee,zef,zeg,zei,List.take_zero,List.drop_succ_cons,List.drop_nil,decide_true,decide_false,Bool.and_self,List.length_cons,List.length_nil,zfa,zfb,zfe,zff,zfg,zfh,zfp,zfq,Bool.or_true,Bool.or_false,Bool.and_true,Bool.and_false,and_true,true_and,zfv,zfz,zga,zgk,zgm,zgn,zgp,zhb,zhc,zhd,zhe,zhf,zhg,zhh,zhi,↓zhj,↓zhl,↓zhm,zho,zhp,zhq,zhr,zhs,zht,zhu,zhv,zhw,if_true,if_false,zhz,zia,zie,zif,zkb,zke,zkn,c19n,c20n,intZ,cutK_normal]
      refine ⟨none, 0, none, 0, ?_, ?_, ?_, ?_, ?_, ?_, ?_, ?_, ?_, ?_, ?_, ?_, ?_, ?_, fun _ => rfl, ?_⟩
      iterate 6 simp (disch := (first | (simp only [ne_eq,Nat.reduceEqDiff,not_false_eq_true,Nat.reduceLT]; done) | omega | (simp only [zde,zdf,zdg] <;> omega) | fail)) only [zbw,zbx]
      · (repeat (first | exact Fr.refl _ | assumption | refine Fr.allocd ?_ _ | refine Fr.kill ?_ (by first | assumption | omega) | refine Fr.put ?_ (by first | omega | (simp only [zde,zdf,zdg] <;> omega)) _))
      · (first | omega | (simp only [zde,zdf] <;> omega))
      iterate 5 simp (disch := (first | (simp only [ne_eq,Nat.reduceEqDiff,not_false_eq_true,Nat.reduceLT]; done) | omega | (simp only [zde,zdf,zdg] <;> omega) | fail)) only [zda,zdb,zdc,zdd,List.length_nil]
      · exact ⟨fun h => absurd rfl h, fun _ _ _ _ h => absurd rfl h⟩
      · exact ⟨fun h => absurd rfl h, fun _ _ _ _ h => absurd rfl h⟩
    · refine W_drawR [1, 3, 6, 7] [(4, 3), (4, 4), (5, 4)] rfl (by kernel_rfl) (by kernel_rfl) (by kernel_rfl) (by (first | omega | (simp only [zde] <;> omega))) ?_
      simp (disch := (first | (simp only [ne_eq,Nat.reduceEqDiff,not_false_eq_true,Nat.reduceLT]; done) | omega | (simp only [zde,zdf,zdg] <;> omega) | fail)) only [↓zat,↓zax,zay,zaz,zba,zbo,zbw,zbx,zcn,zco,zcp,zcq,cond_true,Nat.reduceAdd,Nat.reduceEqDiff,List.nil_append,List.append_nil,zda,zdb,zde,zdh,zdk,decide_true,zfa,zfb,zfe,zff,zfg,Bool.or_false,zfv,zgk,zgm,zgn,zgp,zhc,zhd,zhe,zhf,zhg,zhh,zhi,↓zhm,if_false,zkn,intZ]
      refine c19f (hs.fr (by (repeat (first | exact Fr.refl _ | assumption | refine Fr.allocd ?_ _ | refine Fr.kill ?_ (by first | assumption | omega) | refine Fr.put ?_ (by first | omega | (simp only [zde,zdf,zdg] <;> omega)) _)))) hl hne (by (first | omega | (simp only [zde] <;> omega))) (by omega) ?_
      intro a1 cap1 H1 nw1
      have f1 := nw1.fr.size
      have s1 := nw1.fr.same
      simp only [zde] at f1
      simp (disch := (first | (simp only [ne_eq,Nat.reduceEqDiff,not_false_eq_true,Nat.reduceLT]; done) | omega | (simp only [zde,zdf,zdg] <;> omega) | fail)) only [↓zat,↓zax,zay,zaz,zba,zbo,zbw,zbx,zcn,zco,zcp,zcq,cond_true,Nat.reduceAdd,Nat.reduceEqDiff,List.nil_append,List.append_nil,zda,zdb,zde,zdh,zdk,decide_true,zfa,zfb,zfe,zff,zfg,zfh,Bool.or_false,zfv,zgk,zgm,zgn,zgp,zhc,zhd,zhe,zhf,zhg,↓zhm,if_false,zkn,s1]
      refine c20f ((hs.fr (by (repeat (first | exact Fr.refl _ | assumption | refine Fr.allocd ?_ _ | refine Fr.kill ?_ (by first | assumption | omega) | refine Fr.put ?_ (by first | omega | (simp only [zde,zdf,zdg] <;> omega)) _)))).fr nw1.fr) hl hne (by (first | omega | (simp only [zde,zdf,zdg] <;> omega))) (by omega) ?_
      intro a2 cap2 H2 fr2 sl2
      have f2 := fr2.size
      have s2 := fr2.same
      simp (disch := (first | (simp only [ne_eq,Nat.reduceEqDiff,not_false_eq_true,Nat.reduceLT]; done) | omega | (simp only [zde,zdf,zdg] <;> omega) | fail)) only [↓zat,↓zau,zay,zaz,zba,zbb,zbo,zbw,zbx,zby,Nat.le_refl,cond_true,Nat.zero_add,Nat.reduceAdd,Nat.reduceEqDiff,Nat.reduceLeDiff,List.nil_append,List.cons_append,zda,zdb,zdd,zde,zdf,zdh,zdk,zds,zdy,↓zeb,zec,zed,zee,zef,zeg,zei,List.take_zero,List.drop_succ_cons,List.drop_nil,decide_true,decide_false,Bool.and_self,List.length_cons,List.length_nil,zfa,zfe,zff,zfh,zfp,zfq,Bool.or_true,Bool.or_false,Bool.and_true,Bool.and_false,and_true,true_and,zfz,zga,zgm,zgn,zhb,zhc,zhd,zhe,zhf,zhg,zhh,zhi,↓zhj,↓zhl,↓zhm,zho,zhp,zhq,zhr,zhs,zht,zhu,zhv,zhw,if_true,if_false,zhz,zia,zie,zif,zkb,zke,zkn,s1,s2,cutK_normal]
      refine ⟨a1, cap1, a2, cap2, ?_, ?_, ?_, ?_, ?_, ?_, ?_, ?_, ?_, ?_, ?_, ?_, ?_, ?_, nw1.nl, ?_⟩
      iterate 6 simp (disch := (first | (simp only [ne_eq,Nat.reduceEqDiff,not_false_eq_true,Nat.reduceLT]; done) | omega | (simp only [zde,zdf,zdg] <;> omega) | fail)) only [zbw,zbx]
      · refine Fr.put (Fr.put ?_ (by (first | omega | (simp only [zde,zdf,zdg] <;> omega))) _) (by (first | omega | (simp only [zde,zdf,zdg] <;> omega))) _
        exact ((by (repeat (first | exact Fr.refl _ | assumption | refine Fr.allocd ?_ _ | refine Fr.kill ?_ (by first | assumption | omega) | refine Fr.put ?_ (by first | omega | (simp only [zde,zdf,zdg] <;> omega)) _)) : Fr H _).trans nw1.fr).trans fr2
      · (first | omega | (simp only [zdf] <;> omega))
      iterate 5 simp (disch := (first | (simp only [ne_eq,Nat.reduceEqDiff,not_false_eq_true,Nat.reduceLT]; done) | omega | (simp only [zde,zdf,zdg] <;> omega) | fail)) only [zda,zdb,zdc,zdd,s1,s2]
      · refine Sl.put (Sl.put (nw1.sl.fr fr2) (c := [.int .i64 0, .slice none 0 0]) ?_ (by simp)) (c := [.int .i64 0, .slice none 0 0]) ?_ (by simp) <;> simp (disch := (first | (simp only [ne_eq,Nat.reduceEqDiff,not_false_eq_true,Nat.reduceLT]; done) | omega | (simp only [zde,zdf,zdg] <;> omega) | fail)) only [zda,zdb,zdd,zdh,s1,s2]
      · refine Sl.put (Sl.put sl2 (c := [.int .i64 0, .slice none 0 0]) ?_ (by simp)) (c := [.int .i64 0, .slice none 0 0]) ?_ (by simp) <;> simp (disch := (first | (simp only [ne_eq,Nat.reduceEqDiff,not_false_eq_true,Nat.reduceLT]; done) | omega | (simp only [zde,zdf,zdg] <;> omega) | fail)) only [zda,zdb,zdd,zdh,s1,s2]
  · rintro e H' ⟨a1, cap1, a2, cap2, I⟩
    have g3 := I.g3
    have g4 := I.g4
    have g5 := I.g5
    have g6 := I.g6
    have g9 := I.g9
    have g10 := I.g10
    have sz := I.sz
    have b4 := I.b4
    have b5 := I.b5
    have b6 := I.b6
    have b9 := I.b9
    have b10 := I.b10
    simp (disch := (first | (simp only [ne_eq,Nat.reduceEqDiff,not_false_eq_true,Nat.reduceLT]; done) | omega | (simp only [zde,zdf,zdg] <;> omega) | fail)) only [↓zag,↓zaj,↓zak,↓zal,↓zao,↓zat,↓zax,zay,zaz,zba,zbe,zbo,zbs,zbt,zbw,zbx,zcm,zcn,zco,zcp,zcq,List.nil_append,List.append_nil,zdh,zdk,zkn,zks,g9,g10,b9,b10,c21 (N := N + 795) I.s2]
    rw [c22 I.s1 hl]
    have hcc : ∀ x : Int, decide (x = x) = true := fun x => by simp
    have sz0 := I.fr.size
    simp (disch := (first | (simp only [ne_eq,Nat.reduceEqDiff,not_false_eq_true,Nat.reduceLT]; done) | omega | (simp only [zde,zdf,zdg] <;> omega) | fail)) only [↓zac,↓zag,↓zai,↓zaj,↓zak,↓zal,↓zan,↓zat,↓zaw,↓zax,zay,zaz,zba,zbc,zbe,zbh,zbo,zbs,zbt,zbw,zbx,zch,zcm,zcn,zco,zcp,zcq,List.nil_append,List.append_nil,zdh,zdk,decide_true,Bool.not_true,zkn,g9,b9]
    refine c23w I.s1 hl I.n1 (by (first | omega | (simp only [zde,zdf,zdg] <;> omega))) (by omega) ?_
    rintro bq v H2 (⟨hc, rfl, fr2⟩ | ⟨hc, a3, cap3, rfl, nw⟩)
    · have f2 := fr2.size
      have s2 := fr2.same
      have hc0 : decide (chk C l = 0) = false := by simpa using hc
      simp (disch := (first | (simp only [ne_eq,Nat.reduceEqDiff,not_false_eq_true,Nat.reduceLT]; done) | omega | (simp only [zde,zdf,zdg] <;> omega) | fail)) only [↓zac,↓zag,↓zah,↓zai,↓zaj,↓zak,↓zal,↓zam,↓zan,↓zao,↓zap,↓zar,↓zas,↓zat,↓zau,↓zav,↓zaw,zay,zaz,zba,zbb,zbc,zbe,zbh,zbi,zbk,zbl,zbm,zbn,zbo,zbq,zbs,zbu,zbv,zbw,zbx,zby,zcg,zch,Nat.le_refl,cond_false,Nat.zero_add,Nat.reduceAdd,List.nil_append,List.cons_append,zda,zdb,zdc,zdd,zde,zdf,zdh,zdj,zds,zdy,↓zdz,↓zeb,zec,zed,zee,zef,zeg,zei,List.take_zero,List.drop_succ_cons,List.drop_nil,decide_true,Bool.and_self,List.length_cons,List.length_nil,zer,zet,Bool.not_true,List.getElem?_cons_zero,List.getElem?_cons_succ,Nat.add_zero,zie,zif,ziv,ziw,zjb,zjc,zkb,zke,zkm,zkq,zkr,hc0,lenV_slice zio,lenV_slice ziq,A_build zim,Int.natCast_zero]
      rw [W_loop]
      simp (disch := (first | (simp only [ne_eq,Nat.reduceEqDiff,not_false_eq_true,Nat.reduceLT]; done) | omega | (simp only [zde,zdf,zdg] <;> omega) | fail)) only [↓zae,↓zag,↓zai,↓zaj,↓zak,↓zal,↓zas,↓zat,↓zaw,zay,zaz,zba,zbc,zbe,zbf,zbh,zbo,zbs,zbw,zbx,zcb,zci,Nat.zero_add,zdb,zdc,zdd,zde,zdf,zdh,zdj,decide_false,List.getElem?_cons_zero,List.getElem?_cons_succ,ziw,zkm,Int.lt_irrefl,decide_false]
      simp (disch := (first | (simp only [ne_eq,Nat.reduceEqDiff,not_false_eq_true,Nat.reduceLT]; done) | omega | (simp only [zde,zdf,zdg] <;> omega) | fail)) only [A_clear st_clS_22,zbs,zbw,zay,clK_none,zba,zde,zdf,↓zak,zby,zbe]
      refine c3tail hs hok hl (I.next ?_ ?_ ?_ ?_ ?_ ?_ ?_)
      · refine Fr.put (Fr.allocd (Fr.put (Fr.allocd fr2 _) (by omega) _) _) (by omega) _
      all_goals simp (disch := (first | (simp only [ne_eq,Nat.reduceEqDiff,not_false_eq_true,Nat.reduceLT]; done) | omega | (simp only [zde,zdf,zdg] <;> omega) | fail)) only [zbx]
    · have f2 := nw.fr.size
      have s2 := nw.fr.same
      have hc0 : decide (chk C l = 0) = true := by simpa using hc
      have hlm : (l.map mir).length = l.length := List.length_map ..
      simp (disch := (first | (simp only [ne_eq,Nat.reduceEqDiff,not_false_eq_true,Nat.reduceLT]; done) | omega | (simp only [zde,zdf,zdg] <;> omega) | fail)) only [↓zag,↓zai,↓zaj,↓zak,↓zal,↓zan,↓zao,↓zar,↓zat,↓zau,↓zav,↓zaw,↓zax,zay,zaz,zba,zbb,zbe,zbh,zbo,zbq,zbs,zbt,zbu,zbw,zbx,zby,zcg,zcn,zco,zcp,zcq,Nat.le_refl,Nat.zero_add,Nat.reduceAdd,List.nil_append,List.cons_append,List.append_nil,zda,zdb,zdd,zde,zdf,zdh,zdk,zds,zdy,↓zeb,zec,zed,zee,zef,zeg,zei,List.take_zero,List.drop_succ_cons,List.drop_nil,decide_true,Bool.and_self,List.length_cons,List.length_nil,zer,zet,List.getElem?_cons_zero,List.getElem?_cons_succ,zie,zif,zkb,zke,zks,g10,b10,s2,hc,A_build zim]
      have hb2 := (chk_ok hc).2.2.2
      refine c24 (I.s2.fr (by refine Fr.put (Fr.allocd (Fr.put (Fr.allocd nw.fr _) (by omega) _) _) (by omega) _)) hl hb2 (by (first | omega | (simp only [zde,zdf] <;> omega))) (by omega) ?_
      intro bq4 a4 cap4 H3 fr3 sl4
      have f3 := fr3.size
      have s3 := fr3.same
      simp only [zde,zdf] at f3
      simp (disch := (first | (simp only [ne_eq,Nat.reduceEqDiff,not_false_eq_true,Nat.reduceLT]; done) | omega | (simp only [zde,zdf,zdg] <;> omega) | fail)) only [↓zac,↓zag,↓zah,↓zai,↓zaj,↓zak,↓zal,↓zam,↓zan,↓zap,↓zas,↓zat,↓zau,↓zaw,zay,zaz,zba,zbb,zbc,zbe,zbh,zbi,zbk,zbl,zbm,zbn,zbo,zbs,zbu,zbv,zbw,zbx,zby,zch,Nat.le_refl,cond_false,Nat.zero_add,Nat.reduceAdd,List.nil_append,List.cons_append,zdb,zdc,zdd,zde,zdf,zdh,zdj,zds,zdy,↓zdz,↓zeb,zec,zed,zee,zef,zeg,zei,List.take_zero,List.drop_succ_cons,List.drop_nil,decide_true,Bool.and_self,List.length_cons,List.length_nil,Bool.not_true,List.getElem?_cons_zero,List.getElem?_cons_succ,Nat.add_zero,ziv,ziw,zjb,zjc,zke,zkm,zkq,zkr,s3,hc,lenV_slice zio,lenV_slice ziq]
      refine W_while (n := 130) 90 (fun k e' H' => ∃ i : Nat, k = l.length - i ∧ i ≤ l.length ∧ gt 130 e' 64 = .int .i64 (i : Nat) ∧ gt 130 e' 63 = .int .i64 l.length ∧ gt 130 e' 62 = .slice a3 l.length cap3 ∧ gt 130 e' 14 = .pointer (some ⟨H2.size + 1, 0, none⟩) ∧ gt 130 e' 12 = .pointer (some ⟨H2.size, 0, none⟩) ∧
        (gt 130 e' 3 = gt 130 e 3 ∧ gt 130 e' 4 = gt 130 e 4 ∧ gt 130 e' 5 = gt 130 e 5 ∧ gt 130 e' 6 = gt 130 e 6 ∧ gt 130 e' 9 = gt 130 e 9 ∧ gt 130 e' 10 = gt 130 e 10) ∧ Fr (H3.put (H2.size + 1) (.rw [.int .i64 C, .slice a4 l.length cap4] 34 false [])) H')
        ?_ 18 l.length ⟨0, by omega, by omega, by simp (disch := (first | (simp only [ne_eq,Nat.reduceEqDiff,not_false_eq_true,Nat.reduceLT]; done) | omega | (simp only [zde,zdf,zdg] <;> omega) | fail)) only [zbw]; rfl, by simp (disch := (first | (simp only [ne_eq,Nat.reduceEqDiff,not_false_eq_true,Nat.reduceLT]; done) | omega | (simp only [zde,zdf,zdg] <;> omega) | fail)) only [zbw,zbx], by simp (disch := (first | (simp only [ne_eq,Nat.reduceEqDiff,not_false_eq_true,Nat.reduceLT]; done) | omega | (simp only [zde,zdf,zdg] <;> omega) | fail)) only [zbw,zbx], by simp (disch := (first | (simp only [ne_eq,Nat.reduceEqDiff,not_false_eq_true,Nat.reduceLT]; done) | omega | (simp only [zde,zdf,zdg] <;> omega) | fail)) only [zbw,zbx], by simp (disch := (first | (simp only [ne_eq,Nat.reduceEqDiff,not_false_eq_true,Nat.reduceLT]; done) | omega | (simp only [zde,zdf,zdg] <;> omega) | fail)) only [zbw,zbx], by refine ⟨?_, ?_, ?_, ?_, ?_, ?_⟩ <;> simp (disch := (first | (simp only [ne_eq,Nat.reduceEqDiff,not_false_eq_true,Nat.reduceLT]; done) | omega | (simp only [zde,zdf,zdg] <;> omega) | fail)) only [zbx], Fr.refl _⟩ (by omega) (by omega)
      have frM : Fr H2 (H3.put (H2.size + 1) (.rw [.int .i64 C, .slice a4 l.length cap4] 34 false [])) := by
        refine Fr.put (Fr.trans ?_ fr3) (by omega) _
        refine Fr.put (Fr.allocd (Fr.put (Fr.allocd (Fr.refl _) _) (by omega) _) _) (by omega) _
      have slM : Sl (H3.put (H2.size + 1) (.rw [.int .i64 C, .slice a4 l.length cap4] 34 false [])) a4 (l.map mir) := Sl.put sl4 (c := [.int .i64 0, .slice none 0 0]) (by simp (disch := (first | (simp only [ne_eq,Nat.reduceEqDiff,not_false_eq_true,Nat.reduceLT]; done) | omega | (simp only [zde,zdf,zdg] <;> omega) | fail)) only [zdc,zdh,s3]) (by simp)
      have szM : H2.size + 1 < (H3.put (H2.size + 1) (.rw [.int .i64 C, .slice a4 l.length cap4] 34 false []) : AHeap).size := by (first | omega | (simp only [zdf] <;> omega))
      have getM : (H3.put (H2.size + 1) (.rw [.int .i64 C, .slice a4 l.length cap4] 34 false []) : AHeap).get (H2.size + 1) = .rw [.int .i64 C, .slice a4 l.length cap4] 34 false [] := zdc (by omega)
      have getM' : (H3.put (H2.size + 1) (.rw [.int .i64 C, .slice a4 l.length cap4] 34 false []) : AHeap).get H2.size = .rw [.int .i64 C, .slice a3 l.length cap3] 24 false [] := by
        simp (disch := (first | (simp only [ne_eq,Nat.reduceEqDiff,not_false_eq_true,Nat.reduceLT]; done) | omega | (simp only [zde,zdf,zdg] <;> omega) | fail)) only [zdb,zdc,zdd,s3]
      generalize (H3.put (H2.size + 1) (.rw [.int .i64 C, .slice a4 l.length cap4] 34 false [])) = HM at frM slM szM getM getM' ⊢
      rintro M k e' H' ⟨i, rfl, hi, g64, g63, g62, g14, g12, hgs, fr⟩
      have f0 := fr.size
      have fs := fr.same
      simp (disch := (first | (simp only [ne_eq,Nat.reduceEqDiff,not_false_eq_true,Nat.reduceLT]; done) | omega | (simp only [zde,zdf,zdg] <;> omega) | fail)) only [↓zag,↓zai,↓zaj,↓zak,↓zal,↓zaw,zay,zba,zbe,zbh,zbs,zbw,zci,g64,g63]
      refine ⟨fun hlt => ?_, fun hlt => ?_⟩
      · have hi' : i < l.length := by simpa using hlt
        obtain ⟨s, his⟩ : ∃ s, l[i]? = some s := ⟨l[i], by simp [hi']⟩
        have hsm := same46 (mir_ok hc (List.mem_of_getElem? his))
        have hmi : (l.map mir)[i]? = some (mir s) := by rw [List.getElem?_map, his]; rfl
        generalize mir s = s' at hsm hmi
        have hnm : l.map mir ≠ [] := fun h => by rw [h] at hmi; simp at hmi
        obtain ⟨b', o', c', rfl, hb', hc', hp'⟩ := (nw.sl.fr frM).get hnm
        obtain ⟨b'', o'', c'', rfl, hb'', hc'', hp''⟩ := slM.get hnm
        have hpi' := hp' i s' hmi
        have hpi'' := hp'' i s' hmi
        have hbv := fun (x y : Operand) => binV_neq_same (T := tabA) (x := x) (y := y) hsm
        simp only [Str.enc] at hbv
        have hw2 : w64 ((i : Int) + 1) = ((i + 1 : Nat) : Int) := by rw [w64_of (by omega)]; omega
        simp (disch := (first | (simp only [ne_eq,Nat.reduceEqDiff,not_false_eq_true,Nat.reduceLT]; done) | omega | (simp only [zde,zdf,zdg] <;> omega) | fail)) only [↓zac,↓zag,↓zah,↓zaj,↓zak,↓zal,↓zan,↓zao,↓zar,↓zat,↓zau,zay,zaz,zba,zbb,zbe,zbo,zbr,zbs,zbw,zbx,zby,Nat.le_refl,Nat.zero_add,Nat.reduceAdd,List.nil_append,List.cons_append,zda,zde,zdf,zds,zdy,zea,↓zeb,zec,zed,zee,zef,zeg,zeh,List.take_zero,List.drop_succ_cons,List.drop_nil,decide_true,Bool.and_self,List.length_cons,List.length_nil,Int.toNat_natCast,zih,zkg,zkv,g64,g62,fs,A_indexSlice zio,hc',hpi',Str.enc]
        refine W_draw [] (plan_no (by decide +kernel) (by decide +kernel)) (by kernel_rfl) (by kernel_rfl) (by (first | omega | (simp only [zde,zdf] <;> omega))) ?_
        simp (disch := (first | (simp only [ne_eq,Nat.reduceEqDiff,not_false_eq_true,Nat.reduceLT]; done) | omega | (simp only [zde,zdf,zdg] <;> omega) | fail)) only [↓zac,↓zai,↓zaj,↓zak,↓zal,↓zan,↓zas,↓zat,↓zaw,zay,zaz,zba,zbc,zbe,zbh,zbo,zbr,zbs,zbu,zbw,zbx,zbz,zcd,cond_true,Nat.zero_add,Nat.reduceAdd,Nat.reduceEqDiff,Nat.reduceLeDiff,zcw,zdb,zdc,zdd,zde,zdf,zdh,zdj,zdr,zea,decide_true,decide_false,Bool.and_self,Int.toNat_natCast,zfa,zfe,zff,zfg,↓zfi,↓zfj,zfl,zfm,zfn,zfo,zfp,zfr,Bool.or_true,Bool.or_false,and_true,true_and,List.getElem?_cons_zero,List.getElem?_cons_succ,zfs,zfv,zgb,zgc,zge,zgm,zgn,zgs,zgt,zgu,zgv,zgw,zgz,zha,zhz,zia,zjc,zkr,zkv,zkw,g64,g14,fs,getM,A_indexSlice ziq,hc'',hpi'',Str.enc,hbv,hw2]
        refine ⟨l.length - (i + 1), by omega, i + 1, rfl, by omega, ?_, ?_, ?_, ?_, ?_, ?_, ?_⟩
        · simp (disch := (first | (simp only [ne_eq,Nat.reduceEqDiff,not_false_eq_true,Nat.reduceLT]; done) | omega | (simp only [zde,zdf,zdg] <;> omega) | fail)) only [zbw]
        · simp (disch := (first | (simp only [ne_eq,Nat.reduceEqDiff,not_false_eq_true,Nat.reduceLT]; done) | omega | (simp only [zde,zdf,zdg] <;> omega) | fail)) only [zbx,g63]
        · simp (disch := (first | (simp only [ne_eq,Nat.reduceEqDiff,not_false_eq_true,Nat.reduceLT]; done) | omega | (simp only [zde,zdf,zdg] <;> omega) | fail)) only [zbx,g62]
        · simp (disch := (first | (simp only [ne_eq,Nat.reduceEqDiff,not_false_eq_true,Nat.reduceLT]; done) | omega | (simp only [zde,zdf,zdg] <;> omega) | fail)) only [zbx,g14]
        · simp (disch := (first | (simp only [ne_eq,Nat.reduceEqDiff,not_false_eq_true,Nat.reduceLT]; done) | omega | (simp only [zde,zdf,zdg] <;> omega) | fail)) only [zbx,g12]
        · simp (disch := (first | (simp only [ne_eq,Nat.reduceEqDiff,not_false_eq_true,Nat.reduceLT]; done) | omega | (simp only [zde,zdf,zdg] <;> omega) | fail)) only [zbx]
          exact hgs
        · exact (fr.allocd _).put (by omega) _
      · have hi' : ¬ i < l.length := by simpa using hlt
        have hil : i = l.length := by omega
        subst hil
        simp (disch := (first | (simp only [ne_eq,Nat.reduceEqDiff,not_false_eq_true,Nat.reduceLT]; done) | omega | (simp only [zde,zdf,zdg] <;> omega) | fail)) only [↓zae,↓zag,↓zaj,↓zal,↓zas,↓zat,zay,zaz,zba,zbe,zbf,zbo,zbs,zbw,zbx,zcb,Nat.zero_add,zcy,zdh,zdj,List.getElem?_cons_zero,List.getElem?_cons_succ,ziw,zkm,g12,fs,getM']
        obtain ⟨q3, q4, q5, q6, q9, q10⟩ := hgs
        have zc := zc_ok hl
        by_cases hne : l = []
        · have hl0 : l.length = 0 := by rw [hne]; rfl
          simp (disch := (first | (simp only [ne_eq,Nat.reduceEqDiff,not_false_eq_true,Nat.reduceLT]; done) | omega | (simp only [zde,zdf,zdg] <;> omega) | fail)) only [A_clear st_clS_22,zbs,zbw,zay,hl0,clK_none,zba,↓zak,zby,zbe]
          refine c3tail hs hok hl (I.next ?_ ?_ ?_ ?_ ?_ ?_ ?_)
          · exact (nw.fr.trans frM).trans fr
          all_goals simp (disch := (first | (simp only [ne_eq,Nat.reduceEqDiff,not_false_eq_true,Nat.reduceLT]; done) | omega | (simp only [zde,zdf,zdg] <;> omega) | fail)) only [zbx,q3,q4,q5,q6,q9,q10]
        · obtain ⟨kb, rfl, k1, k2, k3⟩ := nw.blk (by simpa using hne)
          have hpos : l.length ≠ 0 := fun h => hne (List.length_eq_zero_iff.1 h)
          have f00 := frM.size
          have hk : H'.get kb = .rw (flat (l.map mir)) 45 true [] := by rw [fr.same kb (by omega), frM.same kb k2]; exact k3
          simp (disch := (first | (simp only [ne_eq,Nat.reduceEqDiff,not_false_eq_true,Nat.reduceLT]; done) | omega | (simp only [zde,zdf,zdg] <;> omega) | fail)) only [A_clear st_clS_22,zbs,zbw,zay]
          rw [clK_row hpos hk (by rw [flat_length, hlm, zc.2.2]) zc.1 zc.2.1]
          simp (disch := (first | (simp only [ne_eq,Nat.reduceEqDiff,not_false_eq_true,Nat.reduceLT]; done) | omega | (simp only [zde,zdf,zdg] <;> omega) | fail)) only [zba,zdf,↓zak,zby,zbe]
          refine c3tail hs hok hl (I.next ?_ ?_ ?_ ?_ ?_ ?_ ?_)
          · exact Fr.put ((nw.fr.trans frM).trans fr) k1 _
          all_goals simp (disch := (first | (simp only [ne_eq,Nat.reduceEqDiff,not_false_eq_true,Nat.reduceLT]; done) | omega | (simp only [zde,zdf,zdg] <;> omega) | fail)) only [zbx,q3,q4,q5,q6,q9,q10]
end Go.Am
/- Streets as they read as data, and the heap that they make. -/
namespace Go.Am
open Go.Proofs Go.RowKit
variable {X : Type} {enc : TypeId × Value → X} {w : World} {base : Nat} {sp : Nat → Bool} {held : Bool} {n : Nat} {cs : List Value} {x : DataW X × List MemPlace}

theorem field_of {P : Program} {fs : Array Field} {xs : List (DataW X × List MemPlace)} (hlen : xs.length = fs.size) (hf : ∀ (i : Nat) (f : Field), fs[i]? = some f → DataW.trod enc P w base sp held n f.type ((cs.drop f.offset).take (P.cellsOf f.type)) = xs[i]?) (i : Nat) {f : Field} (hi : fs[i]? = some f) :
    ∃ y, DataW.trod enc P w base sp held n f.type ((cs.drop f.offset).take (P.cellsOf f.type)) = some y := by
  have hlt : i < fs.size := by
    rw [Array.getElem?_eq_some_iff] at hi
    exact hi.1
  exact ⟨xs[i]'(by omega), by rw [hf i f hi]; simp⟩
theorem read_int {c : Value} {y : DataW X × List MemPlace} (h : DataW.trod enc Try.prog w base sp held n 3 [c] = some y) : ∃ i, c = .int .i64 i ∧ okI i := by
  obtain ⟨i, h1, _, h3⟩ := DataW.trod_int Try.underlying3 h
  exact ⟨i, by simpa using h1, h3⟩
theorem read_bool {c : Value} {y : DataW X × List MemPlace} (h : DataW.trod enc Try.prog w base sp held n 4 [c] = some y) : ∃ b, c = .bool b := by
  obtain ⟨b, h1, _⟩ := DataW.trod_bool Try.underlying4 h
  exact ⟨b, by simpa using h1⟩
theorem read_span {c c' : Value} {y : DataW X × List MemPlace} (h : DataW.trod enc Try.prog w base sp held n 43 [c, c'] = some y) : ∃ i j, c = .int .i64 i ∧ c' = .int .i64 j ∧ okI i ∧ okI j := by
  obtain ⟨xs, n, _, rfl, hl, hlen, hf⟩ := DataW.trod_struct Try.underlying43 h
  obtain ⟨y0, h0⟩ := field_of hlen hf 0 rfl
  obtain ⟨y1, h1⟩ := field_of hlen hf 1 rfl
  obtain ⟨i, rfl, hi⟩ := read_int (c := c) (by simpa [cellsOf3] using h0)
  obtain ⟨j, rfl, hj⟩ := read_int (c := c') (by simpa [cellsOf3] using h1)
  exact ⟨i, j, rfl, rfl, hi, hj⟩
set_option maxRecDepth 10000 in
theorem read_str (h : DataW.trod enc Try.prog w base sp held n 45 cs = some x) : ∃ s : Str, s.Ok ∧ cs = s.enc := by
  obtain ⟨xs, n, _, rfl, hl, hlen, hf⟩ := DataW.trod_struct Try.underlying45 h
  rw [cellsOf45] at hl
  match cs, hl with
  | [c0, c1, c2, c3, c4, c5, c6, c7, c8], _ =>
    obtain ⟨y0, h0⟩ := field_of hlen hf 0 rfl
    obtain ⟨y1, h1⟩ := field_of hlen hf 1 rfl
    obtain ⟨y2, h2⟩ := field_of hlen hf 2 rfl
    obtain ⟨y3, h3⟩ := field_of hlen hf 3 rfl
    obtain ⟨y4, h4⟩ := field_of hlen hf 4 rfl
    obtain ⟨y5, h5⟩ := field_of hlen hf 5 rfl
    obtain ⟨y6, h6⟩ := field_of hlen hf 6 rfl
    obtain ⟨y7, h7⟩ := field_of hlen hf 7 rfl
    obtain ⟨i0, rfl, k0⟩ := read_int (c := c0) (by simpa [cellsOf3] using h0)
    obtain ⟨i1, rfl, k1⟩ := read_int (c := c1) (by simpa [cellsOf3] using h1)
    obtain ⟨i2, rfl, k2⟩ := read_int (c := c2) (by simpa [cellsOf3] using h2)
    obtain ⟨i3, rfl, k3⟩ := read_int (c := c3) (by simpa [cellsOf3] using h3)
    obtain ⟨i4, rfl, k4⟩ := read_int (c := c4) (by simpa [cellsOf3] using h4)
    obtain ⟨i5, rfl, k5⟩ := read_int (c := c5) (by simpa [cellsOf3] using h5)
    obtain ⟨b6, rfl⟩ := read_bool (c := c6) (by simpa [cellsOf4] using h6)
    obtain ⟨i7, i8, rfl, rfl, k7, k8⟩ := read_span (c := c7) (c' := c8) (by simpa [cellsOf43] using h7)
    exact ⟨⟨i0, i1, i2, i3, i4, i5, b6, i7, i8⟩, ⟨k0, k1, k2, k3, k4, k5, k7, k8⟩, rfl⟩
/-- Arguments read in a world that has what was there as they did. -/
theorem trodAll_stays {P : Program} (hl : laidOutB P = true) {W W' : World} {sp' : Nat → Bool} (hsame : ∀ k, k < W.heap.size → W'.heap[k]? = W.heap[k]?) : ∀ {ts : List TypeId} {vs : List Value} {ds : List (DataW X)} {ps : List MemPlace}, (∀ t ∈ ts, P.readableRec t = true ∧ t < P.types.size) →
    DataW.TrodAll enc P W 0 (fun _ => true) true ts vs ds ps → (∀ p ∈ ps, p.block < W.heap.size) → (∀ p ∈ ps, sp' p.block = true) → DataW.TrodAll enc P W' 0 sp' true ts vs ds ps
  | [], [], [], _, _, h, _, _ => h
  | t :: ts, v :: vs, d :: ds, _, ht, ⟨p, q, h1, h2, e⟩, hlt, hs => by
    subst e
    refine ⟨p, q, ?_, trodAll_stays hl hsame (fun t h => ht t (List.mem_cons_of_mem _ h)) h2 (fun x hx => hlt x (List.mem_append_right _ hx)) (fun x hx => hs x (List.mem_append_right _ hx)), rfl⟩
    refine WideElems.Trod_stays hl (ht t (by simp)).1 (ht t (by simp)).2 h1 (fun x hx => ?_) (fun x hx => hs x (List.mem_append_left _ hx))
    cases x with
    | cell b o => exact World.cell?_of_block (w := W) (hsame b (hlt _ (List.mem_append_left _ hx)))
    | map b => exact hsame b (hlt _ (List.mem_append_left _ hx))
/-- A call that changes nothing and gives a value without addresses, in any world in which its arguments stand. -/
theorem calls_below {P : Program} {f : FuncId} {args : List Value} {H : AHeap} {v : Value} (h : SCall P f args H v H H.size) (hg : gr v = true) {σ : Place} {W : World} (r : Rel σ H W) (ha : ∀ x ∈ args, okv σ x) :
    Calls P f (args.map (ren σ)).toArray W fun e w' => e = .returned v ∧ Below W.heap.size W w' := by
  refine callsIn_wide (n := 0).1 ((h Fence.wide 0 σ W free_wide r ha).mono ?_)
  rintro e w' ⟨σ', rfl, _, _, x⟩
  exact ⟨by rw [(gr_ok σ' hg).2], x.os, x.tape, x.output, x.wsize, fun b hb => x.frame b hb fun k s hk hp => absurd (r.lt k b s hp).1 (by omega)⟩
theorem enc_int : ∀ (s : Str) (j : Nat) (v : Value), s.enc[j]? = some v → gr v = true
  | s, 0, v, h | s, 1, v, h | s, 2, v, h | s, 3, v, h | s, 4, v, h | s, 5, v, h | s, 6, v, h | s, 7, v, h | s, 8, v, h => by cases h; rfl
  | s, j + 9, v, h => by cases h
theorem flat_get : ∀ (l : List Str) (i : Nat) (v : Value), (flat l)[i]? = some v → ∃ s, l[i / 9]? = some s ∧ s.enc[i % 9]? = some v
  | [], i, v, h => by simp [flat] at h
  | t :: l, i, v, h => by
    by_cases hi : i < 9
    · refine ⟨t, by rw [Nat.div_eq_of_lt hi]; rfl, ?_⟩
      rw [Nat.mod_eq_of_lt hi]
      rwa [flat, List.getElem?_append_left (by rw [enc_len]; exact hi)] at h
    · rw [flat, List.getElem?_append_right (by rw [enc_len]; omega), enc_len] at h
      obtain ⟨s, h1, h2⟩ := flat_get l (i - 9) v h
      refine ⟨s, ?_, ?_⟩
      · rw [show i / 9 = (i - 9) / 9 + 1 by omega]
        simpa using h1
      · rw [show i % 9 = (i - 9) % 9 by omega]; exact h2
/-- The place of one row that came in. -/
def rowPlace (b o : Nat) : Place := ⟨fun k => if k = 0 then some (b, o) else none, fun _ => 0⟩
def rowHeap (c : List Value) : AHeap := AHeap.alloc ⟨0, .nil⟩ (.ro c)
theorem rowHeap_get {c : List Value} : (rowHeap c).get 0 = .ro c := zda rfl
theorem rowHeap_size {c : List Value} : (rowHeap c).size = 1 := AHeap.size_alloc _ _
theorem rowRel {W : World} {b o : Nat} {c : List Value} (hb : b < W.heap.size) (hg : ∀ (i : Nat) (v : Value), c[i]? = some v → gr v = true) (hc : ∀ (i : Nat) (v : Value), c[i]? = some v → W.cell? ⟨b, o + i, none⟩ = some v) : Rel (rowPlace b o) (rowHeap c) W where
  lt k b' s h := by
    by_cases hk : k = 0
    · subst hk
      simp only [rowPlace,if_true,Option.some.injEq,Prod.mk.injEq] at h
      rw [← h.1]
      exact ⟨by rw [rowHeap_size]; omega, hb⟩
    · simp only [rowPlace,if_neg hk] at h; cases h
  holds k b' s h := by
    by_cases hk : k = 0
    · subst hk
      simp only [rowPlace,if_true,Option.some.injEq,Prod.mk.injEq] at h
      obtain ⟨rfl, rfl⟩ := h
      rw [rowHeap_get]
      intro i v hi
      exact ⟨(gr_ok _ (hg i v hi)).1, by rw [(gr_ok _ (hg i v hi)).2]; exact hc i v hi⟩
    · simp only [rowPlace,if_neg hk] at h; cases h
  excl k k' b' s s' h h' hne al hal := by
    by_cases hk : k = 0
    · subst hk
      rw [rowHeap_get] at hal
      cases hal
    · simp only [rowPlace,if_neg hk] at h; cases h
/-- A town that came in: none of its streets, or streets that lie in a row. -/
structure TownIn (W : World) (a : Option Addr) (len cap : Nat) (l : List Str) : Prop where
  hlen : len = l.length
  hcap : cap < OPEN
  ok : ∀ s ∈ l, s.Ok
  nl : a = none → cap = 0 ∧ l = []
  row : ∀ ad, a = some ad → ad.spot = none ∧ ad.block < W.heap.size ∧ ∀ i s, l[i]? = some s → ∀ j v, s.enc[j]? = some v → W.cell? ⟨ad.block, ad.off + (i * 9 + j), none⟩ = some v
theorem town_calls {W : World} {a : Option Addr} {len cap : Nat} {l : List Str} (t : TownIn W a len cap l) {f : FuncId} {C : Int} {rest : List Value} (hr : allGrV rest = true) {n : Nat}
    (h : ∀ (H : AHeap) (a' : Option Addr), Sl H a' l → (a' = none → cap = 0) → acall tabA (aexec tabA Try.prog n) f (.agg ⟨[.int .i64 C, .slice a' l.length cap]⟩ :: rest) H = some (true, .bool true, H, H.size)) :
    Calls Try.prog f (.agg ⟨[.int .i64 C, .slice a len cap]⟩ :: rest).toArray W fun e w' => e = .returned (.bool true) ∧ Below W.heap.size W w' := by
  obtain rfl := t.hlen
  cases a with
  | none =>
    obtain ⟨hc, rfl⟩ := t.nl rfl
    have h1 := call_ok tabA_fits (h ⟨0, .nil⟩ none ⟨fun h => absurd rfl h, fun _ _ _ _ h => absurd rfl h⟩ fun _ => hc)
    have hall : allGrV (.agg ⟨[.int .i64 C, .slice none 0 cap]⟩ :: rest) = true := by
      subst hc
      show (gr (.agg ⟨[.int .i64 C, .slice none 0 0]⟩) && allGrV rest) = true
      rw [hr]; rfl
    have h2 := calls_below h1 rfl (rel_nowhere _ W) fun x hx => (gr_ok nowhere (allGrV_mem hall x hx)).1
    rw [show (Value.agg ⟨[.int .i64 C, .slice none ([] : List Str).length cap]⟩ :: rest).map (ren nowhere) = Value.agg ⟨[.int .i64 C, .slice none ([] : List Str).length cap]⟩ :: rest from allGrV_ren hall] at h2
    exact h2
  | some ad =>
    obtain ⟨b, o, s⟩ := ad
    obtain ⟨hs, hb, hrow⟩ := t.row _ rfl
    simp only at hs hb hrow
    subst hs
    have hsl : Sl (rowHeap (flat l)) (some ⟨0, 0, none⟩) l := sl_flat (by rw [rowHeap_size]; omega) (by rw [rowHeap_get]; rfl)
    have h1 := call_ok tabA_fits (h (rowHeap (flat l)) (some ⟨0, 0, none⟩) hsl fun h => by cases h)
    have hR : Rel (rowPlace b o) (rowHeap (flat l)) W := rowRel hb (fun i v hi => by
      obtain ⟨s, _, h2⟩ := flat_get l i v hi
      exact enc_int s _ v h2) (fun i v hi => by
      obtain ⟨s, h1, h2⟩ := flat_get l i v hi
      have := hrow _ s h1 _ v h2
      rwa [show i / 9 * 9 + i % 9 = i by omega] at this)
    have h2 := calls_below h1 rfl hR fun x hx => by
      rcases List.mem_cons.1 hx with rfl | hx
      · simp only [okv]
        intro v hv
        simp only [Array.mem_def,List.mem_cons,List.not_mem_nil,or_false] at hv
        rcases hv with rfl | rfl
        · simp only [okv]
        · simp only [okv]
          exact ⟨trivial, rfl, fun hc => absurd t.hcap (by omega)⟩
      · exact (gr_ok _ (allGrV_mem hr x hx)).1
    have e : (Value.agg ⟨[.int .i64 C, .slice (some ⟨0, 0, none⟩) l.length cap]⟩ :: rest).map (ren (rowPlace b o)) = Value.agg ⟨[.int .i64 C, .slice (some ⟨b, o, none⟩) l.length cap]⟩ :: rest := by
      rw [List.map_cons, allGrV_ren hr]
      congr 1
      simp [ren, Place.cap, t.hcap, Place.addr, rowPlace]
    rw [e] at h2
    exact h2
end Go.Am
