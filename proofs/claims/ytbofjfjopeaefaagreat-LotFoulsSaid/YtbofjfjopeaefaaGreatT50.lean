/- The statement LotFouls: for all arguments (a store and three lists) the law gives true, and its arguments read as before. No condition. -/
import Derived.Test.YtbofjfjopeaefaaGreatT34
import Derived.Test.YtbofjfjopeaefaaGreatT49
set_option linter.unusedSimpArgs false
set_option linter.unusedVariables false
namespace Go.Am.K
open Go.Proofs Go.Deep Go.RowKit Go.ChangeShapes Go.WideShapes Go.ChangeAt
variable {X : Type} {enc : TypeId × Value → X} {W : World} {base : Nat}
theorem fouls_calls {a a' al af ai : Option Addr} {len cap len' cap' ll cl lf cf li ci : Nat} {ps : List Pk} {gs : List Gd} {lots : Int} {l fl il : List Int} (t : RowsIn pkE W a len cap ps) (t' : RowsIn gdE W a' len' cap' gs) (tl : RowsIn intE W al ll cl l) (tf : RowsIn intE W af lf cf fl) (ti : RowsIn intE W ai li ci il) {f : FuncId} {n : Nat}
  (h : ∀ (H : AHeap) (x x' xl xf xi : Option Addr), Rw pkE H x ps → Rw gdE H x' gs → Rw intE H xl l → Rw intE H xf fl → Rw intE H xi il → acall tabA (aexec tabA Tryz.prog n) f [.agg ⟨[.slice x ps.length cap, .slice x' gs.length cap', .int .i64 lots]⟩, .slice xl l.length cl, .slice xf fl.length cf, .slice xi il.length ci] H = some (true, .bool true, H, H.size)) :
  Calls Tryz.prog f [.agg ⟨[.slice a len cap, .slice a' len' cap', .int .i64 lots]⟩, .slice al ll cl, .slice af lf cf, .slice ai li ci].toArray W fun e w' => e = .returned (.bool true) ∧ Below W.heap.size W w' := by
 obtain rfl := t.hlen
 obtain rfl := t'.hlen
 obtain rfl := tl.hlen
 obtain rfl := tf.hlen
 obtain rfl := ti.hlen
 obtain ⟨rs, hrs⟩ : ∃ rs : List (Option Addr × List Value), [(ai, intE.fl il), (af, intE.fl fl), (al, intE.fl l), (a', gdE.fl gs), (a, pkE.fl ps)] = rs := ⟨_, rfl⟩
 have hz : (nHeap rs).size = 5 := by rw [nHeap_size, ← hrs]; rfl
 have g0 : (nHeap rs).get 0 = .ro (pkE.fl ps) := nHeap_get (r := (a, pkE.fl ps)) (by rw [← hrs]; rfl)
 have g1 : (nHeap rs).get 1 = .ro (gdE.fl gs) := nHeap_get (r := (a', gdE.fl gs)) (by rw [← hrs]; rfl)
 have g2 : (nHeap rs).get 2 = .ro (intE.fl l) := nHeap_get (r := (al, intE.fl l)) (by rw [← hrs]; rfl)
 have g3 : (nHeap rs).get 3 = .ro (intE.fl fl) := nHeap_get (r := (af, intE.fl fl)) (by rw [← hrs]; rfl)
 have g4 : (nHeap rs).get 4 = .ro (intE.fl il) := nHeap_get (r := (ai, intE.fl il)) (by rw [← hrs]; rfl)
 have e0 : (nPlace rs).at_ 0 = a.map fun ad => (ad.block, ad.off) := by rw [← hrs]; rfl
 have e1 : (nPlace rs).at_ 1 = a'.map fun ad => (ad.block, ad.off) := by rw [← hrs]; rfl
 have e2 : (nPlace rs).at_ 2 = al.map fun ad => (ad.block, ad.off) := by rw [← hrs]; rfl
 have e3 : (nPlace rs).at_ 3 = af.map fun ad => (ad.block, ad.off) := by rw [← hrs]; rfl
 have e4 : (nPlace rs).at_ 4 = ai.map fun ad => (ad.block, ad.off) := by rw [← hrs]; rfl
 have hR : Rel (nPlace rs) (nHeap rs) W := nRel fun r hm => by
  rw [← hrs] at hm
  simp only [List.mem_cons,List.not_mem_nil,or_false] at hm
  rcases hm with rfl | rfl | rfl | rfl | rfl
  ·exact ti.cells
  ·exact tf.cells
  ·exact tl.cells
  ·exact t'.cells
  ·exact t.cells
 have h1 := call_ok tabA_fits (h (nHeap rs) (atK 0 a) (atK 1 a') (atK 2 al) (atK 3 af) (atK 4 ai) (t.rw (by rw [hz]; omega) g0) (t'.rw (by rw [hz]; omega) g1) (tl.rw (by rw [hz]; omega) g2) (tf.rw (by rw [hz]; omega) g3) (ti.rw (by rw [hz]; omega) g4))
 have h2 := calls_below h1 rfl hR fun x hx => by
  rcases List.mem_cons.1 hx with rfl | hx
  ·simp only [okv]
   intro v hv
   simp only [Array.mem_def,List.mem_cons,List.not_mem_nil,or_false] at hv
   rcases hv with rfl | rfl | rfl
   ·exact t.okv e0
   ·exact t'.okv e1
   ·simp only [okv]
  ·rcases List.mem_cons.1 hx with rfl | hx
   ·exact tl.okv e2
   ·rcases List.mem_cons.1 hx with rfl | hx
    ·exact tf.okv e3
    ·rcases List.mem_cons.1 hx with rfl | hx
     ·exact ti.okv e4
     ·cases hx
 have e : [Value.agg ⟨[.slice (atK 0 a) ps.length cap, .slice (atK 1 a') gs.length cap', .int .i64 lots]⟩, .slice (atK 2 al) l.length cl, .slice (atK 3 af) fl.length cf, .slice (atK 4 ai) il.length ci].map (ren (nPlace rs)) = [Value.agg ⟨[.slice a ps.length cap, .slice a' gs.length cap', .int .i64 lots]⟩, .slice al l.length cl, .slice af fl.length cf, .slice ai il.length ci] := by
  rw [List.map_cons, List.map_cons, List.map_cons, List.map_cons, List.map_nil, tl.ren e2, tf.ren e3, ti.ren e4]
  congr 1
  have : ren (nPlace rs) (.agg ⟨[.slice (atK 0 a) ps.length cap, .slice (atK 1 a') gs.length cap', .int .i64 lots]⟩) = .agg ⟨[ren (nPlace rs) (.slice (atK 0 a) ps.length cap), ren (nPlace rs) (.slice (atK 1 a') gs.length cap'), .int .i64 lots]⟩ := by simp [ren]
  rw [this, t.ren e0, t'.ren e1]
 rw [e] at h2
 exact h2
end Go.Am.K
namespace Go.Proofs.YtbofjfjopeaefaaGreat.lotFouls
open Go.ChangeShapes Go.WideShapes Go.ChangeAt Go.RowKit Go.Am Go.Am.K Go.Proofs
set_option linter.unusedVariables false
theorem own : ownKnob Tryz.prog.godebug = none := by kernel_rfl
theorem laidOut : laidOutB Tryz.prog = true := by kernel_rfl
set_option maxRecDepth 100000 in
theorem lifted (os : Os) (started : os.Started) (H : Type) (enc : TypeId × Value → H) :
  ReturnsInHanded {} Tryz.checked os 3 .any (Rows.lotFoulsSpec.pre6 enc Tryz.prog Tryz.f3 Rows.lotFoulsRow.domain false) (Rows.lotFoulsSpec.post enc Tryz.prog Tryz.f3 false true false false) := by
 refine returnsInHanded_of_change (C := Tryz.checked) own started (by kernel_rfl) Tryz.func3
  (ChangeSpec.witness6 (enc := enc) (C := Tryz.checked) false ⟨#[], #[.agg #[.slice none 0 0, .slice none 0 0, .int .i64 0], .slice none 0 0, .slice none 0 0, .slice none 0 0], []⟩ 8 (by kernel_rfl) (by kernel_rfl) (by kernel_rfl) (by kernel_rfl)) ?_
 intro W base args ds gs before hval0 hW hcnd _
 have hval : ∀ (j : Nat) t v, Tryz.f3.params[j]? = some t → args[j]? = some v → Value.okWide Tryz.prog W .any base t v := hval0
 have hW' := hW
 obtain ⟨p, q, hA0, hV, rfl, hfz, hnd⟩ := hW
 have hA : DataW.TrodAll enc Tryz.prog W 0 (fun _ => true) true Tryz.f3.params.toList args.toList ds p := hA0
 rw [Tryz.params3] at hA hval
 obtain ⟨v0, v1, v2, v3, d0, d1, d2, d3, p0, p1, p2, p3, rfl, rfl, rfl, h0, h1, h2, h3⟩ := trodAll_four hA
 obtain ⟨rfl, rfl⟩ := trodVars_none hV
 obtain ⟨a, len, cap, ps, a', len', cap', gs, lots, rfl, r, r'⟩ := store_read (hval 0 25 v0 rfl rfl) h0
 obtain ⟨al, ll, cl, l, rfl, rl⟩ := ints_read (hval 1 26 v1 rfl rfl) h1
 obtain ⟨af, lf, cf, fl, rfl, rf⟩ := ints_read (hval 2 26 v2 rfl rfl) h2
 obtain ⟨ai, li, ci, il, rfl, ri⟩ := ints_read (hval 3 26 v3 rfl rfl) h3
 refine (fouls_calls r r' rl rf ri (f := 3) (lots := lots) (n := 9100) (fun H x x' xl xf xi hs hg hl hf hi => c3Z (N := 0) hs hg hl hf hi)).mono ?_
 rintro e W' ⟨rfl, hb⟩
 refine ⟨_, rfl, law_post (ps := p0 ++ p1 ++ p2 ++ p3) hW' hb (fun _ _ _ => trodAll_mk1 (shut_bool Tryz.underlying4 _)) (fun sp hs => ?_) (fun _ => rfl) (ok_one (by kernel_rfl) rfl (okWide_bool_mk Tryz.underlying4 _))⟩
 refine trodAll_stays laidOut hb.block (fun t ht => ?_) hA0 (fun p hp => hW'.lt p (List.mem_append_left _ hp)) hs
 have hall : (Tryz.f3.params.toList.all fun t => Tryz.prog.readableRec t && decide (t < Tryz.prog.types.size)) = true := by kernel_rfl
 have := List.all_eq_true.1 hall t ht
 simp only [Bool.and_eq_true,decide_eq_true_eq] at this
 exact this
theorem over : Rows.lotFoulsRow.holds Tryz.pinned (OpenSpec.ofChange Rows.lotFoulsSpec) :=
 OpenClaim.holds_of_wide 3 Tryz.f3 rfl rfl rfl rfl rfl rfl rfl ⟨rfl, rfl, rfl, rfl, rfl⟩ rfl rfl rfl rfl rfl (by kernel_rfl) Tryz.func3 (by kernel_rfl)
  (of_decide_eq_true (by kernel_rfl)) (by unfold Func.isWrapper; first | (rw [if_pos (by decide +kernel)]; kernel_rfl) | (rw [if_neg (by decide +kernel)]; exact ⟨rfl, rfl⟩))
  (fun os started H enc _ => lifted os started H enc)
theorem proved : Rows.LotFoulsSaid := over
#print axioms proved
end Go.Proofs.YtbofjfjopeaefaaGreat.lotFouls
