import Derived.Test.YtjpcaamfcfkmhaaT47
import Derived.Test.YtjpcaamfcfkmhaaT42
set_option linter.unusedSimpArgs false
set_option linter.unusedVariables false
namespace Go.Am.K
open Go.Proofs
variable {T : Tab} {P : Program} {N L : Nat} {H H' H'' : AHeap} {Q : Bool → Value → AHeap → Prop}
theorem c17K {a a' : Option Addr} {cap cap' n m M : Nat} {ps : List Pk} {gs : List Gd} {lots : Int} (hs : Rw pkE H a ps) (hgs : Rw gdE H a' gs) (hn : n = ps.length) (hm : m = gs.length) (hL : L ≤ H.size) (hM : 500 ≤ M) (hq : Q true (.int .i64 (chkS ps gs lots)) H) :
  resK (acall tabA (aexec tabA Try.prog M) 17 [.agg ⟨[.slice a n cap, .slice a' m cap', .int .i64 lots]⟩] H) L Q := by
 obtain ⟨N, rfl⟩ : ∃ N, M = N + 500 := ⟨M - 500, by omega⟩
 subst hn hm
 rw [c17 hs hgs]
 exact ⟨hL, hq⟩
theorem ap_row {α : Type} {E : Enc α} {l : List α} {ty el : TypeId} {by' b₀ c : Nat} {a : Option Addr} {c₀ : List Value} (hs : apS T ty = some (el, E.z, by')) (hx : Rw E H a l) (hne : l ≠ []) (hb : l.length * by' ≤ 140737488355328 ∧ l.length ≤ 9223372036854775807) (hc : cellsOf (H.get b₀) = some c₀) (hL : L ≤ H.size)
  (hq : Q false (.slice (some ⟨H.size, 0, none⟩) l.length (OPEN + E.z)) (H.alloc (.rw (E.fl l) el true []))) : apK T H ty (.slice (some ⟨b₀, 0, none⟩) 0 0) (.slice a l.length c) L Q := by
 obtain ⟨b, o, cc, rfl, -⟩ := hx.get hne
 rw [apK_empty hs (hx.src hne) (List.length_pos_iff.2 hne) hb.1 hb.2 (one_fl l) hc, andK_of _ hL]
 exact hq
theorem ap_any {α : Type} {E : Enc α} {l : List α} {ty el : TypeId} {by' b₀ c : Nat} {a : Option Addr} {c₀ : List Value} (hs : apS T ty = some (el, E.z, by')) (hx : Rw E H a l) (hb : l.length * by' ≤ 140737488355328 ∧ l.length ≤ 9223372036854775807) (hc : cellsOf (H.get b₀) = some c₀) (hL : L ≤ H.size)
  (hq : ∀ k c' H', Fr H H' → (k = b₀ ∨ H.size ≤ k) → Rw E H' (some ⟨k, 0, none⟩) l → Q false (.slice (some ⟨k, 0, none⟩) l.length c') H') : apK T H ty (.slice (some ⟨b₀, 0, none⟩) 0 0) (.slice a l.length c) L Q := by
 by_cases hne : l = []
 ·subst hne
  rw [List.length_nil, apK_zero hs (.inr (Nat.le_refl _)), andK_of _ hL]
  exact hq b₀ 0 H (Fr.refl _) (.inl rfl) Rw.nil
 ·refine ap_row hs hx hne hb hc hL (hq _ _ _ (Fr.alloc _ _) (.inr (Nat.le_refl _)) (Rw.of (r := []) (c := E.fl l) (by rw [size_alloc]; omega) ?_ (by rw [List.append_nil])))
  rw [get_alloc_same]; rfl
section
variable {a a' : Option Addr} {cap cap' : Nat} {ps : List Pk} {gs : List Gd} {lots n y z : Int} {i : Nat} {p : Pk}
set_option maxHeartbeats 1000000 in
theorem c21a (hs : Rw pkE H a ps) (hgs : Rw gdE H a' gs) (hl : ps.length ≤ 6) (he : askP ps gs lots n ≠ 0) :
  acall tabA (aexec tabA Try.prog (N + 700)) 21 [.agg ⟨[.slice a ps.length cap, .slice a' gs.length cap', .int .i64 lots]⟩, .int .i64 n, .int .i64 y, .int .i64 z] H = some (true, .tuple ⟨[.agg ⟨[.slice none 0 0, .slice none 0 0, .int .i64 0]⟩, .int .i64 (askP ps gs lots n)]⟩, H, H.size) := by
 refine call_quiet (k := 80) (rs := [.cell 8 32, .tmp 9]) rfl fn_21 rfl rfl rfl ?_ rfl
 have fr : Fr H ((H.alloc (.rw [.slice a ps.length cap, .slice a' gs.length cap', .int .i64 lots] 32 false [])).alloc (.rw [.slice none 0 0, .slice none 0 0, .int .i64 0] 32 false [])) := by (repeat (first | exact Fr.refl _ | assumption | refine Fr.allocd ?_ _ | refine Fr.put ?_ (by first | omega | (simp only [yz] <;> omega)) _))
 have h17 := fun (N : Nat) => c17 (N := N) (cap := cap) (cap' := cap') (lots := lots) (hs.fr fr) (hgs.fr fr)
 have h67 := fun (N : Nat) (H : AHeap) (n lo hi : Int) => c67 (N := N) (H := H) (n := n) (lo := lo) (hi := hi)
 simp only [off_wi] at h67
 have w1 : w64 ((ps.length : Int) - 1) = (ps.length : Int) - 1 := w64_of (by omega)
 unfold askP at he ⊢
 cases hA : decide (chkS ps gs lots = 0)
 ·simp (disch:=first|(simp only [yk,seval];done)|omega|(simp only [yz]<;>omega)|fail) only [↓yp,yq0,yq1,yq2,yq3,yq4,yl,ys0,ys1,seval,fitB,newC,endD,endR,yrg,h17,hA,A_build st_bdS_32]
 ·rw [hA, cond_true] at he
  cases hB : wi n 0 ((ps.length : Int) - 1)
  ·simp (disch:=first|(simp only [yk,seval];done)|omega|(simp only [yz]<;>omega)|fail) only [↓yp,yq0,yq1,yq2,yq3,yq4,yl,ys0,ys1,seval,fitB,newC,endD,endR,yrg,h17,hA,lenV_slice st_esS_29,h67,w1,hB,A_build st_bdS_32]
  ·rw [hB] at he; exact absurd rfl he
theorem askP_ok (he : askP ps gs lots n = 0) : decide (chkS ps gs lots = 0) = true ∧ wi n 0 ((ps.length : Int) - 1) = true := by
 unfold askP at he
 cases hA : decide (chkS ps gs lots = 0)
 ·rw [hA] at he; exact absurd he (of_decide_eq_false hA)
 rw [hA, cond_true] at he
 cases hB : wi n 0 ((ps.length : Int) - 1)
 ·rw [hB] at he; cases he
 ·exact ⟨rfl, rfl⟩
set_option maxHeartbeats 1000000 in
theorem c21b (hs : Rw pkE H a ps) (hgs : Rw gdE H a' gs) (hl : ps.length ≤ 6) (he : askP ps gs lots i = 0) (hp : ps[i]? = some p) (hok : p.Ok) (hyz : (wi y 0 (p.s - p.o) && wi z 0 y) = false) :
  acall tabA (aexec tabA Try.prog (N + 700)) 21 [.agg ⟨[.slice a ps.length cap, .slice a' gs.length cap', .int .i64 lots]⟩, .int .i64 (i : Nat), .int .i64 y, .int .i64 z] H = some (true, .tuple ⟨[.agg ⟨[.slice none 0 0, .slice none 0 0, .int .i64 0]⟩, .int .i64 4]⟩, H, H.size) := by
 refine call_quiet (k := 80) (rs := [.cell 8 32, .tmp 9]) rfl fn_21 rfl rfl rfl ?_ rfl
 have fr : Fr H ((H.alloc (.rw [.slice a ps.length cap, .slice a' gs.length cap', .int .i64 lots] 32 false [])).alloc (.rw [.slice none 0 0, .slice none 0 0, .int .i64 0] 32 false [])) := by (repeat (first | exact Fr.refl _ | assumption | refine Fr.allocd ?_ _ | refine Fr.put ?_ (by first | omega | (simp only [yz] <;> omega)) _))
 have h17 := fun (N : Nat) => c17 (N := N) (cap := cap) (cap' := cap') (lots := lots) (hs.fr fr) (hgs.fr fr)
 have h67 := fun (N : Nat) (H : AHeap) (n lo hi : Int) => c67 (N := N) (H := H) (n := n) (lo := lo) (hi := hi)
 simp only [off_wi] at h67
 have w1 : w64 ((ps.length : Int) - 1) = (ps.length : Int) - 1 := w64_of (by omega)
 have hi := (List.getElem?_eq_some_iff.1 hp).1
 obtain ⟨hA, hB⟩ := askP_ok he
 obtain ⟨b, o, c, rfl, hb, hc, hqq⟩ := hs.at_ hp
 have q : part c (o + i * 4) 5 = some (.agg ⟨p.enc⟩) := part_of hqq rfl
 simp only [Pk.enc] at q
 have hok' := hok
 obtain ⟨z1, z2, z3, z4⟩ := hok'
 have w2 : w64 (p.s - p.o) = p.s - p.o := w64_of (by omega)
 simp (disch:=first|(simp only [yk,seval];done)|omega|(simp only [yz]<;>omega)|fail) only [↓yp,yq0,yq1,yq2,yq3,yq4,yl,ys0,ys1,seval,fitB,newC,endD,endR,yrg,h17,hA,lenV_slice st_esS_29,h67,w1,hB,A_indexSlice st_esS_29,hc,q,w2]
 cases hY : wi y 0 (p.s - p.o)
 ·simp (disch:=first|(simp only [yk,seval];done)|omega|(simp only [yz]<;>omega)|fail) only [↓yp,yq0,yq1,yq2,yq3,yq4,yl,ys0,ys1,seval,fitB,newC,endD,endR,yrg,h67,hY,A_build st_bdS_32]
 ·rw [hY, Bool.true_and] at hyz
  simp (disch:=first|(simp only [yk,seval];done)|omega|(simp only [yz]<;>omega)|fail) only [↓yp,yq0,yq1,yq2,yq3,yq4,yl,ys0,ys1,seval,fitB,newC,endD,endR,yrg,h67,hY,hyz,A_build st_bdS_32]
set_option maxHeartbeats 4000000 in
theorem c21d (hs : Rw pkE H a ps) (hgs : Rw gdE H a' gs) (hl : ps.length ≤ 6) (hgl : gs.length ≤ 6) (he : askP ps gs lots i = 0) (hp : ps[i]? = some p) (hok : p.Ok) (hy : wi y 0 (p.s - p.o) = true) (hz : wi z 0 y = true) (hd : (opn p y z).hi < (opn p y z).f) :
  acall tabA (aexec tabA Try.prog (N + 700)) 21 [.agg ⟨[.slice a ps.length cap, .slice a' gs.length cap', .int .i64 lots]⟩, .int .i64 (i : Nat), .int .i64 y, .int .i64 z] H = some (true, .tuple ⟨[.agg ⟨[.slice none 0 0, .slice none 0 0, .int .i64 0]⟩, .int .i64 7]⟩, H, H.size) := by
 refine call_quiet (k := 80) (rs := [.cell 8 32, .tmp 9]) rfl fn_21 rfl rfl rfl ?_ rfl
 have fr : Fr H ((H.alloc (.rw [.slice a ps.length cap, .slice a' gs.length cap', .int .i64 lots] 32 false [])).alloc (.rw [.slice none 0 0, .slice none 0 0, .int .i64 0] 32 false [])) := by (repeat (first | exact Fr.refl _ | assumption | refine Fr.allocd ?_ _ | refine Fr.put ?_ (by first | omega | (simp only [yz] <;> omega)) _))
 have h17 := fun (N : Nat) => c17 (N := N) (cap := cap) (cap' := cap') (lots := lots) (hs.fr fr) (hgs.fr fr)
 have h67 := fun (N : Nat) (H : AHeap) (n lo hi : Int) => c67 (N := N) (H := H) (n := n) (lo := lo) (hi := hi)
 simp only [off_wi] at h67
 have w1 : w64 ((ps.length : Int) - 1) = (ps.length : Int) - 1 := w64_of (by omega)
 have hi := (List.getElem?_eq_some_iff.1 hp).1
 obtain ⟨hA, hB⟩ := askP_ok he
 obtain ⟨b, o, c, rfl, hb, hc, hqq⟩ := hs.at_ hp
 have q : part c (o + i * 4) 5 = some (.agg ⟨p.enc⟩) := part_of hqq rfl
 simp only [Pk.enc] at q
 have hok' := hok
 obtain ⟨z1, z2, z3, z4⟩ := hok'
 have w2 : w64 (p.s - p.o) = p.s - p.o := w64_of (by omega)
 simp (disch:=first|(simp only [yk,seval];done)|omega|(simp only [yz]<;>omega)|fail) only [↓yp,yq0,yq1,yq2,yq3,yq4,yl,ys0,ys1,seval,fitB,newC,endD,endR,yrg,h17,hA,lenV_slice st_esS_29,h67,w1,hB,A_indexSlice st_esS_29,hc,q,w2]
 have hst := chkS_ok (of_decide_eq_true hA)
 obtain ⟨ok', ob', y6, z6⟩ := opn_ok hok hy hz
 have hpne : ps ≠ [] := by rintro rfl; simp at hi
 have w3 : w64 (p.o + y) = p.o + y := w64_of (by omega)
 have w4 : w64 (p.f + z) = p.f + z := w64_of (by omega)
 have hset : newC (i * 4) (opn p y z).enc (pkE.fl ps) = pkE.fl (ps.set i (opn p y z)) := newC_fl (E := pkE) hi
 have hfit : decide (i * 4 + 4 ≤ (pkE.fl ps).length) = true := by
  rw [fl_length]
  simp only [decide_eq_true_eq]
  show i * 4 + 4 ≤ ps.length * 4
  omega
 simp only [Pk.enc,opn] at hset
 simp (disch:=first|(simp only [yk,seval];done)|omega|(simp only [yz]<;>omega)|fail) only [↓yp,yq0,yq1,yq2,yq3,yq4,yl,ys0,ys1,seval,fitB,newC,endD,endR,yrg,h67,hy,hz]
 refine W_drawR (pl := [(0, .rw [] 101 false []), (4, .rw [] 102 false []), (11, .rw [.slice none 0 0, .slice none 0 0, .int .i64 0] 32 false [])]) [3, 7, 12] [(2, 1), (2, 2), (2, 3), (6, 2), (6, 3), (9, 3), (11, 3)] (planK_of rfl) (by kernel_rfl) (by kernel_rfl) (by kernel_rfl) (by first|omega|(simp only [yz]<;>omega)) ?_
 simp (disch:=first|(simp only [yk,seval];done)|omega|(simp only [yz]<;>omega)|fail) only [↓yp,yq0,yq1,yq2,yq3,yq4,yl,ys0,ys1,seval,fitB,newC,endD,endR,yrg,newK_row st_brS_29_0]
 refine ap_row (E := pkE) (c₀ := []) st_apS_29 (hs.fr (by repeat first|exact Fr.refl _|assumption|refine Fr.allocd ?_ _|refine Fr.put ?_ (by first|omega|(simp only [yz]<;>omega)) _)) hpne ⟨by omega, by omega⟩ (by simp (disch:=first|(simp only [yk,seval];done)|omega|(simp only [yz]<;>omega)|fail) only [yg,seval]) (by first|omega|(simp only [yz]<;>omega)) ?_
 simp (disch:=first|(simp only [yk,seval];done)|omega|(simp only [yz]<;>omega)|fail) only [↓yp,yq0,yq1,yq2,yq3,yq4,yl,ys0,ys1,seval,fitB,newC,endD,endR,yrg,newK_row st_brS_30_0]
 refine ap_any (E := gdE) (c₀ := []) st_apS_30 (hgs.fr (by repeat first|exact Fr.refl _|assumption|refine Fr.allocd ?_ _|refine Fr.put ?_ (by first|omega|(simp only [yz]<;>omega)) _)) ⟨by omega, by omega⟩ (by simp (disch:=first|(simp only [yk,seval];done)|omega|(simp only [yz]<;>omega)|fail) only [yg,seval]) (by first|omega|(simp only [yz]<;>omega)) ?_
 intro kg cg H2 fr2 hkg rg
 have f2 := fr2.size
 have s2 := fr2.same
 simp only [size_alloc,size_put] at f2 s2 hkg
 have bR : H2.get (H.size + 1 + 1 + 1 + 1 + 1 + 1) = .rw (pkE.fl ps) 101 true [] := by rw [s2 _ (by omega)]; simp (disch:=first|(simp only [yk,seval];done)|omega|(simp only [yz]<;>omega)|fail) only [yg,seval]
 simp (disch:=first|(simp only [yk,seval];done)|omega|(simp only [yz]<;>omega)|fail) only [↓yp,yq0,yq1,yq2,yq3,yq4,yl,ys0,ys1,seval,fitB,newC,endD,endR,yrg,newK_row st_brS_29_0,newK_row st_brS_30_0,s2,A_build st_bdS_32]
 simp (disch:=first|(simp only [yk,seval];done)|omega|(simp only [yz]<;>omega)|fail) only [↓yp,yq0,yq1,yq2,yq3,yq4,yl,ys0,ys1,seval,fitB,newC,endD,endR,yrg,s2,w3,w4,A_build st_bdS_101,A_indexSlice st_esS_29,bR,hfit]
 refine c17K (ps := ps.set i (opn p y z)) (gs := gs) ?_ ?_ (by rw [List.length_set]) rfl (by first|omega|(simp only [yz]<;>omega)) (by omega) ?_
 ·exact Rw.of (r := []) (c := pkE.fl (ps.set i (opn p y z))) (by first|omega|(simp only [yz]<;>omega)) (by rw [get_put_same (by first|omega|(simp only [yz]<;>omega))]; exact congrArg some hset) (by rw [List.append_nil])
 ·exact Rw.put' (Rw.put' rg (by omega)) (by omega)
 rw [chk_set hst hi ob', show decide ((opn p y z).hi < (opn p y z).f) = true by simp [hd], cond_true]
 simp (disch:=first|(simp only [yk,seval];done)|omega|(simp only [yz]<;>omega)|fail) only [↓yp,yq0,yq1,yq2,yq3,yq4,yl,ys0,ys1,seval,fitB,newC,endD,endR,yrg,s2,A_build st_bdS_32]
set_option maxHeartbeats 4000000 in
theorem c21 (hs : Rw pkE H a ps) (hgs : Rw gdE H a' gs) (hl : ps.length ≤ 6) (hgl : gs.length ≤ 6) (he : askP ps gs lots i = 0) (hp : ps[i]? = some p) (hok : p.Ok) (hy : wi y 0 (p.s - p.o) = true) (hz : wi z 0 y = true) (hd : ¬ (opn p y z).hi < (opn p y z).f) (hL : L ≤ H.size) {M : Nat} (hM : 700 ≤ M)
  (hq : ∀ k c k' c' H', Fr H H' → Rw pkE H' (some ⟨k, 0, none⟩) (ps.set i (opn p y z)) → Rw gdE H' (some ⟨k', 0, none⟩) gs → Q false (.tuple ⟨[.agg ⟨[.slice (some ⟨k, 0, none⟩) ps.length c, .slice (some ⟨k', 0, none⟩) gs.length c', .int .i64 lots]⟩, .int .i64 0]⟩) H') :
  resK (acall tabA (aexec tabA Try.prog M) 21 [.agg ⟨[.slice a ps.length cap, .slice a' gs.length cap', .int .i64 lots]⟩, .int .i64 (i : Nat), .int .i64 y, .int .i64 z] H) L Q := by
 obtain ⟨N, rfl⟩ : ∃ N, M = N + 700 := ⟨M - 700, by omega⟩
 refine call_fls (R := fun v H' => ∃ k c k' c', v = .tuple ⟨[.agg ⟨[.slice (some ⟨k, 0, none⟩) ps.length c, .slice (some ⟨k', 0, none⟩) gs.length c', .int .i64 lots]⟩, .int .i64 0]⟩ ∧ Fr H H' ∧ Rw pkE H' (some ⟨k, 0, none⟩) (ps.set i (opn p y z)) ∧ Rw gdE H' (some ⟨k', 0, none⟩) gs) (k := 80) (rs := [.cell 8 32, .tmp 9]) rfl fn_21 rfl rfl rfl hL ?_ ?_ ?_
 rotate_left
 ·rintro v H' ⟨k, c, k', c', rfl, -⟩; rfl
 ·rintro v H' ⟨k, c, k', c', rfl, h1, h2, h3⟩
  exact hq _ _ _ _ _ h1 h2 h3
 have fr : Fr H ((H.alloc (.rw [.slice a ps.length cap, .slice a' gs.length cap', .int .i64 lots] 32 false [])).alloc (.rw [.slice none 0 0, .slice none 0 0, .int .i64 0] 32 false [])) := by (repeat (first | exact Fr.refl _ | assumption | refine Fr.allocd ?_ _ | refine Fr.put ?_ (by first | omega | (simp only [yz] <;> omega)) _))
 have h17 := fun (N : Nat) => c17 (N := N) (cap := cap) (cap' := cap') (lots := lots) (hs.fr fr) (hgs.fr fr)
 have h67 := fun (N : Nat) (H : AHeap) (n lo hi : Int) => c67 (N := N) (H := H) (n := n) (lo := lo) (hi := hi)
 simp only [off_wi] at h67
 have w1 : w64 ((ps.length : Int) - 1) = (ps.length : Int) - 1 := w64_of (by omega)
 have hi := (List.getElem?_eq_some_iff.1 hp).1
 obtain ⟨hA, hB⟩ := askP_ok he
 obtain ⟨b, o, c, rfl, hb, hc, hqq⟩ := hs.at_ hp
 have q : part c (o + i * 4) 5 = some (.agg ⟨p.enc⟩) := part_of hqq rfl
 simp only [Pk.enc] at q
 have hok' := hok
 obtain ⟨z1, z2, z3, z4⟩ := hok'
 have w2 : w64 (p.s - p.o) = p.s - p.o := w64_of (by omega)
 simp (disch:=first|(simp only [yk,seval];done)|omega|(simp only [yz]<;>omega)|fail) only [↓yp,yq0,yq1,yq2,yq3,yq4,yl,ys0,ys1,seval,fitB,newC,endD,endR,yrg,h17,hA,lenV_slice st_esS_29,h67,w1,hB,A_indexSlice st_esS_29,hc,q,w2]
 have hst := chkS_ok (of_decide_eq_true hA)
 obtain ⟨ok', ob', y6, z6⟩ := opn_ok hok hy hz
 have hpne : ps ≠ [] := by rintro rfl; simp at hi
 have w3 : w64 (p.o + y) = p.o + y := w64_of (by omega)
 have w4 : w64 (p.f + z) = p.f + z := w64_of (by omega)
 have hset : newC (i * 4) (opn p y z).enc (pkE.fl ps) = pkE.fl (ps.set i (opn p y z)) := newC_fl (E := pkE) hi
 have hfit : decide (i * 4 + 4 ≤ (pkE.fl ps).length) = true := by
  rw [fl_length]
  simp only [decide_eq_true_eq]
  show i * 4 + 4 ≤ ps.length * 4
  omega
 simp only [Pk.enc,opn] at hset
 simp (disch:=first|(simp only [yk,seval];done)|omega|(simp only [yz]<;>omega)|fail) only [↓yp,yq0,yq1,yq2,yq3,yq4,yl,ys0,ys1,seval,fitB,newC,endD,endR,yrg,h67,hy,hz]
 refine W_drawR (pl := [(0, .rw [] 101 false []), (4, .rw [] 102 false []), (11, .rw [.slice none 0 0, .slice none 0 0, .int .i64 0] 32 false [])]) [3, 7, 12] [(2, 1), (2, 2), (2, 3), (6, 2), (6, 3), (9, 3), (11, 3)] (planK_of rfl) (by kernel_rfl) (by kernel_rfl) (by kernel_rfl) (by first|omega|(simp only [yz]<;>omega)) ?_
 simp (disch:=first|(simp only [yk,seval];done)|omega|(simp only [yz]<;>omega)|fail) only [↓yp,yq0,yq1,yq2,yq3,yq4,yl,ys0,ys1,seval,fitB,newC,endD,endR,yrg,newK_row st_brS_29_0]
 refine ap_row (E := pkE) (c₀ := []) st_apS_29 (hs.fr (by repeat first|exact Fr.refl _|assumption|refine Fr.allocd ?_ _|refine Fr.put ?_ (by first|omega|(simp only [yz]<;>omega)) _)) hpne ⟨by omega, by omega⟩ (by simp (disch:=first|(simp only [yk,seval];done)|omega|(simp only [yz]<;>omega)|fail) only [yg,seval]) (by first|omega|(simp only [yz]<;>omega)) ?_
 simp (disch:=first|(simp only [yk,seval];done)|omega|(simp only [yz]<;>omega)|fail) only [↓yp,yq0,yq1,yq2,yq3,yq4,yl,ys0,ys1,seval,fitB,newC,endD,endR,yrg,newK_row st_brS_30_0]
 refine ap_any (E := gdE) (c₀ := []) st_apS_30 (hgs.fr (by repeat first|exact Fr.refl _|assumption|refine Fr.allocd ?_ _|refine Fr.put ?_ (by first|omega|(simp only [yz]<;>omega)) _)) ⟨by omega, by omega⟩ (by simp (disch:=first|(simp only [yk,seval];done)|omega|(simp only [yz]<;>omega)|fail) only [yg,seval]) (by first|omega|(simp only [yz]<;>omega)) ?_
 intro kg cg H2 fr2 hkg rg
 have f2 := fr2.size
 have s2 := fr2.same
 simp only [size_alloc,size_put] at f2 s2 hkg
 have bR : H2.get (H.size + 1 + 1 + 1 + 1 + 1 + 1) = .rw (pkE.fl ps) 101 true [] := by rw [s2 _ (by omega)]; simp (disch:=first|(simp only [yk,seval];done)|omega|(simp only [yz]<;>omega)|fail) only [yg,seval]
 simp (disch:=first|(simp only [yk,seval];done)|omega|(simp only [yz]<;>omega)|fail) only [↓yp,yq0,yq1,yq2,yq3,yq4,yl,ys0,ys1,seval,fitB,newC,endD,endR,yrg,newK_row st_brS_29_0,newK_row st_brS_30_0,s2,A_build st_bdS_32]
 simp (disch:=first|(simp only [yk,seval];done)|omega|(simp only [yz]<;>omega)|fail) only [↓yp,yq0,yq1,yq2,yq3,yq4,yl,ys0,ys1,seval,fitB,newC,endD,endR,yrg,s2,w3,w4,A_build st_bdS_101,A_indexSlice st_esS_29,bR,hfit]
 refine c17K (ps := ps.set i (opn p y z)) (gs := gs) ?_ ?_ (by rw [List.length_set]) rfl (by first|omega|(simp only [yz]<;>omega)) (by omega) ?_
 ·exact Rw.of (r := []) (c := pkE.fl (ps.set i (opn p y z))) (by first|omega|(simp only [yz]<;>omega)) (by rw [get_put_same (by first|omega|(simp only [yz]<;>omega))]; exact congrArg some hset) (by rw [List.append_nil])
 ·exact Rw.put' (Rw.put' rg (by omega)) (by omega)
 rw [chk_set hst hi ob', show decide ((opn p y z).hi < (opn p y z).f) = false by simp; omega, cond_false]
 simp (disch:=first|(simp only [yk,seval];done)|omega|(simp only [yz]<;>omega)|fail) only [↓yp,yq0,yq1,yq2,yq3,yq4,yl,ys0,ys1,seval,fitB,newC,endD,endR,yrg,s2,A_build st_bdS_32]
 refine ⟨_, _, _, _, rfl, ?_, ?_, ?_⟩
 ·exact Fr.put (Fr.put (Fr.put (Fr.trans (by repeat first|exact Fr.refl _|assumption|refine Fr.allocd ?_ _|refine Fr.put ?_ (by first|omega|(simp only [yz]<;>omega)) _) fr2) (by omega) _) (by omega) _) (by omega) _
 ·exact Rw.put' (Rw.of (r := []) (c := pkE.fl (ps.set i (opn p y z))) (by first|omega|(simp only [yz]<;>omega)) (by rw [get_put_same (by first|omega|(simp only [yz]<;>omega))]; exact congrArg some hset) (by rw [List.append_nil])) (by omega)
 ·exact Rw.put' (Rw.put' (Rw.put' rg (by omega)) (by omega)) (by omega)
end
end Go.Am.K
namespace Go.Am.K
open Go.Proofs
variable {T : Tab} {P : Program} {N L : Nat} {H H' H'' : AHeap} {Q : Bool → Value → AHeap → Prop}
def zc22 : Array Value := #[.int .i64 0, .int .i64 0, .int .i64 0, .int .i64 0]
def zc23 : Array Value := #[.int .i64 0, .int .i64 0]
theorem clS_22 : clS tabA 22 = some zc22 := by kernel_rfl
theorem clS_23 : clS tabA 23 = some zc23 := by kernel_rfl
structure Zc (zc : Array Value) (z n : Nat) : Prop where
 gr : allGrV (Builtin.zeroCells zc n).toList = true
 len : (Builtin.zeroCells zc n).toList.length = n * z
 one : oneCells (Builtin.zeroCells zc n).toList = true
theorem zc22_ok {n : Nat} (h : n ≤ 6) : Zc zc22 4 n := by
 rcases (by omega : n = 0 ∨ n = 1 ∨ n = 2 ∨ n = 3 ∨ n = 4 ∨ n = 5 ∨ n = 6) with rfl | rfl | rfl | rfl | rfl | rfl | rfl
 all_goals exact ⟨by kernel_rfl, by kernel_rfl, by kernel_rfl⟩
theorem zc23_ok {n : Nat} (h : n ≤ 6) : Zc zc23 2 n := by
 rcases (by omega : n = 0 ∨ n = 1 ∨ n = 2 ∨ n = 3 ∨ n = 4 ∨ n = 5 ∨ n = 6) with rfl | rfl | rfl | rfl | rfl | rfl | rfl
 all_goals exact ⟨by kernel_rfl, by kernel_rfl, by kernel_rfl⟩
theorem clK_nil {a : Option Addr} {c : Nat} {zc : Array Value} (hL : L ≤ H.size) (hq : Q false (.tuple #[]) H) : clK zc (.slice a 0 c) H L Q := ⟨hL, hq⟩
theorem clK_ob {α : Type} {E : Enc α} {ty tb c n : Nat} {x : Option Addr} {l : List α} {zc : Array Value} (hnl : n = l.length) (h : Ob E ty tb H x l) (hz : Zc zc E.z l.length) (hL : L ≤ tb) (hLH : L ≤ H.size)
  (hq : ∀ H', H'.size = H.size → (∀ j, j < tb → H'.get j = H.get j) → (∀ j, (l ≠ [] → ∀ b o s, x = some ⟨b, o, s⟩ → j ≠ b) → H'.get j = H.get j) → Q false (.tuple #[]) H') : clK zc (.slice x n c) H L Q := by
 subst hnl
 by_cases hl : l = []
 ·subst hl
  exact ⟨hLH, hq H rfl (fun _ _ => rfl) fun _ _ => rfl⟩
 obtain ⟨k, rfl, h2, h3, h4⟩ := h.cons hl
 have hn : Nat.beq l.length 0 = false := by
  have := List.length_pos_iff.2 hl
  cases e : Nat.beq l.length 0 with
  | false => rfl
  | true => have := Nat.eq_of_beq_eq_true e; omega
 unfold clK
 simp only [hn,cond_false,hz.gr,cond_true]
 have hw : aWrite H k 0 (Builtin.zeroCells zc l.length).toList = some ((H.kill []).put k (.rw ((E.fl l).take 0 ++ (Builtin.zeroCells zc l.length).toList ++ (E.fl l).drop (0 + (Builtin.zeroCells zc l.length).toList.length)) ty true []), minAl k []) := by
  unfold aWrite
  rw [h4]
  have : Nat.ble (0 + (Builtin.zeroCells zc l.length).toList.length) (E.fl l).length = true := Nat.ble_eq_true_of_le (by rw [hz.len, fl_length]; omega)
  simp only [this,hz.one,Bool.and_self,cond_true]
 rw [hw]
 refine ⟨?_, hq _ (by rw [size_put]; rfl) (fun j hj => ?_) fun j hj => ?_⟩
 ·show L ≤ k; omega
 ·rw [get_put_ne (by omega)]; rfl
 ·rw [get_put_ne (hj hl k 0 none rfl)]; rfl
theorem c23K {a a' : Option Addr} {cap cap' n m : Nat} {ps : List Pk} {gs : List Gd} {lots : Int} (hn : n = ps.length) (hm : m = gs.length) (hs : Rw pkE H a ps) (hgs : Rw gdE H a' gs) (hl : ps.length ≤ 6) (hgl : gs.length ≤ 6) (hne : ps ≠ [] ∨ gs ≠ []) (hL : L ≤ H.size) {M : Nat} (hM : 500 ≤ M)
  (hq : ∀ x c x' c' H', Fr H H' → Rw pkE H' x ps → Rw gdE H' x' gs → Q false (.agg ⟨[.slice x n c, .slice x' m c', .int .i64 lots]⟩) H') :
  resK (acall tabA (aexec tabA Try.prog M) 23 [.agg ⟨[.slice a n cap, .slice a' m cap', .int .i64 lots]⟩] H) L Q := by
 subst hn hm
 exact c23 hs hgs hl hgl hne hL hM fun x c x' c' H' h1 _ _ _ h2 h3 => hq x c x' c' H' h1 h2 h3
theorem c22K {a a' b b' : Option Addr} {cap cap' c1 c2 n m : Nat} {ps : List Pk} {gs : List Gd} {lots : Int} (hn : n = ps.length) (hm : m = gs.length) (hs : Rw pkE H a ps) (hs' : Rw pkE H a' ps) (hg : Rw gdE H b gs) (hg' : Rw gdE H b' gs) (hl : ps.length ≤ 65) (hgl : gs.length ≤ 65) :
  acall tabA (aexec tabA Try.prog (N + 250)) 22 [.agg ⟨[.slice a n cap, .slice b m c1, .int .i64 lots]⟩, .agg ⟨[.slice a' n cap', .slice b' m c2, .int .i64 lots]⟩] H = some (true, .bool true, H, H.size) := by
 subst hn hm
 exact c22 hs hs' hg hg' hl hgl
structure SD (H H' : AHeap) (a : Option Addr) (cap : Nat) (a' : Option Addr) (cap' : Nat) (x : Option Addr) (c : Nat) (x' : Option Addr) (c' : Nat) (u : Option Addr) (d : Nat) (u' : Option Addr) (d' : Nat) (ps : List Pk) (gs : List Gd) (lots n y z : Int) (e : VT) : Prop where
 s : Rw pkE H' a ps
 s' : Rw gdE H' a' gs
 o : Rw pkE H' x ps
 o' : Rw gdE H' x' gs
 r : Rw pkE H' u ps
 r' : Rw gdE H' u' gs
 on : gs = [] → x' = none ∧ c' = 0
 sz : H.size + 1 + 1 < H'.size
 b4 : H'.get H.size = .rw [.slice a ps.length cap, .slice a' gs.length cap', .int .i64 lots] 25 false []
 b9 : H'.get (H.size + 1) = .rw [.slice x ps.length c, .slice x' gs.length c', .int .i64 lots] 25 false []
 b10 : H'.get (H.size + 1 + 1) = .rw [.slice u ps.length d, .slice u' gs.length d', .int .i64 lots] 32 false []
 g1 : gt 85 e 1 = .int .i64 n
 g2 : gt 85 e 2 = .int .i64 y
 g3 : gt 85 e 3 = .int .i64 z
 g4 : gt 85 e 4 = .pointer (some ⟨H.size, 0, none⟩)
 g9 : gt 85 e 9 = .pointer (some ⟨H.size + 1, 0, none⟩)
 g10 : gt 85 e 10 = .pointer (some ⟨H.size + 1 + 1, 0, none⟩)
section
variable {a a' x x' u u' : Option Addr} {cap cap' c c' d d' : Nat} {ps : List Pk} {gs : List Gd} {lots n y z : Int} {e e' : VT}
theorem SD.next (I : SD H H' a cap a' cap' x c x' c' u d u' d' ps gs lots n y z e) (f : Fr H' H'') (h : Keep 85 [1, 2, 3, 4, 9, 10] e e') : SD H H'' a cap a' cap' x c x' c' u d u' d' ps gs lots n y z e' where
 s := I.s.fr f
 s' := I.s'.fr f
 o := I.o.fr f
 o' := I.o'.fr f
 r := I.r.fr f
 r' := I.r'.fr f
 on := I.on
 sz := Nat.lt_of_lt_of_le I.sz f.size
 b4 := (f.same _ (by have := I.sz; omega)).trans I.b4
 b9 := (f.same _ (by have := I.sz; omega)).trans I.b9
 b10 := (f.same _ I.sz).trans I.b10
 g1 := (h 1 (by decide)).trans I.g1
 g2 := (h 2 (by decide)).trans I.g2
 g3 := (h 3 (by decide)).trans I.g3
 g4 := (h 4 (by decide)).trans I.g4
 g9 := (h 9 (by decide)).trans I.g9
 g10 := (h 10 (by decide)).trans I.g10
end
end Go.Am.K
namespace Go.Am.K
open Go.Proofs
variable {T : Tab} {P : Program} {N L : Nat} {H H' H'' : AHeap} {Q : Bool → Value → AHeap → Prop}
section
variable {a a' x x' u u' : Option Addr} {cap cap' c c' d d' : Nat} {ps : List Pk} {gs : List Gd} {lots n y z : Int} {e e' : VT}
set_option maxHeartbeats 8000000 in
set_option maxRecDepth 10000 in
theorem c3e {er : Int} (I : SD H H' a cap a' cap' x c x' c' u d u' d' ps gs lots n y z e) (hl : ps.length ≤ 6) (hgl : gs.length ≤ 6)
  (h20 : ∀ (N : Nat) (H2 : AHeap), Fr H' H2 → acall tabA (aexec tabA Try.prog (N + 600)) 20 [.agg ⟨[.slice x ps.length c, .slice x' gs.length c', .int .i64 lots]⟩, .int .i64 n, .int .i64 y, .int .i64 z] H2 = some (true, .tuple ⟨[.agg ⟨[.slice none 0 0, .slice none 0 0, .int .i64 0]⟩, .int .i64 er]⟩, H2, H2.size))
  (h21 : ∀ (N : Nat) (H2 : AHeap), Fr H' H2 → acall tabA (aexec tabA Try.prog (N + 700)) 21 [.agg ⟨[.slice u ps.length d, .slice u' gs.length d', .int .i64 lots]⟩, .int .i64 n, .int .i64 y, .int .i64 z] H2 = some (true, .tuple ⟨[.agg ⟨[.slice none 0 0, .slice none 0 0, .int .i64 0]⟩, .int .i64 er]⟩, H2, H2.size)) :
  W tabA Try.prog (N + 1800) none (sub [true, true, true, true, true, true, true] (bodyOf Try.f3)) H.size ⟨85, e, H', []⟩ (retK tabA H.size [.tmp 8] fun u _ => u = .bool true) := by
 have sz := I.sz
 have g1 := I.g1
 have g2 := I.g2
 have g3 := I.g3
 have g4 := I.g4
 have g9 := I.g9
 have g10 := I.g10
 have b4 := I.b4
 have b9 := I.b9
 have b10 := I.b10
 have hre : decide (er = er) = true := by simp
 have h23 : ∀ (N : Nat) (H : AHeap), acall tabA (aexec tabA Try.prog (N + 100)) 23 [.agg ⟨[.slice none 0 0, .slice none 0 0, .int .i64 0]⟩] H = some (true, .agg ⟨[.slice none 0 0, .slice none 0 0, .int .i64 0]⟩, H, H.size) := fun N H => c23n
 have h22 : ∀ (N : Nat) (H : AHeap), acall tabA (aexec tabA Try.prog (N + 250)) 22 [.agg ⟨[.slice none 0 0, .slice none 0 0, .int .i64 0]⟩, .agg ⟨[.slice none 0 0, .slice none 0 0, .int .i64 0]⟩] H = some (true, .bool true, H, H.size) := fun N H => c22K (ps := []) (gs := []) rfl rfl Rw.nil Rw.nil Rw.nil Rw.nil (by simp) (by simp)
 have h22s : ∀ (N : Nat) (H2 : AHeap), Fr H' H2 → acall tabA (aexec tabA Try.prog (N + 250)) 22 [.agg ⟨[.slice x ps.length c, .slice x' gs.length c', .int .i64 lots]⟩, .agg ⟨[.slice a ps.length cap, .slice a' gs.length cap', .int .i64 lots]⟩] H2 = some (true, .bool true, H2, H2.size) := fun N H2 f => c22 (I.o.fr f) (I.s.fr f) (I.o'.fr f) (I.s'.fr f) (by omega) (by omega)
 have haw := fun (N : Nat) (H : AHeap) => awake_known (ex := aexec tabA Try.prog N) (H := H)
 simp only [Try.f3,bodyOf,sub_nil,sub_seq0,sub_seq1,sub_block,sub_loop,sub_cond0,sub_cond1]
 simp (disch:=first|(simp only [yk,seval];done)|omega|(simp only [yz]<;>omega)|fail) only [↓yp,yq0,yq1,yq2,yq3,yq4,yl,ys0,ys1,seval,fitB,newC,endD,endR,yrg,g1,g2,g3,g9,b9]
 rw [h20 _ _ (by repeat first|exact Fr.refl _|assumption|refine Fr.allocd ?_ _|refine Fr.put ?_ (by first|omega|(simp only [yz]<;>omega)) _)]
 simp (disch:=first|(simp only [yk,seval];done)|omega|(simp only [yz]<;>omega)|fail) only [↓yp,yq0,yq1,yq2,yq3,yq4,yl,ys0,ys1,seval,fitB,newC,endD,endR,yrg,g1,g2,g3,g10,b10]
 rw [h21 _ _ (by repeat first|exact Fr.refl _|assumption|refine Fr.allocd ?_ _|refine Fr.put ?_ (by first|omega|(simp only [yz]<;>omega)) _)]
 simp (disch:=first|(simp only [yk,seval];done)|omega|(simp only [yz]<;>omega)|fail) only [↓yp,yq0,yq1,yq2,yq3,yq4,yl,ys0,ys1,seval,fitB,newC,endD,endR,yrg]
 refine W_drawR (pl := []) [] [] (planK_of rfl) (by kernel_rfl) (by kernel_rfl) (by kernel_rfl) (by first|omega|(simp only [yz]<;>omega)) ?_
 simp (disch:=first|(simp only [yk,seval];done)|omega|(simp only [yz]<;>omega)|fail) only [↓yp,yq0,yq1,yq2,yq3,yq4,yl,ys0,ys1,seval,fitB,newC,endD,endR,yrg,hre,h23,h22]
 simp (disch:=first|(simp only [yk,seval];done)|omega|(simp only [yz]<;>omega)|fail) only [↓yp,yq0,yq1,yq2,yq3,yq4,yl,ys0,ys1,seval,fitB,newC,endD,endR,yrg,A_clear clS_22,A_clear clS_23]
 refine clK_nil (by first|omega|(simp only [yz]<;>omega)) ?_
 simp (disch:=first|(simp only [yk,seval];done)|omega|(simp only [yz]<;>omega)|fail) only [↓yp,yq0,yq1,yq2,yq3,yq4,yl,ys0,ys1,seval,fitB,newC,endD,endR,yrg,A_clear clS_22,A_clear clS_23]
 refine clK_nil (by first|omega|(simp only [yz]<;>omega)) ?_
 simp (disch:=first|(simp only [yk,seval];done)|omega|(simp only [yz]<;>omega)|fail) only [↓yp,yq0,yq1,yq2,yq3,yq4,yl,ys0,ys1,seval,fitB,newC,endD,endR,yrg,g4,g9,b4,b9]
 rw [h22s _ _ (by repeat first|exact Fr.refl _|assumption|refine Fr.allocd ?_ _|refine Fr.put ?_ (by first|omega|(simp only [yz]<;>omega)) _)]
 simp (disch:=first|(simp only [yk,seval];done)|omega|(simp only [yz]<;>omega)|fail) only [↓yp,yq0,yq1,yq2,yq3,yq4,yl,ys0,ys1,seval,fitB,newC,endD,endR,yrg,haw]
set_option maxHeartbeats 8000000 in
set_option maxRecDepth 10000 in
theorem c3o {i : Nat} {p : Pk} (I : SD H H' a cap a' cap' x c x' c' u d u' d' ps gs lots i y z e) (hl : ps.length ≤ 6) (hgl : gs.length ≤ 6)
  (he : askP ps gs lots i = 0) (hp : ps[i]? = some p) (hok : p.Ok) (hy : wi y 0 (p.s - p.o) = true) (hz : wi z 0 y = true) (hd : ¬ (opn p y z).hi < (opn p y z).f) :
  W tabA Try.prog (N + 1800) none (sub [true, true, true, true, true, true, true] (bodyOf Try.f3)) H.size ⟨85, e, H', []⟩ (retK tabA H.size [.tmp 8] fun u _ => u = .bool true) := by
 have sz := I.sz
 have g1 := I.g1
 have g2 := I.g2
 have g3 := I.g3
 have g4 := I.g4
 have g9 := I.g9
 have g10 := I.g10
 have b4 := I.b4
 have b9 := I.b9
 have b10 := I.b10
 have hi := (List.getElem?_eq_some_iff.1 hp).1
 have hre : decide ((0 : Int) = 0) = true := by simp
 have h22s : ∀ (N : Nat) (H2 : AHeap), Fr H' H2 → acall tabA (aexec tabA Try.prog (N + 250)) 22 [.agg ⟨[.slice x ps.length c, .slice x' gs.length c', .int .i64 lots]⟩, .agg ⟨[.slice a ps.length cap, .slice a' gs.length cap', .int .i64 lots]⟩] H2 = some (true, .bool true, H2, H2.size) := fun N H2 f => c22 (I.o.fr f) (I.s.fr f) (I.o'.fr f) (I.s'.fr f) (by omega) (by omega)
 have haw := fun (N : Nat) (H : AHeap) => awake_known (ex := aexec tabA Try.prog N) (H := H)
 obtain ⟨q, hq⟩ : ∃ q, ps.set i (opn p y z) = q := ⟨_, rfl⟩
 have hql : ps.length = q.length := by rw [← hq, List.length_set]
 have hqn : q ≠ [] := by
  intro h
  rw [h, List.length_nil] at hql
  omega
 simp only [Try.f3,bodyOf,sub_nil,sub_seq0,sub_seq1,sub_block,sub_loop,sub_cond0,sub_cond1]
 simp (disch:=first|(simp only [yk,seval];done)|omega|(simp only [yz]<;>omega)|fail) only [↓yp,yq0,yq1,yq2,yq3,yq4,yl,ys0,ys1,seval,fitB,newC,endD,endR,yrg,g1,g2,g3,g9,b9]
 refine c20 I.o I.o' I.on hl hgl he hp hok hy hz hd (by first|omega|(simp only [yz]<;>omega)) (by omega) ?_
 rw [hq]
 intro k c1 v' c2 H2 fr2 o1 o2
 have f2 := fr2.size
 have s2 := fr2.same
 have I2 := I.next fr2 (Keep.refl _ _ _)
 have b102 := I2.b10
 have h1 : oneCells [.slice (some ⟨k, 0, none⟩) ps.length c1, .slice v' gs.length c2, .int .i64 lots] = true := by cases v' <;> rfl
 simp (disch:=first|(simp only [yk,seval];done)|omega|(simp only [yz]<;>omega)|fail) only [↓yp,yq0,yq1,yq2,yq3,yq4,yl,ys0,ys1,seval,fitB,newC,endD,endR,yrg,g1,g2,g3,g10,b102,h1]
 refine c21 (I2.r.fr (by repeat first|exact Fr.refl _|assumption|refine Fr.allocd ?_ _|refine Fr.put ?_ (by first|omega|(simp only [yz]<;>omega)) _)) (I2.r'.fr (by repeat first|exact Fr.refl _|assumption|refine Fr.allocd ?_ _|refine Fr.put ?_ (by first|omega|(simp only [yz]<;>omega)) _)) hl hgl he hp hok hy hz hd (by first|omega|(simp only [yz]<;>omega)) (by omega) ?_
 rw [hq]
 intro k2 c3 k3 c4 H3 fr3 r1 r2
 have f3 := fr3.size
 have s3 := fr3.same
 simp only [size_alloc,size_put] at f3 s3
 have o13 : Ob pkE 87 H'.size H3 (some ⟨k, 0, none⟩) q := (o1.fr (by repeat first|exact Fr.refl _|assumption|refine Fr.allocd ?_ _|refine Fr.put ?_ (by first|omega|(simp only [yz]<;>omega)) _)).fr fr3
 have o23 : Ob gdE 77 H'.size H3 v' gs := (o2.fr (by repeat first|exact Fr.refl _|assumption|refine Fr.allocd ?_ _|refine Fr.put ?_ (by first|omega|(simp only [yz]<;>omega)) _)).fr fr3
 simp (disch:=first|(simp only [yk,seval];done)|omega|(simp only [yz]<;>omega)|fail) only [↓yp,yq0,yq1,yq2,yq3,yq4,yl,ys0,ys1,seval,fitB,newC,endD,endR,yrg]
 refine W_drawR (pl := []) [6] [(5, 1), (7, 0)] (planK_of rfl) (by kernel_rfl) (by kernel_rfl) (by kernel_rfl) (by first|omega|(simp only [yz]<;>omega)) ?_
 simp (disch:=first|(simp only [yk,seval];done)|omega|(simp only [yz]<;>omega)|fail) only [↓yp,yq0,yq1,yq2,yq3,yq4,yl,ys0,ys1,seval,fitB,newC,endD,endR,yrg,hre,s3]
 refine c23K hql rfl (r1.fr (by repeat first|exact Fr.refl _|assumption|refine Fr.allocd ?_ _|refine Fr.put ?_ (by first|omega|(simp only [yz]<;>omega)) _)) (r2.fr (by repeat first|exact Fr.refl _|assumption|refine Fr.allocd ?_ _|refine Fr.put ?_ (by first|omega|(simp only [yz]<;>omega)) _)) (by omega) hgl (.inl hqn) (by first|omega|(simp only [yz]<;>omega)) (by omega) ?_
 intro w c5 w' c6 H4 fr4 w1 w2
 have f4 := fr4.size
 have s4 := fr4.same
 simp only [size_alloc,size_put] at f4 s4
 have o14 : Ob pkE 87 H'.size H4 (some ⟨k, 0, none⟩) q := (o13.fr (by repeat first|exact Fr.refl _|assumption|refine Fr.allocd ?_ _|refine Fr.put ?_ (by first|omega|(simp only [yz]<;>omega)) _)).fr fr4
 have o24 : Ob gdE 77 H'.size H4 v' gs := (o23.fr (by repeat first|exact Fr.refl _|assumption|refine Fr.allocd ?_ _|refine Fr.put ?_ (by first|omega|(simp only [yz]<;>omega)) _)).fr fr4
 have h22m := fun (N : Nat) => c22K (N := N) (cap := c1) (cap' := c5) (c1 := c2) (c2 := c6) (lots := lots) hql rfl o14.rw w1 o24.rw w2 (by omega) (by omega)
 obtain ⟨k', e1, -, hk2, -⟩ := o1.cons hqn
 cases e1
 obtain ⟨k', e1, -, -, hk4⟩ := o14.cons hqn
 cases e1
 have b15 : H4.get H2.size = .rw [.slice (some ⟨k, 0, none⟩) ps.length c1, .slice v' gs.length c2, .int .i64 lots] 25 false [] := by
  rw [s4 _ (by omega), get_put_ne (by omega), get_alloc_lt (by omega), s3 _ (by omega)]
  exact get_put_same (by first|omega|(simp only [yz]<;>omega))
 simp (disch:=first|(simp only [yk,seval];done)|omega|(simp only [yz]<;>omega)|fail) only [↓yp,yq0,yq1,yq2,yq3,yq4,yl,ys0,ys1,seval,fitB,newC,endD,endR,yrg,hre,s4,s3,h22m,b15]
 simp (disch:=first|(simp only [yk,seval];done)|omega|(simp only [yz]<;>omega)|fail) only [↓yp,yq0,yq1,yq2,yq3,yq4,yl,ys0,ys1,seval,fitB,newC,endD,endR,yrg,A_clear clS_22,A_clear clS_23,b15]
 refine clK_ob (E := pkE) hql o14 (zc22_ok (by omega)) (by omega) (by first|omega|(simp only [yz]<;>omega)) ?_
 intro H5 hs5 low5 oth5
 have b155 : H5.get H2.size = .rw [.slice (some ⟨k, 0, none⟩) ps.length c1, .slice v' gs.length c2, .int .i64 lots] 25 false [] := by
  rw [oth5 _ (fun _ b o s e => by cases e; omega)]; exact b15
 have o25 : Ob gdE 77 H'.size H5 v' gs := ⟨fun hl => by
  obtain ⟨k', e1, e2, e3, e4⟩ := o24.cons hl
  refine ⟨k', e1, e2, by rw [hs5]; exact e3, ?_⟩
  rw [oth5 k' (fun _ b o s e => by
   cases e
   rintro rfl
   rw [hk4] at e4
   injection e4 with _ h2
   exact absurd h2 (by decide))]
  exact e4⟩
 simp (disch:=first|(simp only [yk,seval];done)|omega|(simp only [yz]<;>omega)|fail) only [↓yp,yq0,yq1,yq2,yq3,yq4,yl,ys0,ys1,seval,fitB,newC,endD,endR,yrg,A_clear clS_22,A_clear clS_23,b155]
 refine clK_ob (E := gdE) rfl o25 (zc23_ok hgl) (by omega) (by first|omega|(simp only [yz]<;>omega)) ?_
 intro H6 hs6 low6 oth6
 have f14 : Fr H' H4 := Fr.trans (Fr.trans (Fr.trans (Fr.trans fr2 (by repeat first|exact Fr.refl _|assumption|refine Fr.allocd ?_ _|refine Fr.put ?_ (by first|omega|(simp only [yz]<;>omega)) _)) fr3) (by repeat first|exact Fr.refl _|assumption|refine Fr.allocd ?_ _|refine Fr.put ?_ (by first|omega|(simp only [yz]<;>omega)) _)) fr4
 have frF : Fr H' H6 := ⟨by omega, fun j hj => by rw [low6 j hj, low5 j hj]; exact f14.same j hj⟩
 have I6 := I.next frF (Keep.refl _ _ _)
 have b46 := I6.b4
 have b96 := I6.b9
 simp (disch:=first|(simp only [yk,seval];done)|omega|(simp only [yz]<;>omega)|fail) only [↓yp,yq0,yq1,yq2,yq3,yq4,yl,ys0,ys1,seval,fitB,newC,endD,endR,yrg,g4,g9,b46,b96]
 rw [h22s _ _ frF]
 simp (disch:=first|(simp only [yk,seval];done)|omega|(simp only [yz]<;>omega)|fail) only [↓yp,yq0,yq1,yq2,yq3,yq4,yl,ys0,ys1,seval,fitB,newC,endD,endR,yrg,haw]
end
end Go.Am.K
