import Derived.Test.YtbofjfjopeaefaaT48
import Derived.Test.YtbofjfjopeaefaaT45
import Derived.Test.YtbofjfjopeaefaaT46
import Derived.Test.YtbofjfjopeaefaaT43
set_option linter.unusedSimpArgs false
set_option linter.unusedVariables false
namespace Go.Am.K
open Go.Proofs
variable {T : Tab} {P : Program} {N L : Nat} {H H' H'' : AHeap} {Q : Bool → Value → AHeap → Prop}
theorem opn_ok {p : Pk} {y z : Int} (hok : p.Ok) (hy : wi y 0 (p.s - p.o) = true) (hz : wi z 0 y = true) : (opn p y z).Ok ∧ (opn p y z).isB = true ∧ (0 ≤ y ∧ y ≤ 6) ∧ (0 ≤ z ∧ z ≤ 6) := by
 unfold wi at hy hz
 simp only [Bool.and_eq_true,decide_eq_true_eq] at hy hz
 obtain ⟨z1, z2, z3, z4⟩ := hok
 refine ⟨⟨z1, z2, ?_, ?_⟩, ?_, by omega, by omega⟩
 ·show 0 ≤ p.o + y ∧ p.o + y ≤ p.s; omega
 ·show 0 ≤ p.f + z ∧ p.f + z ≤ p.o + y; omega
 ·unfold Pk.isB wi opn
  simp only [Bool.and_eq_true,decide_eq_true_eq]
  omega
theorem chk_set {ps : List Pk} {gs : List Gd} {lots : Int} {i : Nat} {q : Pk} (h : StOk ps gs lots) (hi : i < ps.length) (hq : q.isB = true) : chkS (ps.set i q) gs lots = bif decide (q.hi < q.f) then 7 else 0 := by
 have e1 : chk1 (ps.set i q) gs = false := by
  unfold chk1 wi
  have := h.l1; have := h.l4; have := h.g4
  rw [List.length_set]
  simp only [Bool.or_eq_false_iff,Bool.not_eq_false',Bool.and_eq_true,decide_eq_true_eq,decide_eq_false_iff_not]
  omega
 have e2 : chk2 (ps.set i q) gs lots = false := by
  have a : (ps.set i q).all Pk.isB = true := List.all_eq_true.2 fun x hx => by
   rcases List.mem_or_eq_of_mem_set hx with hx | rfl
   ·exact List.all_eq_true.1 h.pb x hx
   ·exact hq
  have b : wi lots 0 3 = true := by unfold wi; have := h.lo; simp; omega
  unfold chk2
  rw [a, h.gb, b]; rfl
 unfold chkS
 rw [e1, e2, h.od]
 simp only [cond_false,cond_true]
 cases hd : decide (q.hi < q.f)
 ·have : ((ps.set i q).all fun p => !decide (p.hi < p.f)) = true := List.all_eq_true.2 fun x hx => by
   rcases List.mem_or_eq_of_mem_set hx with hx | rfl
   ·have := h.sp x hx
    simp; omega
   ·rw [hd]; rfl
  rw [this]; rfl
 ·have : ((ps.set i q).all fun p => !decide (p.hi < p.f)) = false := List.all_eq_false.2 ⟨q, List.mem_set hi q, by rw [hd]; simp⟩
  rw [this]; rfl
section
variable {a a' : Option Addr} {cap cap' : Nat} {ps : List Pk} {gs : List Gd} {lots n y z : Int} {i : Nat} {p : Pk}
set_option maxHeartbeats 2000000 in
theorem c20d (hs : Rw pkE H a ps) (hgs : Rw gdE H a' gs) (hgn : gs = [] → a' = none ∧ cap' = 0) (hl : ps.length ≤ 6) (hgl : gs.length ≤ 6) (he : askP ps gs lots i = 0) (hp : ps[i]? = some p) (hok : p.Ok) (hy : wi y 0 (p.s - p.o) = true) (hz : wi z 0 y = true) (hd : (opn p y z).hi < (opn p y z).f) :
  acall tabA (aexec tabA Try.prog (N + 600)) 20 [.agg ⟨[.slice a ps.length cap, .slice a' gs.length cap', .int .i64 lots]⟩, .int .i64 (i : Nat), .int .i64 y, .int .i64 z] H = some (true, .tuple ⟨[.agg ⟨[.slice none 0 0, .slice none 0 0, .int .i64 0]⟩, .int .i64 7]⟩, H, H.size) := by
 refine call_quiet (k := 39) (rs := [.cell 8 25, .tmp 9]) rfl fn_20 rfl rfl rfl ?_ rfl
 obtain ⟨ok', -, y6, z6⟩ := opn_ok hok hy hz
 have hi := (List.getElem?_eq_some_iff.1 hp).1
 have fr : Fr H ((H.alloc (.rw [.slice a ps.length cap, .slice a' gs.length cap', .int .i64 lots] 25 false [])).alloc (.rw [.slice none 0 0, .slice none 0 0, .int .i64 0] 25 false [])) := by (repeat (first | exact Fr.refl _ | assumption | refine Fr.allocd ?_ _ | refine Fr.put ?_ (by first | omega | (simp only [yz] <;> omega)) _))
 have h70 := fun (N : Nat) => c70 (N := N) (cap := cap) (cap' := cap') (lots := lots) (y := y) (hs.fr fr) (hgs.fr fr) (by omega) he hp hok
 have h58 := fun (N : Nat) (H : AHeap) (n lo hi : Int) => c58 (N := N) (H := H) (n := n) (lo := lo) (hi := hi)
 rw [hy, cond_true] at h70
 simp (disch:=first|(simp only [yk,seval];done)|omega|(simp only [yz]<;>omega)|fail) only [↓yp,yq0,yq1,yq2,yq3,yq4,yl,ys0,ys1,seval,fitB,newC,endD,endR,yrg,h70,h58,hz]
 refine c71 (hs.fr fr) (hgs.fr fr) hgn hl hgl hp hok y6 z6 (by first|omega|(simp only [yz]<;>omega)) (by omega) ?_
 intro k c1 x' c2 H2 fr2 o1 o2
 have f2 := fr2.size
 have s2 := fr2.same
 simp only [size_alloc,size_put] at f2 s2 o1 o2
 have b5 : H2.get (H.size + 1) = .rw [.slice none 0 0, .slice none 0 0, .int .i64 0] 25 false [] := by rw [s2 _ (by omega)]; simp (disch:=first|(simp only [yk,seval];done)|omega|(simp only [yz]<;>omega)|fail) only [yg,seval]
 have h1 : oneCells [.slice (some ⟨k, 0, none⟩) ps.length c1, .slice x' gs.length c2, .int .i64 lots] = true := by cases x' <;> rfl
 obtain ⟨b, o, c, e1, hb, hc, hqq⟩ := o1.rw.at_ (i := i) (x := opn p y z) (by simp [hi])
 cases e1
 have q : part c (0 + i * 4) 5 = some (.agg ⟨(opn p y z).enc⟩) := part_of hqq rfl
 rw [Nat.zero_add] at q
 have h66 := fun (N : Nat) (H : AHeap) => c66 (N := N) (H := H) ok'
 have h65 := fun (N : Nat) (H : AHeap) => c65 (N := N) (H := H) (a := (opn p y z).f) (b := (opn p y z).hi)
 have hdd : decide ((opn p y z).hi < (opn p y z).f) = true := by simp [hd]
 rw [hdd] at h65
 obtain ⟨lo, hlo⟩ : ∃ lo, (opn p y z).f = lo := ⟨_, rfl⟩
 obtain ⟨hi', hhi'⟩ : ∃ hi', (opn p y z).hi = hi' := ⟨_, rfl⟩
 obtain ⟨q', hq'⟩ : ∃ q', opn p y z = q' := ⟨_, rfl⟩
 rw [hlo, hhi'] at h66
 rw [hlo, hhi'] at h65
 rw [hq'] at h66 q
 simp only [Pk.enc] at q h66
 simp (disch:=first|(simp only [yk,seval];done)|omega|(simp only [yz]<;>omega)|fail) only [↓yp,yq0,yq1,yq2,yq3,yq4,yl,ys0,ys1,seval,fitB,newC,endD,endR,yrg,A_indexSlice st_esS_22,hc,q,h66,h65,b5,A_build st_bdS_25,h1]
set_option maxHeartbeats 2000000 in
theorem c20 (hs : Rw pkE H a ps) (hgs : Rw gdE H a' gs) (hgn : gs = [] → a' = none ∧ cap' = 0) (hl : ps.length ≤ 6) (hgl : gs.length ≤ 6) (he : askP ps gs lots i = 0) (hp : ps[i]? = some p) (hok : p.Ok) (hy : wi y 0 (p.s - p.o) = true) (hz : wi z 0 y = true) (hd : ¬ (opn p y z).hi < (opn p y z).f) (hL : L ≤ H.size) {M : Nat} (hM : 600 ≤ M)
  (hq : ∀ k c x' c' H', Fr H H' → Ob pkE 87 H.size H' (some ⟨k, 0, none⟩) (ps.set i (opn p y z)) → Ob gdE 77 H.size H' x' gs → Q false (.tuple ⟨[.agg ⟨[.slice (some ⟨k, 0, none⟩) ps.length c, .slice x' gs.length c', .int .i64 lots]⟩, .int .i64 0]⟩) H') :
  resK (acall tabA (aexec tabA Try.prog M) 20 [.agg ⟨[.slice a ps.length cap, .slice a' gs.length cap', .int .i64 lots]⟩, .int .i64 (i : Nat), .int .i64 y, .int .i64 z] H) L Q := by
 obtain ⟨N, rfl⟩ : ∃ N, M = N + 600 := ⟨M - 600, by omega⟩
 refine call_fls (R := fun v H' => ∃ k c x' c', v = .tuple ⟨[.agg ⟨[.slice (some ⟨k, 0, none⟩) ps.length c, .slice x' gs.length c', .int .i64 lots]⟩, .int .i64 0]⟩ ∧ Fr H H' ∧ Ob pkE 87 H.size H' (some ⟨k, 0, none⟩) (ps.set i (opn p y z)) ∧ Ob gdE 77 H.size H' x' gs) (k := 39) (rs := [.cell 8 25, .tmp 9]) rfl fn_20 rfl rfl rfl hL ?_ ?_ ?_
 rotate_left
 ·rintro v H' ⟨k, c, k', c', rfl, -⟩; rfl
 ·rintro v H' ⟨k, c, k', c', rfl, h1, h2, h3⟩
  exact hq _ _ _ _ _ h1 h2 h3
 obtain ⟨ok', -, y6, z6⟩ := opn_ok hok hy hz
 have hi := (List.getElem?_eq_some_iff.1 hp).1
 have fr : Fr H ((H.alloc (.rw [.slice a ps.length cap, .slice a' gs.length cap', .int .i64 lots] 25 false [])).alloc (.rw [.slice none 0 0, .slice none 0 0, .int .i64 0] 25 false [])) := by (repeat (first | exact Fr.refl _ | assumption | refine Fr.allocd ?_ _ | refine Fr.put ?_ (by first | omega | (simp only [yz] <;> omega)) _))
 have h70 := fun (N : Nat) => c70 (N := N) (cap := cap) (cap' := cap') (lots := lots) (y := y) (hs.fr fr) (hgs.fr fr) (by omega) he hp hok
 have h58 := fun (N : Nat) (H : AHeap) (n lo hi : Int) => c58 (N := N) (H := H) (n := n) (lo := lo) (hi := hi)
 rw [hy, cond_true] at h70
 simp (disch:=first|(simp only [yk,seval];done)|omega|(simp only [yz]<;>omega)|fail) only [↓yp,yq0,yq1,yq2,yq3,yq4,yl,ys0,ys1,seval,fitB,newC,endD,endR,yrg,h70,h58,hz]
 refine c71 (hs.fr fr) (hgs.fr fr) hgn hl hgl hp hok y6 z6 (by first|omega|(simp only [yz]<;>omega)) (by omega) ?_
 intro k c1 x' c2 H2 fr2 o1 o2
 have f2 := fr2.size
 have s2 := fr2.same
 simp only [size_alloc,size_put] at f2 s2 o1 o2
 have b5 : H2.get (H.size + 1) = .rw [.slice none 0 0, .slice none 0 0, .int .i64 0] 25 false [] := by rw [s2 _ (by omega)]; simp (disch:=first|(simp only [yk,seval];done)|omega|(simp only [yz]<;>omega)|fail) only [yg,seval]
 have h1 : oneCells [.slice (some ⟨k, 0, none⟩) ps.length c1, .slice x' gs.length c2, .int .i64 lots] = true := by cases x' <;> rfl
 obtain ⟨b, o, c, e1, hb, hc, hqq⟩ := o1.rw.at_ (i := i) (x := opn p y z) (by simp [hi])
 cases e1
 have q : part c (0 + i * 4) 5 = some (.agg ⟨(opn p y z).enc⟩) := part_of hqq rfl
 rw [Nat.zero_add] at q
 have h66 := fun (N : Nat) (H : AHeap) => c66 (N := N) (H := H) ok'
 have h65 := fun (N : Nat) (H : AHeap) => c65 (N := N) (H := H) (a := (opn p y z).f) (b := (opn p y z).hi)
 have hdd : decide ((opn p y z).hi < (opn p y z).f) = false := by simp; omega
 rw [hdd] at h65
 obtain ⟨lo, hlo⟩ : ∃ lo, (opn p y z).f = lo := ⟨_, rfl⟩
 obtain ⟨hi', hhi'⟩ : ∃ hi', (opn p y z).hi = hi' := ⟨_, rfl⟩
 rw [hlo, hhi'] at h66 h65
 have henc : ∀ w : Pk, w.enc = [.int .i64 w.s, .int .i64 w.w, .int .i64 w.o, .int .i64 w.f] := fun _ => rfl
 rw [henc, hlo] at h66 q
 simp (disch:=first|(simp only [yk,seval];done)|omega|(simp only [yz]<;>omega)|fail) only [↓yp,yq0,yq1,yq2,yq3,yq4,yl,ys0,ys1,seval,fitB,newC,endD,endR,yrg,A_indexSlice st_esS_22,hc,q,h66,h65,b5,A_build st_bdS_25,h1]
 have f12 : Fr H H2 := fr.trans fr2
 refine ⟨k, c1, x', c2, rfl, ?_, ?_, ?_⟩
 ·(repeat (first | exact Fr.refl _ | assumption | refine Fr.allocd ?_ _ | refine Fr.put ?_ (by first | omega | (simp only [yz] <;> omega)) _))
 ·exact ((o1.fr (by repeat first|exact Fr.refl _|assumption|refine Fr.allocd ?_ _|refine Fr.put ?_ (by first|omega|(simp only [yz]<;>omega)) _)).put (by omega)).low (by omega)
 ·exact ((o2.fr (by repeat first|exact Fr.refl _|assumption|refine Fr.allocd ?_ _|refine Fr.put ?_ (by first|omega|(simp only [yz]<;>omega)) _)).put (by omega)).low (by omega)
end
end Go.Am.K
namespace Go.Am.K
open Go.Proofs
def Cl (p : Pk) (y z : Int) : Prop := (opn p y z).hi < (opn p y z).f
theorem opn_real {p : Pk} {y r z : Int} (hk : p.Ok) (h1 : p.f ≤ r) (h2 : r ≤ p.w) (h3 : r ≤ p.s - p.o + p.f) (hy : 0 ≤ y ∧ y ≤ p.s - p.o) (hz : z = 0 ∧ r - p.f - (p.s - p.o - y) ≤ 0 ∨ z = r - p.f - (p.s - p.o - y) ∧ 0 ≤ z) : (0 ≤ z ∧ z ≤ y) ∧ ¬ Cl p y z := by
 have h4 := hk.f
 refine ⟨by omega, ?_⟩
 unfold Cl Pk.hi opn
 simp only
 split <;> omega
theorem opn_some {p : Pk} {y : Int} (hk : p.Ok) (hp : p.f ≤ p.hi) (hy : 0 ≤ y ∧ y ≤ p.s - p.o) : ∃ z, (0 ≤ z ∧ z ≤ y) ∧ ¬ Cl p y z := by
 have h1 : p.f ≤ p.w := by unfold Pk.hi at hp; split at hp <;> omega
 refine ⟨0, opn_real (r := p.f) hk (Int.le_refl _) h1 (by omega) hy (.inl ⟨rfl, by omega⟩)⟩
theorem opn_in {p : Pk} {y z : Int} (hz : 0 ≤ z ∧ z ≤ y) (n : Int) : p.il n ≤ (opn p y z).il n ∧ (opn p y z).ih n ≤ p.ih n := by
 have h1 : (opn p y z).hi ≤ p.hi := by unfold Pk.hi opn; simp only; split <;> split <;> omega
 refine ⟨?_, ?_⟩
 ·unfold Pk.il opn; simp only; split <;> split <;> omega
 ·unfold Pk.ih; split <;> split <;> omega
section
variable {ps : List Pk} {gs : List Gd} {l : List Int} {i : Nat} {p : Pk} {y z m : Int}
theorem stk_opn (hp : ps[i]? = some p) : stk (ps.set i (opn p y z)) = stk ps := by
 have e : (ps.set i (opn p y z)).map Pk.s = ps.map Pk.s := by
  rw [List.map_set]
  apply List.ext_getElem?
  intro j
  have hi := (List.getElem?_eq_some_iff.1 hp).1
  by_cases hj : i = j
  ·subst hj
   rw [List.getElem?_set_self (by rw [List.length_map]; exact hi), List.getElem?_map, hp]; rfl
  ·rw [List.getElem?_set_ne hj]
 unfold stk
 rw [e, List.length_set]
theorem span_opn (hp : ps[i]? = some p) (hm : l[i]? = some m) (hz : 0 ≤ z ∧ z ≤ y) : isum (fo true ps l) ≤ isum (fo true (ps.set i (opn p y z)) l) ∧ isum (fo false (ps.set i (opn p y z)) l) ≤ isum (fo false ps l) := by
 have h := opn_in (p := p) hz m
 rw [fo_oth hp hm, fo_kn hp hm, fo_oth hp hm, fo_kn hp hm]
 have e1 : p.sel true m = p.il m := rfl
 have e2 : p.sel false m = p.ih m := rfl
 have e3 : (opn p y z).sel true m = (opn p y z).il m := rfl
 have e4 : (opn p y z).sel false m = (opn p y z).ih m := rfl
 omega
theorem hasG_le {sz f f' : Int} {g : Gd} (hf : f' ≤ f) (h : hasG sz f g = true) : hasG sz f' g = true := by
 unfold hasG at *
 simp only [Bool.and_eq_true,decide_eq_true_eq] at *
 omega
theorem fstI_le {q q' : Gd → Bool} (hq : ∀ g, q g = true → q' g = true) : ∀ {gs : List Gd} {k : Nat}, 0 ≤ fstI q gs k → 0 ≤ fstI q' gs k ∧ fstI q' gs k ≤ fstI q gs k
 | [], k, h => by simp [fstI] at h
 | g :: gs, k, h => by
  unfold fstI at h ⊢
  cases h1 : q g
  ·rw [h1] at h
   simp only [cond_false] at h ⊢
   have ih := fstI_le hq (gs := gs) (k := k + 1) h
   cases h2 : q' g
   ·exact ih
   ·simp only [cond_true]
    have hk : (k : Int) ≤ fstI q gs (k + 1) := by
     rcases fstI_ge (p := q) (gs := gs) (k := k + 1) with e | ⟨j, x, e, -⟩
     ·rw [e] at h; omega
     ·rw [e]; omega
    omega
  ·rw [hq g h1]
   simp only [cond_true]
   omega
theorem sure_opn (hp : ps[i]? = some p) (hm : l[i]? = some m) (hz : 0 ≤ z ∧ z ≤ y) (h : 0 ≤ sureV ps gs l) : 0 ≤ sureV (ps.set i (opn p y z)) gs l ∧ sureV (ps.set i (opn p y z)) gs l ≤ sureV ps gs l := by
 have h2 := (span_opn hp hm hz).2
 exact fstI_le (fun g hg => hasG_le h2 hg) h
theorem find_pr {q q' : Gd → Bool} (hq : ∀ g, q g = true → q' g = true) : ∀ {gs : List Gd}, ordB gs = true → (∀ g ∈ gs, 0 ≤ g.pr) → (orZ (gs.find? q)).pr ≤ (orZ (gs.find? q')).pr
 | [], _, _ => Int.le_refl _
 | g :: gs, ho, hk => by
  cases h2 : q' g
  ·have h1 : q g = false := by
    cases h1 : q g
    ·rfl
    ·rw [hq g h1] at h2; cases h2
   rw [List.find?_cons_of_neg (by rw [h1]; simp), List.find?_cons_of_neg (by rw [h2]; simp)]
   exact find_pr hq (ordB_lt ho).1 fun g hg => hk g (by simp [hg])
  ·rw [List.find?_cons_of_pos (p := q') h2]
   show _ ≤ g.pr
   cases hf : (g :: gs).find? q with
   | none => exact hk g (by simp)
   | some x => exact ord_first ho (g0 := g) rfl x (List.mem_of_find?_eq_some hf)
theorem grd_orZ {x : List Int} : grd ps gs x = orZ (gs.find? (hasG (isum x) (isum (fo false ps x)))) := by
 unfold grd orZ
 rfl
theorem brg_opn {x : List Int} (hp : ps[i]? = some p) (hm : x[i]? = some m) (hz : 0 ≤ z ∧ z ≤ y) (ho : ordB gs = true) (hk : ∀ g ∈ gs, g.Ok) (hx : 0 ≤ isum x) : brg ps gs x ≤ brg (ps.set i (opn p y z)) gs x := by
 have h2 := (span_opn hp hm hz).2
 unfold brg
 refine Int.mul_le_mul_of_nonneg_left ?_ hx
 rw [grd_orZ, grd_orZ]
 exact find_pr (fun g hg => hasG_le h2 hg) ho fun g hg => (hk g hg).p.1
theorem totL_mono {b b' : List Int → Int} : ∀ {L : List (List Int)}, (∀ x ∈ L, b x ≤ b' x) → totL b L ≤ totL b' L
 | [], _ => Int.le_refl _
 | x :: L, h => by
  have h1 := h x (by simp)
  have h2 := totL_mono (L := L) fun y hy => h y (by simp [hy])
  show b x + totL b L ≤ b' x + totL b' L
  omega
theorem opt_opn {k : Nat} {v v' : Int} (hp : ps[i]? = some p) (hl : ps.length ≤ 4) (hpk : ∀ p ∈ ps, p.Ok) (hz : 0 ≤ z ∧ z ≤ y) (ho : ordB gs = true) (hk : ∀ g ∈ gs, g.Ok) (h : OptR (brg ps gs) (stk ps) k v) (h' : OptR (brg (ps.set i (opn p y z)) gs) (stk ps) k v') : v ≤ v' := by
 obtain ⟨L, h1, h2⟩ := h.ex
 have h3 := h'.le L h1
 have hi := (List.getElem?_eq_some_iff.1 hp).1
 have h4 : totL (brg ps gs) L ≤ totL (brg (ps.set i (opn p y z)) gs) L := totL_mono fun x hx => by
  have hlv := Pl_mem h1 hx
  have hln := LV_len hlv
  rw [stk_len hl] at hln
  have hin := LV_in hlv fun n hn => (stk_in hpk n hn).2
  exact brg_opn hp (List.getElem?_eq_getElem (by omega)) hz ho hk (m_sum hln hin).1
 omega
end
end Go.Am.K
namespace Go.Am.K
open Go.Proofs
variable {T : Tab} {P : Program} {N L : Nat} {H H' H'' : AHeap} {Q : Bool → Value → AHeap → Prop}
def lmn : List Int → Int
 | [] => 0
 | [x] => x
 | x :: y :: l => if lmn (y :: l) < x then lmn (y :: l) else x
theorem lmn_ok : ∀ {l : List Int}, l ≠ [] → lmn l ∈ l ∧ ∀ x ∈ l, lmn l ≤ x
 | [], h => absurd rfl h
 | [x], _ => ⟨by simp [lmn], by simp [lmn]⟩
 | x :: y :: l, _ => by
  obtain ⟨h1, h2⟩ := lmn_ok (l := y :: l) (by simp)
  unfold lmn
  split
  ·exact ⟨List.mem_cons_of_mem _ h1, fun z hz => by
    rcases List.mem_cons.1 hz with rfl | hz
    ·omega
    ·exact h2 z hz⟩
  ·exact ⟨by simp, fun z hz => by
    rcases List.mem_cons.1 hz with rfl | hz
    ·exact Int.le_refl _
    ·have := h2 z hz; omega⟩
theorem lmn_uniq {l : List Int} {m : Int} (h1 : m ∈ l) (h2 : ∀ x ∈ l, m ≤ x) : lmn l = m := by
 obtain ⟨h3, h4⟩ := lmn_ok (l := l) (by rintro rfl; simp at h1)
 have := h2 _ h3
 have := h4 _ h1
 omega
def lmx (l : List Int) : Int := - lmn (l.map fun x => -x)
theorem lmx_ok {l : List Int} (h : l ≠ []) : lmx l ∈ l ∧ ∀ x ∈ l, x ≤ lmx l := by
 obtain ⟨h1, h2⟩ := lmn_ok (l := l.map fun x => -x) (by simpa using h)
 obtain ⟨x, hx, he⟩ := List.mem_map.1 h1
 refine ⟨?_, fun y hy => ?_⟩
 ·unfold lmx; rw [← he, Int.neg_neg]; exact hx
 ·have := h2 (-y) (List.mem_map.2 ⟨y, hy, rfl⟩)
  unfold lmx; omega
theorem lmx_uniq {l : List Int} {m : Int} (h1 : m ∈ l) (h2 : ∀ x ∈ l, x ≤ m) : lmx l = m := by
 obtain ⟨h3, h4⟩ := lmx_ok (l := l) (by rintro rfl; simp at h1)
 have := h2 _ h3
 have := h4 _ h1
 omega
theorem fn_108 : tabA.fn 108 = some Try.f108 := by kernel_rfl
theorem fn_109 : tabA.fn 109 = some Try.f109 := by kernel_rfl
section
variable {a : Option Addr} {cap : Nat} {l : List Int}
set_option maxHeartbeats 1000000 in
theorem c108 (hs : Rw intE H a l) (hne : l ≠ []) (hl : l.length ≤ 65) : acall tabA (aexec tabA Try.prog (N + 300)) 108 [.slice a l.length cap] H = some (true, .int .i64 (lmn l), H, H.size) := by
 refine call_quiet (k := 25) (rs := [.tmp 2]) rfl fn_108 rfl rfl rfl ?_ rfl
 have hpos : 0 < l.length := List.length_pos_iff.2 hne
 have hd : decide ((l.length : Int) < 1) = false := by simp; omega
 have rd : ∀ {i : Nat} {x : Int}, l[i]? = some x → ∃ b o c, a = some ⟨b, o, none⟩ ∧ cellsOf (H.get b) = some c ∧ c[o + i]? = some (.int .i64 x) := fun {i x} hx => by
  obtain ⟨b, o, c, h1, h2, h3, h4⟩ := hs.at_ hx
  have := cell_of (k := o + i * 1) h4
  rw [Nat.mul_one] at this
  exact ⟨b, o, c, h1, h3, this⟩
 obtain ⟨x0, hx0⟩ : ∃ x, l[0]? = some x := ⟨l[0], by simp [hpos]⟩
 obtain ⟨b, o, c, rfl, hc, hc0⟩ := rd hx0
 rw [Nat.add_zero] at hc0
 simp (disch:=first|(simp only [yk,seval];done)|omega|(simp only [yz]<;>omega)|fail) only [↓yp,yq0,yq1,yq2,yq3,yq4,yl,ys0,ys1,seval,fitB,newC,endD,endR,yrg,lenV_slice st_esS_49,hd,A_indexSlice st_esS_49,hc,hc0,Nat.zero_mul,Nat.add_zero]
 refine W_while (n := 25) 200 (fun q e' H' => ∃ (i : Nat) (m : Int), q = l.length - i ∧ 1 ≤ i ∧ i ≤ l.length ∧ gt 25 e' 4 = .int .i64 (i : Nat) ∧ gt 25 e' 0 = .slice (some ⟨b, o, none⟩) l.length cap ∧ gt 25 e' 3 = .int .i64 m ∧ H' = H ∧ m ∈ l ∧ ∀ (j : Nat) (x : Int), j < i → l[j]? = some x → m ≤ x)
  ?_ 66 (l.length - 1) ⟨1, x0, rfl, by omega, by omega, ?_, ?_, ?_, rfl, List.mem_of_getElem? hx0, fun j x hj hx => ?_⟩ (by omega) (by omega)
 rotate_left
 ·simp (disch:=first|(simp only [yk,seval];done)|omega|(simp only [yz]<;>omega)|fail) only [yg,seval] <;> rfl
 ·simp (disch:=first|(simp only [yk,seval];done)|omega|(simp only [yz]<;>omega)|fail) only [yg,seval]
 ·simp (disch:=first|(simp only [yk,seval];done)|omega|(simp only [yz]<;>omega)|fail) only [yg,seval]
 ·obtain rfl : j = 0 := by omega
  rw [hx0] at hx
  cases hx
  exact Int.le_refl _
 rintro M1 q e H1 ⟨i, m, rfl, hi1, hi, g4, g0, g3, rfl, hm, hle⟩
 simp (disch:=first|(simp only [yk,seval];done)|omega|(simp only [yz]<;>omega)|fail) only [↓yp,yq0,yq1,yq2,yq3,yq4,yl,ys0,ys1,seval,fitB,newC,endD,endR,yrg,g4,g0,lenV_slice st_esS_49]
 refine ⟨fun hT => ?_, fun hT => ?_⟩
 ·have hlt : i < l.length := by have := of_decide_eq_true hT; omega
  have hw2 : w64 ((i : Int) + 1) = ((i + 1 : Nat) : Int) := by rw [w64_of (by omega)]; omega
  obtain ⟨x, hx⟩ : ∃ x, l[i]? = some x := ⟨l[i], by simp [hlt]⟩
  obtain ⟨b', o', c', e1, hc', hx'⟩ := rd hx
  cases e1
  rw [hc] at hc'
  cases hc'
  obtain ⟨v, hv⟩ : ∃ v, (if x < m then x else m) = v := ⟨_, rfl⟩
  simp (disch:=first|(simp only [yk,seval];done)|omega|(simp only [yz]<;>omega)|fail) only [↓yp,yq0,yq1,yq2,yq3,yq4,yl,ys0,ys1,seval,fitB,newC,endD,endR,yrg,g4,g0,g3,A_indexSlice st_esS_49,hc,hx',Nat.mul_one,A_min,mm_min,A_max,mm_max,hv,hw2]
  refine ⟨l.length - (i + 1), by omega, i + 1, v, rfl, by omega, by omega, ?_, ?_, ?_, rfl, ?_, fun j y hj hy => ?_⟩
  ·simp (disch:=first|(simp only [yk,seval];done)|omega|(simp only [yz]<;>omega)|fail) only [yg,seval]
  ·simp (disch:=first|(simp only [yk,seval];done)|omega|(simp only [yz]<;>omega)|fail) only [yg,seval,g0]
  ·simp (disch:=first|(simp only [yk,seval];done)|omega|(simp only [yz]<;>omega)|fail) only [yg,seval]
  ·have := List.mem_of_getElem? hx
   rw [← hv]; split <;> assumption
  ·by_cases hji : j < i
   ·have := hle j y hji hy
    rw [← hv]; split <;> omega
   ·obtain rfl : j = i := by omega
    rw [hx] at hy
    cases hy
    rw [← hv]; split <;> omega
 ·have hie : i = l.length := by have := of_decide_eq_false hT; omega
  subst hie
  have he : lmn l = m := lmn_uniq hm fun x hx => by
   obtain ⟨j, hj⟩ := List.getElem?_of_mem hx
   exact hle j x (List.getElem?_eq_some_iff.1 hj).1 hj
  simp (disch:=first|(simp only [yk,seval];done)|omega|(simp only [yz]<;>omega)|fail) only [↓yp,yq0,yq1,yq2,yq3,yq4,yl,ys0,ys1,seval,fitB,newC,endD,endR,yrg,g3,he]
set_option maxHeartbeats 1000000 in
theorem c109 (hs : Rw intE H a l) (hne : l ≠ []) (hl : l.length ≤ 65) : acall tabA (aexec tabA Try.prog (N + 300)) 109 [.slice a l.length cap] H = some (true, .int .i64 (lmx l), H, H.size) := by
 refine call_quiet (k := 25) (rs := [.tmp 2]) rfl fn_109 rfl rfl rfl ?_ rfl
 have hpos : 0 < l.length := List.length_pos_iff.2 hne
 have hd : decide ((l.length : Int) < 1) = false := by simp; omega
 have rd : ∀ {i : Nat} {x : Int}, l[i]? = some x → ∃ b o c, a = some ⟨b, o, none⟩ ∧ cellsOf (H.get b) = some c ∧ c[o + i]? = some (.int .i64 x) := fun {i x} hx => by
  obtain ⟨b, o, c, h1, h2, h3, h4⟩ := hs.at_ hx
  have := cell_of (k := o + i * 1) h4
  rw [Nat.mul_one] at this
  exact ⟨b, o, c, h1, h3, this⟩
 obtain ⟨x0, hx0⟩ : ∃ x, l[0]? = some x := ⟨l[0], by simp [hpos]⟩
 obtain ⟨b, o, c, rfl, hc, hc0⟩ := rd hx0
 rw [Nat.add_zero] at hc0
 simp (disch:=first|(simp only [yk,seval];done)|omega|(simp only [yz]<;>omega)|fail) only [↓yp,yq0,yq1,yq2,yq3,yq4,yl,ys0,ys1,seval,fitB,newC,endD,endR,yrg,lenV_slice st_esS_49,hd,A_indexSlice st_esS_49,hc,hc0,Nat.zero_mul,Nat.add_zero]
 refine W_while (n := 25) 200 (fun q e' H' => ∃ (i : Nat) (m : Int), q = l.length - i ∧ 1 ≤ i ∧ i ≤ l.length ∧ gt 25 e' 4 = .int .i64 (i : Nat) ∧ gt 25 e' 0 = .slice (some ⟨b, o, none⟩) l.length cap ∧ gt 25 e' 3 = .int .i64 m ∧ H' = H ∧ m ∈ l ∧ ∀ (j : Nat) (x : Int), j < i → l[j]? = some x → x ≤ m)
  ?_ 66 (l.length - 1) ⟨1, x0, rfl, by omega, by omega, ?_, ?_, ?_, rfl, List.mem_of_getElem? hx0, fun j x hj hx => ?_⟩ (by omega) (by omega)
 rotate_left
 ·simp (disch:=first|(simp only [yk,seval];done)|omega|(simp only [yz]<;>omega)|fail) only [yg,seval] <;> rfl
 ·simp (disch:=first|(simp only [yk,seval];done)|omega|(simp only [yz]<;>omega)|fail) only [yg,seval]
 ·simp (disch:=first|(simp only [yk,seval];done)|omega|(simp only [yz]<;>omega)|fail) only [yg,seval]
 ·obtain rfl : j = 0 := by omega
  rw [hx0] at hx
  cases hx
  exact Int.le_refl _
 rintro M1 q e H1 ⟨i, m, rfl, hi1, hi, g4, g0, g3, rfl, hm, hle⟩
 simp (disch:=first|(simp only [yk,seval];done)|omega|(simp only [yz]<;>omega)|fail) only [↓yp,yq0,yq1,yq2,yq3,yq4,yl,ys0,ys1,seval,fitB,newC,endD,endR,yrg,g4,g0,lenV_slice st_esS_49]
 refine ⟨fun hT => ?_, fun hT => ?_⟩
 ·have hlt : i < l.length := by have := of_decide_eq_true hT; omega
  have hw2 : w64 ((i : Int) + 1) = ((i + 1 : Nat) : Int) := by rw [w64_of (by omega)]; omega
  obtain ⟨x, hx⟩ : ∃ x, l[i]? = some x := ⟨l[i], by simp [hlt]⟩
  obtain ⟨b', o', c', e1, hc', hx'⟩ := rd hx
  cases e1
  rw [hc] at hc'
  cases hc'
  obtain ⟨v, hv⟩ : ∃ v, (if x > m then x else m) = v := ⟨_, rfl⟩
  simp (disch:=first|(simp only [yk,seval];done)|omega|(simp only [yz]<;>omega)|fail) only [↓yp,yq0,yq1,yq2,yq3,yq4,yl,ys0,ys1,seval,fitB,newC,endD,endR,yrg,g4,g0,g3,A_indexSlice st_esS_49,hc,hx',Nat.mul_one,A_min,mm_min,A_max,mm_max,hv,hw2]
  refine ⟨l.length - (i + 1), by omega, i + 1, v, rfl, by omega, by omega, ?_, ?_, ?_, rfl, ?_, fun j y hj hy => ?_⟩
  ·simp (disch:=first|(simp only [yk,seval];done)|omega|(simp only [yz]<;>omega)|fail) only [yg,seval]
  ·simp (disch:=first|(simp only [yk,seval];done)|omega|(simp only [yz]<;>omega)|fail) only [yg,seval,g0]
  ·simp (disch:=first|(simp only [yk,seval];done)|omega|(simp only [yz]<;>omega)|fail) only [yg,seval]
  ·have := List.mem_of_getElem? hx
   rw [← hv]; split <;> assumption
  ·by_cases hji : j < i
   ·have := hle j y hji hy
    rw [← hv]; split <;> omega
   ·obtain rfl : j = i := by omega
    rw [hx] at hy
    cases hy
    rw [← hv]; split <;> omega
 ·have hie : i = l.length := by have := of_decide_eq_false hT; omega
  subst hie
  have he : lmx l = m := lmx_uniq hm fun x hx => by
   obtain ⟨j, hj⟩ := List.getElem?_of_mem hx
   exact hle j x (List.getElem?_eq_some_iff.1 hj).1 hj
  simp (disch:=first|(simp only [yk,seval];done)|omega|(simp only [yz]<;>omega)|fail) only [↓yp,yq0,yq1,yq2,yq3,yq4,yl,ys0,ys1,seval,fitB,newC,endD,endR,yrg,g3,he]
end
end Go.Am.K
namespace Go.Am.K
open Go.Proofs
variable {T : Tab} {P : Program} {N L : Nat} {H H' H'' : AHeap} {Q : Bool → Value → AHeap → Prop}
def Bv (ps : List Pk) (gs : List Gd) (i : Nat) (p : Pk) (y : Int) (k : Nat) (z n : Int) : Prop := ¬ Cl p y z ∧ OptR (brg (ps.set i (opn p y z)) gs) (stk ps) k n
structure PyR (B : Int → Int → Prop) (y lo hi : Int) : Prop where
 elo : ∃ z, (0 ≤ z ∧ z ≤ y) ∧ B z lo
 ehi : ∃ z, (0 ≤ z ∧ z ≤ y) ∧ B z hi
 all : ∀ z n, (0 ≤ z ∧ z ≤ y) → B z n → lo ≤ n ∧ n ≤ hi
theorem askP_of {ps : List Pk} {gs : List Gd} {lots : Int} {i : Nat} (h : chkS ps gs lots = 0) (hi : i < ps.length) : askP ps gs lots i = 0 := by
 unfold askP
 rw [h]
 have : wi (i : Int) 0 ((ps.length : Int) - 1) = true := by unfold wi; simp; omega
 rw [this]; rfl
theorem wi_of {n lo hi : Int} (h : lo ≤ n ∧ n ≤ hi) : wi n lo hi = true := by unfold wi; simp; omega
theorem opn_chk {ps : List Pk} {gs : List Gd} {lots y z : Int} {i : Nat} {p : Pk} (h : StOk ps gs lots) (hp : ps[i]? = some p) (hok : p.Ok) (hy : 0 ≤ y ∧ y ≤ p.s - p.o) (hz : 0 ≤ z ∧ z ≤ y) (hc : ¬ Cl p y z) : chkS (ps.set i (opn p y z)) gs lots = 0 := by
 rw [chk_set h (List.getElem?_eq_some_iff.1 hp).1 (opn_ok hok (wi_of hy) (wi_of hz)).2.1]
 have : decide ((opn p y z).hi < (opn p y z).f) = false := decide_eq_false hc
 rw [this]; rfl
section
variable {a a' : Option Addr} {cap cap' i k : Nat} {ps : List Pk} {gs : List Gd} {p : Pk} {y : Int}
set_option maxHeartbeats 8000000 in
set_option maxRecDepth 10000 in
theorem c49 (h : StR H a a' ps gs (k : Int)) (hgn : gs ≠ []) (hp : ps[i]? = some p) (hy : 0 ≤ y ∧ y ≤ p.s - p.o) (hL : L ≤ H.size) {M : Nat} (hM : 18800 ≤ M)
  (hq : ∀ f lo hi H', Fr H H' → PyR (Bv ps gs i p y k) y lo hi → Q f (.tuple ⟨[.agg ⟨[.int .i64 lo, .int .i64 hi]⟩, .int .i64 0]⟩) H') :
  resK (acall tabA (aexec tabA Try.prog M) 49 [.agg ⟨[.slice a ps.length cap, .slice a' gs.length cap', .int .i64 (k : Int)]⟩, .int .i64 (i : Nat), .int .i64 y] H) L Q := by
 obtain ⟨N, rfl⟩ : ∃ N, M = N + 18800 := ⟨M - 18800, by omega⟩
 refine call_keep tabA_fr (k := 54) (rs := [.cell 6 38, .tmp 7]) (R := fun v H' => ∃ lo hi, v = .tuple ⟨[.agg ⟨[.int .i64 lo, .int .i64 hi]⟩, .int .i64 0]⟩ ∧ Fr H H' ∧ PyR (Bv ps gs i p y k) y lo hi) rfl fn_49 rfl rfl rfl hL ?_ ?_ ?_
 rotate_left
 ·rintro v H' ⟨lo, hi, rfl, h1, h2⟩; exact hq _ _ _ _ h1 h2
 ·rintro v H' ⟨lo, hi, rfl, h1, h2⟩ _ _; exact hq _ _ _ _ (Fr.refl _) h2
 have hst := h.st
 have hok := h.pk p (List.mem_of_getElem? hp)
 have hil := (List.getElem?_eq_some_iff.1 hp).1
 have hask : askP ps gs (k : Int) i = 0 := askP_of h.ok hil
 have hwy := wi_of hy
 have fr0 : Fr H ((H.alloc (.rw [.slice a ps.length cap, .slice a' gs.length cap', .int .i64 (k : Int)] 25 false [])).alloc (.rw [.int .i64 0, .int .i64 0] 38 false [])) := by (repeat (first | exact Fr.refl _ | assumption | refine Fr.allocd ?_ _ | refine Fr.put ?_ (by first | omega | (simp only [yz] <;> omega)) _))
 have h70 := fun (N : Nat) => c70 (N := N) (cap := cap) (cap' := cap') (y := y) (h.hs.fr fr0) (h.hg.fr fr0) (by have := hst.l4; omega) hask hp hok
 rw [hwy, cond_true] at h70
 have h6 := hok.s
 have hoo := hok.o
 have w1 : w64 (y + 1) = y + 1 := w64_of (by omega)
 simp (disch:=first|(simp only [yk,seval];done)|omega|(simp only [yz]<;>omega)|fail) only [↓yp,yq0,yq1,yq2,yq3,yq4,yl,ys0,ys1,seval,fitB,newC,endD,endR,yrg,h70,w1]
 obtain ⟨G, hG⟩ : ∃ G, (H.alloc (.rw [.slice a ps.length cap, .slice a' gs.length cap', .int .i64 (k : Int)] 25 false [])).alloc (.rw [.int .i64 0, .int .i64 0] 38 false []) = G := ⟨_, rfl⟩
 have sG : G.size = H.size + 1 + 1 := by rw [← hG]; (first | omega | (simp only [yz] <;> omega))
 have b3G : G.get H.size = .rw [.slice a ps.length cap, .slice a' gs.length cap', .int .i64 (k : Int)] 25 false [] := by rw [← hG, get_alloc_lt (by first|omega|(simp only [yz]<;>omega))]; exact get_alloc_same
 have b6G : G.get (H.size + 1) = .rw [.int .i64 0, .int .i64 0] 38 false [] := by rw [← hG]; exact get_alloc_eq (by first|omega|(simp only [yz]<;>omega))
 rw [hG] at fr0 ⊢
 refine W_while (n := 54) 18500 (fun q e' H' => ∃ (j : Nat) (v : Value) (S : Nat → Prop) (ns : List Int), q = (y + 1 - j).toNat ∧ (j : Int) ≤ y + 1 ∧ gt 54 e' 25 = .int .i64 (j : Nat) ∧ gt 54 e' 24 = .int .i64 (y + 1) ∧ gt 54 e' 3 = .pointer (some ⟨H.size, 0, none⟩) ∧ gt 54 e' 6 = .pointer (some ⟨H.size + 1, 0, none⟩) ∧ gt 54 e' 1 = .int .i64 (i : Nat) ∧ gt 54 e' 2 = .int .i64 y ∧ gt 54 e' 9 = v ∧ Gw H' (H.size + 1) S v ns.length (intE.fl ns) 3 1 ∧ ns.length ≤ j ∧ (∀ q, q < H.size + 1 + 1 → H'.get q = G.get q) ∧ H.size + 1 + 1 ≤ H'.size ∧ (∀ n ∈ ns, ∃ z, (0 ≤ z ∧ z < (j : Int)) ∧ Bv ps gs i p y k z n) ∧ (∀ z n, 0 ≤ z → z < (j : Int) → Bv ps gs i p y k z n → n ∈ ns) ∧ ∀ z, 0 ≤ z → z < (j : Int) → ¬ Cl p y z → ns ≠ [])
  ?_ 9 (y + 1).toNat ⟨0, .slice none 0 0, fun _ => False, [], by omega, by omega, ?_, ?_, ?_, ?_, ?_, ?_, ?_, Gw.none, by simp, fun _ _ => rfl, by omega, by simp, fun z n h1 h2 => by omega, fun z h1 h2 => by omega⟩ (by omega) (by omega)
 rotate_left
 ·simp (disch:=first|(simp only [yk,seval];done)|omega|(simp only [yz]<;>omega)|fail) only [yg,seval] <;> rfl
 ·simp (disch:=first|(simp only [yk,seval];done)|omega|(simp only [yz]<;>omega)|fail) only [yg,seval]
 ·simp (disch:=first|(simp only [yk,seval];done)|omega|(simp only [yz]<;>omega)|fail) only [yg,seval]
 ·simp (disch:=first|(simp only [yk,seval];done)|omega|(simp only [yz]<;>omega)|fail) only [yg,seval]
 ·simp (disch:=first|(simp only [yk,seval];done)|omega|(simp only [yz]<;>omega)|fail) only [yg,seval]
 ·simp (disch:=first|(simp only [yk,seval];done)|omega|(simp only [yz]<;>omega)|fail) only [yg,seval]
 ·simp (disch:=first|(simp only [yk,seval];done)|omega|(simp only [yz]<;>omega)|fail) only [yg,seval]
 rintro M1 q e H1 ⟨j, v, S, ns, rfl, hj, g25, g24, g3, g6, g1, g2, g9, gw, nl, old, sz, ex, al, nn⟩
 have b3 := (old H.size (by omega)).trans b3G
 have b6 := (old (H.size + 1) (by omega)).trans b6G
 have frH : Fr H H1 := ⟨by omega, fun q hq => by rw [old q (by omega)]; exact fr0.same q hq⟩
 simp (disch:=first|(simp only [yk,seval];done)|omega|(simp only [yz]<;>omega)|fail) only [↓yp,yq0,yq1,yq2,yq3,yq4,yl,ys0,ys1,seval,fitB,newC,endD,endR,yrg,g25,g24]
 refine ⟨fun hT => ?_, fun hT => ?_⟩
 rotate_left
 ·have hjy : (j : Int) = y + 1 := by have := of_decide_eq_false hT; omega
  obtain ⟨z0, hz0, hc0⟩ := opn_some hok (hst.sp p (List.mem_of_getElem? hp)) hy
  have hne : ns ≠ [] := nn z0 hz0.1 (by omega) hc0
  have hnl : ns.length ≠ 0 := fun h0 => hne (List.length_eq_zero_iff.1 h0)
  obtain ⟨b, al', rfl, s1, k1, -⟩ := gw.cons hnl
  have rn : Rw intE H1 (some ⟨b, 0, none⟩) ns := Rw.of (r := []) (gw.own _ s1).2 (by rw [k1]; rfl) (by rw [List.append_nil])
  have h108 := fun (N : Nat) => c108 (N := N) (cap := OPEN + 1) rn hne (by omega)
  have h109 := fun (N : Nat) => c109 (N := N) (cap := OPEN + 1) rn hne (by omega)
  simp (disch:=first|(simp only [yk,seval];done)|omega|(simp only [yz]<;>omega)|fail) only [↓yp,yq0,yq1,yq2,yq3,yq4,yl,ys0,ys1,seval,fitB,newC,endD,endR,yrg,g9,g6,h108,h109,b6,A_build st_bdS_38]
  obtain ⟨q1, q2⟩ := lmn_ok hne
  obtain ⟨q3, q4⟩ := lmx_ok hne
  obtain ⟨za, ha, hba⟩ := ex _ q1
  obtain ⟨zb, hb', hbb⟩ := ex _ q3
  refine ⟨_, _, rfl, Fr.put frH (by omega) _, ⟨za, by omega, hba⟩, ⟨zb, by omega, hbb⟩, fun z n hz hb => ?_⟩
  have := al z n hz.1 (by omega) hb
  exact ⟨q2 n this, q4 n this⟩
 have hlt : (j : Int) < y + 1 := of_decide_eq_true hT
 have hw2 : w64 ((j : Int) + 1) = ((j + 1 : Nat) : Int) := by rw [w64_of (by omega)]; omega
 have hwz : wi (j : Int) 0 y = true := wi_of (by omega)
 have next : ∀ z : Int, 0 ≤ z → z < ((j + 1 : Nat) : Int) → z < (j : Int) ∨ z = (j : Int) := fun z h1 h2 => by omega
 by_cases hcl : Cl p y (j : Int)
 ·have h20 := fun (N : Nat) => c20d (N := N) (cap := cap) (cap' := cap') (z := (j : Nat)) (h.hs.fr frH) (h.hg.fr frH) (fun e => absurd e hgn) (by have := hst.l4; omega) (by have := hst.g4; omega) hask hp hok hwy hwz hcl
  simp (disch:=first|(simp only [yk,seval];done)|omega|(simp only [yz]<;>omega)|fail) only [↓yp,yq0,yq1,yq2,yq3,yq4,yl,ys0,ys1,seval,fitB,newC,endD,endR,yrg,g25,g24,g3,g6,g1,g2,b3,h20,hw2]
  refine ⟨(y + 1 - (j + 1 : Nat)).toNat, by omega, j + 1, v, S, ns, rfl, by omega, ?_, ?_, ?_, ?_, ?_, ?_, ?_, gw.same (by first|omega|(simp only [yz]<;>omega)) (fun q hq => ?_), by omega, fun q hq => ?_, by (first | omega | (simp only [yz] <;> omega)), fun n hn => ?_, fun z n h1 h2 h3 => ?_, fun z h1 h2 h3 => ?_⟩
  ·simp (disch:=first|(simp only [yk,seval];done)|omega|(simp only [yz]<;>omega)|fail) only [yg,seval]
  ·simp (disch:=first|(simp only [yk,seval];done)|omega|(simp only [yz]<;>omega)|fail) only [yg,seval,g24]
  ·simp (disch:=first|(simp only [yk,seval];done)|omega|(simp only [yz]<;>omega)|fail) only [yg,seval,g3]
  ·simp (disch:=first|(simp only [yk,seval];done)|omega|(simp only [yz]<;>omega)|fail) only [yg,seval,g6]
  ·simp (disch:=first|(simp only [yk,seval];done)|omega|(simp only [yz]<;>omega)|fail) only [yg,seval,g1]
  ·simp (disch:=first|(simp only [yk,seval];done)|omega|(simp only [yz]<;>omega)|fail) only [yg,seval,g2]
  ·simp (disch:=first|(simp only [yk,seval];done)|omega|(simp only [yz]<;>omega)|fail) only [yg,seval,g9]
  ·have := gw.own q hq
   simp (disch:=first|(simp only [yk,seval];done)|omega|(simp only [yz]<;>omega)|fail) only [yg,seval]
  ·rw [← old q hq]
   simp (disch:=first|(simp only [yk,seval];done)|omega|(simp only [yz]<;>omega)|fail) only [yg,seval]
  ·obtain ⟨z, hz, hb⟩ := ex n hn
   exact ⟨z, by omega, hb⟩
  ·rcases next z h1 h2 with hz | rfl
   ·exact al z n h1 hz h3
   ·exact absurd hcl h3.1
  ·rcases next z h1 h2 with hz | rfl
   ·exact nn z h1 hz h3
   ·exact absurd hcl h3
 ·simp (disch:=first|(simp only [yk,seval];done)|omega|(simp only [yz]<;>omega)|fail) only [↓yp,yq0,yq1,yq2,yq3,yq4,yl,ys0,ys1,seval,fitB,newC,endD,endR,yrg,g25,g24,g3,g6,g1,g2,b3,hw2]
  refine c20 (h.hs.fr frH) (h.hg.fr frH) (fun e => absurd e hgn) (by have := hst.l4; omega) (by have := hst.g4; omega) hask hp hok hwy hwz hcl (by omega) (by omega) ?_
  intro k1 x1 a2 x2 H2 fr2 ob og
  have s2 := fr2.size
  simp (disch:=first|(simp only [yk,seval];done)|omega|(simp only [yz]<;>omega)|fail) only [↓yp,yq0,yq1,yq2,yq3,yq4,yl,ys0,ys1,seval,fitB,newC,endD,endR,yrg,g25,g24,g3,g6,g1,g2,b3,hw2]
  have hz : 0 ≤ (j : Int) ∧ (j : Int) ≤ y := by omega
  have hst' := chkS_ok (opn_chk hst hp hok hy hz hcl)
  refine c77 (by first|omega|(simp only [yz]<;>omega)) (by omega) ?_
  intro mk H3 fr3 m1 m2 m3
  have s3 := fr3.size
  have o3 := fr3.same
  simp only [size_put,size_alloc] at s3 m1 o3
  have frA : Fr H2 H3 := ⟨by omega, fun q hq => by rw [o3 q (by omega), get_put_ne (by omega), get_alloc_lt hq]⟩
  simp (disch:=first|(simp only [yk,seval];done)|omega|(simp only [yz]<;>omega)|fail) only [↓yp,yq0,yq1,yq2,yq3,yq4,yl,ys0,ys1,seval,fitB,newC,endD,endR,yrg]
  have hln : (ps.set i (opn p y j)).length = ps.length := List.length_set ..
  have hb97 := c97M (cap := x1) (cap' := x2) (L := H2.size) (M := M1 + 18490) (ob.rw.fr frA) (og.rw.fr frA) (by rw [hln]; exact hst.l4) (fun q hq => Pk.isB_ok (List.all_eq_true.1 hst'.pb q hq)) hst.g4 h.gd k (by have := hst.lo; omega) m2 (by rw [m3]; exact BrI.nil) (by omega) (by omega)
  rw [hln] at hb97
  refine resK_lowQ hb97 (by omega) ?_
  rintro f _ H4 ⟨-, Ls, pa, c, n, rfl, -, -, -, -, hO, sz4, sm4, -⟩
  rw [stk_opn hp] at hO
  have o14 : ∀ q, q < H1.size → H4.get q = H1.get q := fun q hq => by rw [sm4 q (by omega) (by omega), frA.same q (by omega)]; exact fr2.same q hq
  simp (disch:=first|(simp only [yk,seval];done)|omega|(simp only [yz]<;>omega)|fail) only [↓yp,yq0,yq1,yq2,yq3,yq4,yl,ys0,ys1,seval,fitB,newC,endD,endR,yrg,g9,A_buildSlice st_brS_49_1]
  refine gw_append (i := ns.length) (cs := intE.fl ns) (news := [.int .i64 n]) st_apS_49 (gw.same (by first|omega|(simp only [yz]<;>omega)) fun q hq => by rw [get_alloc_lt (by have := (gw.own q hq).2; omega)]; exact o14 q (gw.own q hq).2) (by first|omega|(simp only [yz]<;>omega)) (by rw [fl_length]; rfl) (by unfold srcCells; simp (disch:=first|(simp only [yk,seval];done)|omega|(simp only [yz]<;>omega)|fail) only [yg,seval] <;> rfl) (by omega) (by omega) rfl (by omega) ?_
  intro a5 c5 H5 hs5 fs5 gw5
  simp only [size_alloc] at hs5 fs5 gw5
  have hfl : intE.fl ns ++ [.int .i64 n] = intE.fl (ns ++ [n]) := by rw [fl_app]; rfl
  have hl5 : (ns ++ [n]).length = ns.length + 1 := List.length_append ..
  rw [hfl, ← hl5] at gw5
  simp (disch:=first|(simp only [yk,seval];done)|omega|(simp only [yz]<;>omega)|fail) only [↓yp,yq0,yq1,yq2,yq3,yq4,yl,ys0,ys1,seval,fitB,newC,endD,endR,yrg,g25,hw2]
  have hbj : Bv ps gs i p y k (j : Int) n := ⟨hcl, hO⟩
  refine ⟨(y + 1 - (j + 1 : Nat)).toNat, by omega, j + 1, .slice a5 (ns.length + 1) c5, fun q => S q ∨ q = H4.size + 1, ns ++ [n], rfl, by omega, ?_, ?_, ?_, ?_, ?_, ?_, ?_, by rw [← hl5]; exact gw5, by omega, fun q hq => ?_, by omega, fun n' hn => ?_, fun z n' h1 h2 h3 => ?_, fun z h1 h2 h3 => by simp⟩
  ·simp (disch:=first|(simp only [yk,seval];done)|omega|(simp only [yz]<;>omega)|fail) only [yg,seval]
  ·simp (disch:=first|(simp only [yk,seval];done)|omega|(simp only [yz]<;>omega)|fail) only [yg,seval,g24]
  ·simp (disch:=first|(simp only [yk,seval];done)|omega|(simp only [yz]<;>omega)|fail) only [yg,seval,g3]
  ·simp (disch:=first|(simp only [yk,seval];done)|omega|(simp only [yz]<;>omega)|fail) only [yg,seval,g6]
  ·simp (disch:=first|(simp only [yk,seval];done)|omega|(simp only [yz]<;>omega)|fail) only [yg,seval,g1]
  ·simp (disch:=first|(simp only [yk,seval];done)|omega|(simp only [yz]<;>omega)|fail) only [yg,seval,g2]
  ·simp (disch:=first|(simp only [yk,seval];done)|omega|(simp only [yz]<;>omega)|fail) only [yg,seval]
  ·rw [fs5 q (by omega) (fun hS => by have := (gw.own q hS).1; omega), get_alloc_lt (by omega), o14 q (by omega)]
   exact old q hq
  ·rcases List.mem_append.1 hn with hn | hn
   ·obtain ⟨z, hz, hb⟩ := ex n' hn
    exact ⟨z, by omega, hb⟩
   ·simp only [List.mem_singleton] at hn
    subst hn
    exact ⟨j, by omega, hbj⟩
  ·rcases next z h1 h2 with hz | rfl
   ·exact List.mem_append_left _ (al z n' h1 hz h3)
   ·exact List.mem_append_right _ (by rw [h3.2.uniq hO]; simp)
end
end Go.Am.K
