import Derived.Test.YtbofjfjopeaefaaGreatT41
import Derived.Test.YtbofjfjopeaefaaGreatT30
import Derived.Test.YtbofjfjopeaefaaGreatT38
set_option linter.unusedSimpArgs false
set_option linter.unusedVariables false
namespace Go.Am.K
open Go.Proofs
variable {T : Tab} {P : Program} {N L : Nat} {H H' H'' : AHeap} {Q : Bool → Value → AHeap → Prop}
theorem Mk.fits {k : Nat} {P M : Int} {ps : List Pk} {gs : List Gd} {rs : List Int} {lots : Int} (h : Mk k P M ps gs rs lots) : Fits ps rs ps.length := fun j p f _ hp hf => by
 have h1 := h.ok j p f hp hf
 exact ⟨h1.re.1, h1.sp.2⟩
section
variable {kq cq i5 b1 c1 b2 c2 b3 c3 b4 c4 i10 : Nat} {aq : Option Addr} {bq rs l : List Int} {ps : List Pk} {gs : List Gd} {lots lo hi sv : Int} {e e' : VT}
theorem LS.blocks (I : LS H H' 268 kq aq bq cq i5 b1 c1 b2 c2 b3 c3 ps gs rs lots e) (h1 : 1 ≤ ps.length) (h2 : 1 ≤ gs.length) (h3 : 1 ≤ rs.length) : b1 < H'.size ∧ b2 < H'.size ∧ b3 < H'.size := by
 obtain ⟨b, o, c, e1, l1, -⟩ := I.r1.rw.get (by rintro rfl; simp at h1)
 obtain ⟨b', o', c', e2, l2, -⟩ := I.r2.rw.get (by rintro rfl; simp at h2)
 obtain ⟨b'', o'', c'', e3, l3, -⟩ := I.r3.rw.get (by rintro rfl; simp at h3)
 cases e1
 cases e2
 cases e3
 exact ⟨l1, l2, l3⟩
end
end Go.Am.K
namespace Go.Am.K
open Go.Proofs
variable {T : Tab} {P : Program} {N L : Nat} {H H' H'' : AHeap} {Q : Bool → Value → AHeap → Prop}
section
variable {ps : List Pk} {gs : List Gd} {l il rs : List Int} {lots op fd n m : Int} {i : Nat} {p : Pk}
theorem il_ih (hp : p.Ok) (hs : p.f ≤ p.hi) (hm : 0 ≤ m ∧ m ≤ p.s) : p.il m ≤ p.ih m := by
 obtain ⟨z1, z2, z3, z4⟩ := hp
 have h5 : p.hi ≤ p.s := by unfold Pk.hi; split <;> omega
 unfold Pk.il Pk.ih
 split <;> split <;> omega
end
end Go.Am.K
namespace Go.Am.K
open Go.Proofs
section
variable {p : Pk} {m fl pk fo : Int} {f g : Nat → Bool} {j i : Nat} {fs : List Int}
theorem orM_iff {x : Nat} (hj : j < 25) : orM f g x 25 j = true ↔ f j = true ∨ x ≤ j ∧ g (j - x) = true := by
 unfold orM
 simp only [Bool.or_eq_true,Bool.and_eq_true,decide_eq_true_eq]
 constructor
 ·rintro (h | ⟨⟨h1, _⟩, h3⟩)
  ·exact .inl h
  ·exact .inr ⟨h1, h3⟩
 ·rintro (h | ⟨h1, h3⟩)
  ·exact .inl h
  ·exact .inr ⟨⟨h1, by omega⟩, h3⟩
theorem orX_iff (hj : j < 25) : ∀ x : Nat, orX p m fl f g x j = true ↔ f j = true ∨ ∃ y : Nat, y < x ∧ canB p m fl y = true ∧ y ≤ j ∧ g (j - y) = true
 | 0 => by
  show f j = true ↔ _
  constructor
  ·exact .inl
  ·rintro (h | ⟨y, h, _⟩)
   ·exact h
   ·omega
 | x + 1 => by
  have ih := orX_iff hj x
  show (bif canB p m fl x then orM (orX p m fl f g x) g x 25 else orX p m fl f g x) j = true ↔ _
  cases hC : canB p m fl x
  ·rw [cond_false, ih]
   constructor
   ·rintro (h | ⟨y, h1, h2⟩)
    ·exact .inl h
    ·exact .inr ⟨y, by omega, h2⟩
   ·rintro (h | ⟨y, h1, h2⟩)
    ·exact .inl h
    ·refine .inr ⟨y, ?_, h2⟩
     by_cases e : y = x
     ·subst e; rw [hC] at h2; cases h2.1
     ·omega
  ·rw [cond_true, orM_iff hj, ih]
   constructor
   ·rintro ((h | ⟨y, h1, h2⟩) | ⟨h1, h2⟩)
    ·exact .inl h
    ·exact .inr ⟨y, by omega, h2⟩
    ·exact .inr ⟨x, by omega, hC, h1, h2⟩
   ·rintro (h | ⟨y, h1, h2⟩)
    ·exact .inl (.inl h)
    ·by_cases e : y = x
     ·subst e; exact .inr h2.2
     ·exact .inl (.inr ⟨y, by omega, h2⟩)
def tried (i : Nat) (pk fo fl : Int) : Prop := ¬ ((i : Int) = pk ∧ fl ≠ fo)
theorem orK_iff (hj : j < 25) : ∀ k : Nat, k ≤ fs.length → (orK p m i pk fo fs f g k j = true ↔ f j = true ∨ ∃ fl, fl ∈ fs.take k ∧ tried i pk fo fl ∧ ∃ y : Nat, y < 7 ∧ canB p m fl y = true ∧ y ≤ j ∧ g (j - y) = true)
 | 0, _ => by
  show f j = true ↔ _
  constructor
  ·exact .inl
  ·rintro (h | ⟨fl, h, _⟩)
   ·exact h
   ·simp at h
 | k + 1, hk => by
  have ih := orK_iff hj k (by omega)
  obtain ⟨fl, hfl⟩ : ∃ fl, fs[k]? = some fl := ⟨fs[k], by simp [show k < fs.length by omega]⟩
  have e : orK p m i pk fo fs f g (k + 1) = bif decide ((i : Int) = pk) && !decide (fl = fo) then orK p m i pk fo fs f g k else orX p m fl (orK p m i pk fo fs f g k) g 7 := by
   show (match fs[k]? with | some fl => _ | none => _) = _
   rw [hfl]
  have et : fs.take (k + 1) = fs.take k ++ [fl] := by rw [List.take_add_one, hfl]; rfl
  rw [e, et]
  cases hB : decide ((i : Int) = pk) && !decide (fl = fo)
  ·have ht : tried i pk fo fl := by
    rintro ⟨h1, h2⟩
    rw [decide_eq_true h1, decide_eq_false h2] at hB
    cases hB
   rw [cond_false, orX_iff hj, ih]
   constructor
   ·rintro ((h | ⟨fl', h1, h2⟩) | h)
    ·exact .inl h
    ·exact .inr ⟨fl', List.mem_append_left _ h1, h2⟩
    ·exact .inr ⟨fl, List.mem_append_right _ (by simp), ht, h⟩
   ·rintro (h | ⟨fl', h1, h2, h3⟩)
    ·exact .inl (.inl h)
    ·rcases List.mem_append.1 h1 with h1 | h1
     ·exact .inl (.inr ⟨fl', h1, h2, h3⟩)
     ·obtain rfl : fl' = fl := by simpa using h1
      exact .inr h3
  ·have ht : ¬ tried i pk fo fl := by
    simp only [Bool.and_eq_true,decide_eq_true_eq,Bool.not_eq_true',decide_eq_false_iff_not] at hB
    exact fun h => h hB
   rw [cond_true, ih]
   constructor
   ·rintro (h | ⟨fl', h1, h2⟩)
    ·exact .inl h
    ·exact .inr ⟨fl', List.mem_append_left _ h1, h2⟩
   ·rintro (h | ⟨fl', h1, h2, h3⟩)
    ·exact .inl h
    ·rcases List.mem_append.1 h1 with h1 | h1
     ·exact .inr ⟨fl', h1, h2, h3⟩
     ·obtain rfl : fl' = fl := by simpa using h1
      exact absurd h2 ht
theorem rng_mem {f : Int} {n : Nat} {x : Int} : x ∈ rng f n ↔ f ≤ x ∧ x < f + n := by
 unfold rng
 rw [List.mem_map]
 constructor
 ·rintro ⟨k, hk, rfl⟩
  have := List.mem_range.1 hk
  omega
 ·rintro ⟨h1, h2⟩
  exact ⟨(x - f).toNat, List.mem_range.2 (by omega), by omega⟩
theorem canB_iff {y : Nat} : canB p m fl y = true ↔ (y : Int) ≤ m ∧ (y : Int) ≤ fl ∧ fl - y ≤ p.s - m := by
 unfold canB
 simp only [Bool.and_eq_true,decide_eq_true_eq]
 omega
theorem any_iff (hp : p.Ok) (hs : p.f ≤ p.hi) (hm : 0 ≤ m ∧ m ≤ p.s) {y : Nat} : (∃ fl, fl ∈ rng p.f (p.hi + 1 - p.f).toNat ∧ y < 7 ∧ canB p m fl y = true) ↔ p.il m ≤ y ∧ (y : Int) ≤ p.ih m := by
 obtain ⟨z1, z2, z3, z4⟩ := hp
 have h5 : p.hi ≤ p.s := by unfold Pk.hi; split <;> omega
 unfold Pk.il Pk.ih
 constructor
 ·rintro ⟨fl, h1, h2, h3⟩
  rw [rng_mem] at h1
  rw [canB_iff] at h3
  split <;> split <;> omega
 ·intro h
  refine ⟨if p.f < y then y else p.f, ?_, ?_, ?_⟩
  ·rw [rng_mem]; split at h <;> split at h <;> split <;> omega
  ·split at h <;> split at h <;> omega
  ·rw [canB_iff]; split at h <;> split at h <;> split <;> omega
theorem take_sum {t : List Int} {k : Nat} {x : Int} (hk : t[k]? = some x) : isum (t.take (k + 1)) = isum (t.take k) + x := by
 rw [List.take_add_one, hk, isum_app]
 show _ + (x + 0) = _
 omega
theorem trF_all {ps : List Pk} {gs : List Gd} {lots : Int} {l : List Int} (hst : StOk ps gs lots) (ho : LotOk ps l) (hpk : pk < 0) : ∀ i : Nat, i ≤ ps.length → (0 ≤ isum ((Go.Am.fo true ps l).take i) ∧ isum ((Go.Am.fo true ps l).take i) ≤ isum ((Go.Am.fo false ps l).take i)) ∧ ∀ j : Nat, j < 25 → (trF ps l pk fo i j = true ↔ isum ((Go.Am.fo true ps l).take i) ≤ j ∧ (j : Int) ≤ isum ((Go.Am.fo false ps l).take i))
 | 0, _ => by
  refine ⟨⟨by simp [isum], by simp [isum]⟩, fun j _ => ?_⟩
  show decide (j = 0) = true ↔ _
  simp only [decide_eq_true_eq,List.take_zero,isum]
  omega
 | i + 1, hi => by
  obtain ⟨ih0, ih⟩ := trF_all hst ho hpk i (by omega)
  obtain ⟨p, hp⟩ : ∃ p, ps[i]? = some p := ⟨ps[i], by simp [show i < ps.length by omega]⟩
  obtain ⟨m, hm⟩ : ∃ m, l[i]? = some m := ⟨l[i]'(by rw [ho.len]; omega), by simp [show i < l.length by rw [ho.len]; omega]⟩
  have hok : p.Ok := Pk.isB_ok (List.all_eq_true.1 hst.pb p (List.mem_of_getElem? hp))
  have hsp := hst.sp p (List.mem_of_getElem? hp)
  have hmp := ho.ok i m p hm hp
  have e1 := take_sum (fo_get (s := true) hp hm)
  have e2 := take_sum (fo_get (s := false) hp hm)
  rw [show p.sel true m = p.il m from rfl] at e1
  rw [show p.sel false m = p.ih m from rfl] at e2
  have hab := il_ih hok hsp hmp
  have hil : 0 ≤ p.il m := by unfold Pk.il; split <;> omega
  refine ⟨by omega, fun j hj => ?_⟩
  have eT : trF ps l pk fo (i + 1) = orK p m i pk fo (rng p.f (p.hi + 1 - p.f).toNat) (fun _ => false) (trF ps l pk fo i) (p.hi + 1 - p.f).toNat := by
   show (match ps[i]?, l[i]? with | some p, some m => _ | _, _ => _) = _
   rw [hp, hm]
  have hle : (p.hi + 1 - p.f).toNat ≤ (rng p.f (p.hi + 1 - p.f).toNat).length := by rw [rng_len]; exact Nat.le_refl _
  rw [eT, orK_iff hj _ hle, List.take_of_length_le (by rw [rng_len]; exact Nat.le_refl _), e1, e2, step_iv hab ih0.2]
  constructor
  ·rintro (h | ⟨fl, h1, -, y, h2, h3, h4, h5⟩)
   ·cases h
   ·obtain ⟨k1, k2⟩ := (any_iff hok hsp hmp).1 ⟨fl, h1, h2, h3⟩
    obtain ⟨k3, k4⟩ := (ih (j - y) (by omega)).1 h5
    exact ⟨y, k1, k2, by omega, by omega⟩
  ·rintro ⟨x, h1, h2, h3, h4⟩
   obtain ⟨y, rfl⟩ : ∃ y : Nat, x = y := ⟨x.toNat, by omega⟩
   obtain ⟨fl, k1, k2, k3⟩ := (any_iff hok hsp hmp).2 ⟨h1, h2⟩
   refine .inr ⟨fl, k1, fun h => by omega, y, k2, k3, by omega, (ih (j - y) (by omega)).2 ⟨by omega, by omega⟩⟩
end
end Go.Am.K
namespace Go.Am.K
open Go.Proofs
variable {T : Tab} {P : Program} {N L : Nat} {H H' H'' : AHeap} {Q : Bool → Value → AHeap → Prop}
theorem fB_iv {f : Nat → Bool} {lo hi : Int} (h : ∀ j : Nat, j < 25 → (f j = true ↔ lo ≤ j ∧ (j : Int) ≤ hi)) : fB f = ivB 25 lo hi := by
 unfold fB ivB
 refine List.map_congr_left fun j hj => ?_
 have := h j (List.mem_range.1 hj)
 cases hf : f j
 ·rw [hf] at this
  cases hd : decide (lo ≤ (j : Int)) && decide ((j : Int) ≤ hi)
  ·rfl
  ·simp only [Bool.and_eq_true,decide_eq_true_eq] at hd
   exact absurd (this.2 hd) (by decide)
 ·have h2 := this.1 hf
  simp [h2]
theorem fo_24 {ps : List Pk} {gs : List Gd} {lots : Int} {l : List Int} (hst : StOk ps gs lots) (ho : LotOk ps l) : 0 ≤ isum (Go.Am.fo false ps l) ∧ isum (Go.Am.fo false ps l) ≤ 24 := by
 have e := fo_len (s := false) (ps := ps) (m := l) (by rw [ho.len]; exact Nat.le_refl _)
 have := isum_le (l := Go.Am.fo false ps l) (m := 6) fun x hx => by
  obtain ⟨j, hj⟩ := List.getElem?_of_mem hx
  have h1 := (List.getElem?_eq_some_iff.1 hj).1
  have g1 : j < ps.length := by omega
  have g2 : j < l.length := by rw [ho.len]; omega
  rw [fo_get (p := ps[j]) (n := l[j]) (by simp [g1]) (by simp [g2])] at hj
  cases hj
  obtain ⟨z1, z2, z3, z4⟩ := Pk.isB_ok (List.all_eq_true.1 hst.pb _ (List.getElem_mem g1))
  have h0 := hst.sp _ (List.getElem_mem g1)
  have hm := ho.ok j l[j] ps[j] (by simp [g2]) (by simp [g1])
  have h5 : ps[j].hi ≤ ps[j].w := by unfold Pk.hi; split <;> omega
  show 0 ≤ ps[j].ih l[j] ∧ ps[j].ih l[j] ≤ 6
  unfold Pk.ih
  split <;> omega
 have := hst.l4
 have h4 : ((Go.Am.fo false ps l).length : Int) ≤ 4 := by omega
 omega
section
variable {a a' al : Option Addr} {cap cap' cl : Nat} {ps : List Pk} {gs : List Gd} {lots : Int} {l : List Int}
set_option maxHeartbeats 2000000 in
theorem c82 (hs : Rw pkE H a ps) (hl : Rw intE H al l) (hst : StOk ps gs lots) (ho : LotOk ps l) :
  acall tabA (aexec tabA Tryz.prog (N + 1400)) 67 [.agg ⟨[.slice a ps.length cap, .slice a' gs.length cap', .int .i64 lots]⟩, .slice al l.length cl] H = some (true, .agg ⟨[.int .i64 (isum (Go.Am.fo true ps l)), .int .i64 (isum (Go.Am.fo false ps l))]⟩, H, H.size) := by
 refine call_quiet (k := 9) (rs := [.cell 4 37]) rfl fn_67 rfl rfl rfl ?_ rfl
 have hlen := ho.len
 have e1 := fo_len (s := true) (ps := ps) (m := l) (by omega)
 have e2 := fo_len (s := false) (ps := ps) (m := l) (by omega)
 obtain ⟨⟨t0, t1⟩, t2⟩ := trF_all (pk := -1) (fo := 0) hst ho (by omega) ps.length (Nat.le_refl _)
 rw [List.take_of_length_le (by omega)] at t0
 rw [List.take_of_length_le (by omega), List.take_of_length_le (by omega)] at t1 t2
 have hF := fB_iv t2
 have h24 := fo_24 hst ho
 have hE := ends_iv (n := 25) (lo := isum (Go.Am.fo true ps l)) (hi := isum (Go.Am.fo false ps l)) t0 (by omega)
 rw [if_pos t1] at hE
 simp (disch:=first|(simp only [yk,seval];done)|omega|(simp only [yz]<;>omega)|fail) only [↓yp,yA,ys0,ys1,seval,fitB,newC,endD,endR,yrg]
 refine c87 (gs := gs) (hs.fr (by repeat first|exact Fr.refl _|assumption|refine Fr.allocd ?_ _|refine Fr.put ?_ (by first|omega|(simp only [yz]<;>omega)) _)) (hl.fr (by repeat first|exact Fr.refl _|assumption|refine Fr.allocd ?_ _|refine Fr.put ?_ (by first|omega|(simp only [yz]<;>omega)) _)) hst ho (by first|omega|(simp only [yz]<;>omega)) (by omega) ?_
 intro b H2 fr2 hb hb2 bB
 have f2 := fr2.size
 have s2 := fr2.same
 simp only [size_alloc] at f2 s2 hb2
 rw [hF] at bB
 have b4 : H2.get (H.size + 1) = .rw [.int .i64 0, .int .i64 0] 37 false [] := by rw [s2 _ (by omega)]; simp (disch:=first|(simp only [yk,seval];done)|omega|(simp only [yz]<;>omega)|fail) only [yg,seval]
 have hr : Rw boE H2 (some ⟨b, 0, none⟩) (ivB 25 (isum (Go.Am.fo true ps l)) (isum (Go.Am.fo false ps l))) := Rw.of (r := []) hb (by rw [bB]; rfl) (by rw [List.append_nil])
 have h85 := fun (N : Nat) => c85 (N := N) (cap := 25) hr (by rw [ivB_len]; omega)
 simp only [ivB_len] at h85
 rw [hE] at h85
 simp (disch:=first|(simp only [yk,seval];done)|omega|(simp only [yz]<;>omega)|fail) only [↓yp,yA,ys0,ys1,seval,fitB,newC,endD,endR,yrg,h85,b4]
end
end Go.Am.K
namespace Go.Am.K
open Go.Proofs
theorem fn_3 : tabA.fn 3 = some Tryz.f3 := by kernel_rfl
theorem fn_15 : tabA.fn 15 = some Tryz.f15 := by kernel_rfl
theorem fn_17 : tabA.fn 17 = some Tryz.f17 := by kernel_rfl
theorem fn_20 : tabA.fn 20 = some Tryz.f20 := by kernel_rfl
theorem fn_22 : tabA.fn 22 = some Tryz.f22 := by kernel_rfl
theorem fn_76 : tabA.fn 76 = some Tryz.f76 := by kernel_rfl
theorem fn_78 : tabA.fn 78 = some Tryz.f78 := by kernel_rfl
end Go.Am.K
namespace Go.Am.K
open Go.Proofs
variable {T : Tab} {P : Program} {N L : Nat} {H H' H'' : AHeap} {Q : Bool → Value → AHeap → Prop}
def flS (i : Nat) (v : Value) (H : AHeap) (L : Nat) (Q : Bool → Value → AHeap → Prop) (_ : Tag Q := .mk) : Prop := match still (aField tabA (fun _ => some v) H 37 (.tmp 0) i) with
 | some (b, v, H', m) => L ≤ m ∧ Q b v H'
 | none => False
theorem A_flS {i : Nat} {ex : Exec} {t : Operand → Option Value} {x : Operand} : A tabA Tryz.prog ex t H L (.field 37 x i) Q = optK (t x) fun v => flS i v H L Q := by
 unfold A
 show (match still (aField tabA t H 37 x i) with
  | some (b, v, H', m) => L ≤ m ∧ Q b v H'
  | none => False) = _
 cases hs : t x with
 | none =>
  have : aField tabA t H 37 x i = none := by unfold aField; rw [hs]
  rw [this]; rfl
 | some v =>
  have : aField tabA t H 37 x i = aField tabA (fun _ => some v) H 37 (.tmp 0) i := by unfold aField; rw [hs]
  rw [this]; rfl
theorem flS_1 {s w : Int} : flS 1 (.agg ⟨[.int .i64 s, .int .i64 w]⟩) H L Q = andK (L ≤ H.size) (Q true (.int .i64 w) H) := by
 have : aField tabA (fun _ => some (.agg ⟨[.int .i64 s, .int .i64 w]⟩)) H 37 (.tmp 0) 1 = some (.int .i64 w, H, H.size) := by kernel_rfl
 unfold flS
 rw [this]; rfl
section
variable {a a' al : Option Addr} {cap cap' cl : Nat} {ps : List Pk} {gs : List Gd} {lots : Int} {l : List Int} {u v w z x y : Value}
set_option maxHeartbeats 2000000 in
theorem c37e (hs : Rw pkE H a ps) (hgs : Rw gdE H a' gs) (hl : Rw intE H al l) (hll : l.length ≤ 8) (he : lotE ps gs lots l ≠ 0) :
  acall tabA (aexec tabA Tryz.prog (N + 500)) 14 [.agg ⟨[.slice a ps.length cap, .slice a' gs.length cap', .int .i64 lots]⟩, .slice al l.length cl] H = some (true, .tuple ⟨[.agg ⟨[.int .i64 0, .int .i64 0]⟩, .int .i64 (lotE ps gs lots l)]⟩, H, H.size) := by
 refine call_quiet (k := 19) (rs := [.cell 4 37, .tmp 5]) rfl fn_14 rfl rfl rfl ?_ rfl
 have fr : Fr H ((H.alloc (.rw [.slice a ps.length cap, .slice a' gs.length cap', .int .i64 lots] 25 false [])).alloc (.rw [.int .i64 0, .int .i64 0] 37 false [])) := by (repeat (first | exact Fr.refl _ | assumption | refine Fr.allocd ?_ _ | refine Fr.put ?_ (by first | omega | (simp only [yz] <;> omega)) _))
 have hlo := fun (N : Nat) => c74g (N := N) (cap := cap) (cap' := cap') (cl := cl) (lots := lots) (hs.fr fr) (hgs.fr fr) (hl.fr fr) hll
 have hA : decide (lotE ps gs lots l = 0) = false := by simp [he]
 simp (disch:=first|(simp only [yk,seval];done)|omega|(simp only [yz]<;>omega)|fail) only [↓yp,yA,ys0,ys1,seval,fitB,newC,endD,endR,yrg,hlo,hA,A_build st_bdS_37]
set_option maxHeartbeats 2000000 in
theorem c38e (hs : Rw pkE H a ps) (hgs : Rw gdE H a' gs) (hl : Rw intE H al l) (hll : l.length ≤ 8) (he : lotE ps gs lots l ≠ 0) :
  acall tabA (aexec tabA Tryz.prog (N + 500)) 19 [.agg ⟨[.slice a ps.length cap, .slice a' gs.length cap', .int .i64 lots]⟩, .slice al l.length cl] H = some (true, .tuple ⟨[.int .i64 0, .int .i64 (lotE ps gs lots l)]⟩, H, H.size) := by
 refine call_quiet (k := 21) (rs := [.tmp 4, .tmp 5]) rfl fn_19 rfl rfl rfl ?_ rfl
 have fr : Fr H (H.alloc (.rw [.slice a ps.length cap, .slice a' gs.length cap', .int .i64 lots] 25 false [])) := by (repeat (first | exact Fr.refl _ | assumption | refine Fr.allocd ?_ _ | refine Fr.put ?_ (by first | omega | (simp only [yz] <;> omega)) _))
 have hlo := fun (N : Nat) => c74g (N := N) (cap := cap) (cap' := cap') (cl := cl) (lots := lots) (hs.fr fr) (hgs.fr fr) (hl.fr fr) hll
 have hA : decide (lotE ps gs lots l = 0) = false := by simp [he]
 simp (disch:=first|(simp only [yk,seval];done)|omega|(simp only [yz]<;>omega)|fail) only [↓yp,yA,ys0,ys1,seval,fitB,newC,endD,endR,yrg,hlo,hA,A_build st_bdS_37]
set_option maxHeartbeats 2000000 in
theorem c39e (hs : Rw pkE H a ps) (hgs : Rw gdE H a' gs) (hl : Rw intE H al l) (hll : l.length ≤ 8) (he : lotE ps gs lots l ≠ 0) :
  acall tabA (aexec tabA Tryz.prog (N + 500)) 21 [.agg ⟨[.slice a ps.length cap, .slice a' gs.length cap', .int .i64 lots]⟩, .slice al l.length cl] H = some (true, .tuple ⟨[.int .i64 0, .int .i64 (lotE ps gs lots l)]⟩, H, H.size) := by
 refine call_quiet (k := 18) (rs := [.tmp 4, .tmp 5]) rfl fn_21 rfl rfl rfl ?_ rfl
 have fr : Fr H (H.alloc (.rw [.slice a ps.length cap, .slice a' gs.length cap', .int .i64 lots] 25 false [])) := by (repeat (first | exact Fr.refl _ | assumption | refine Fr.allocd ?_ _ | refine Fr.put ?_ (by first | omega | (simp only [yz] <;> omega)) _))
 have hlo := fun (N : Nat) => c74g (N := N) (cap := cap) (cap' := cap') (cl := cl) (lots := lots) (hs.fr fr) (hgs.fr fr) (hl.fr fr) hll
 have hA : decide (lotE ps gs lots l = 0) = false := by simp [he]
 simp (disch:=first|(simp only [yk,seval];done)|omega|(simp only [yz]<;>omega)|fail) only [↓yp,yA,ys0,ys1,seval,fitB,newC,endD,endR,yrg,hlo,hA,A_build st_bdS_37]
set_option maxHeartbeats 2000000 in
theorem z15e (hs : Rw pkE H a ps) (hgs : Rw gdE H a' gs) (hl : Rw intE H al l) (hll : l.length ≤ 8) (he : lotE ps gs lots l ≠ 0) :
  acall tabA (aexec tabA Tryz.prog (N + 700)) 15 [.agg ⟨[.slice a ps.length cap, .slice a' gs.length cap', .int .i64 lots]⟩, .slice al l.length cl] H = some (true, .tuple ⟨[.agg ⟨[.int .i64 0, .int .i64 0]⟩, .int .i64 (lotE ps gs lots l)]⟩, H, H.size) := by
 refine call_quiet (k := 17) (rs := [.cell 4 37, .tmp 5]) rfl fn_15 rfl rfl rfl ?_ rfl
 have fr : Fr H ((H.alloc (.rw [.slice a ps.length cap, .slice a' gs.length cap', .int .i64 lots] 34 false [])).alloc (.rw [.int .i64 0, .int .i64 0] 37 false [])) := by (repeat (first | exact Fr.refl _ | assumption | refine Fr.allocd ?_ _ | refine Fr.put ?_ (by first | omega | (simp only [yz] <;> omega)) _))
 have hlo := fun (N : Nat) => c80 (N := N) (cap := cap) (cap' := cap') (cl := cl) (lots := lots) (hs.fr fr) (hgs.fr fr) (hl.fr fr) hll
 have hA : decide (lotE ps gs lots l = 0) = false := by simp [he]
 simp (disch:=first|(simp only [yk,seval];done)|omega|(simp only [yz]<;>omega)|fail) only [↓yp,yA,ys0,ys1,seval,fitB,newC,endD,endR,yrg,hlo,hA,A_build st_bdS_37]
set_option maxHeartbeats 2000000 in
theorem z20e (hs : Rw pkE H a ps) (hgs : Rw gdE H a' gs) (hl : Rw intE H al l) (hll : l.length ≤ 8) (he : lotE ps gs lots l ≠ 0) :
  acall tabA (aexec tabA Tryz.prog (N + 700)) 20 [.agg ⟨[.slice a ps.length cap, .slice a' gs.length cap', .int .i64 lots]⟩, .slice al l.length cl] H = some (true, .tuple ⟨[.int .i64 0, .int .i64 (lotE ps gs lots l)]⟩, H, H.size) := by
 refine call_quiet (k := 16) (rs := [.tmp 4, .tmp 5]) rfl fn_20 rfl rfl rfl ?_ rfl
 have fr : Fr H (H.alloc (.rw [.slice a ps.length cap, .slice a' gs.length cap', .int .i64 lots] 34 false [])) := by (repeat (first | exact Fr.refl _ | assumption | refine Fr.allocd ?_ _ | refine Fr.put ?_ (by first | omega | (simp only [yz] <;> omega)) _))
 have hlo := fun (N : Nat) => c80 (N := N) (cap := cap) (cap' := cap') (cl := cl) (lots := lots) (hs.fr fr) (hgs.fr fr) (hl.fr fr) hll
 have hA : decide (lotE ps gs lots l = 0) = false := by simp [he]
 simp (disch:=first|(simp only [yk,seval];done)|omega|(simp only [yz]<;>omega)|fail) only [↓yp,yA,ys0,ys1,seval,fitB,newC,endD,endR,yrg,hlo,hA,A_build st_bdS_37]
set_option maxHeartbeats 2000000 in
theorem z22e (hs : Rw pkE H a ps) (hgs : Rw gdE H a' gs) (hl : Rw intE H al l) (hll : l.length ≤ 8) (he : lotE ps gs lots l ≠ 0) :
  acall tabA (aexec tabA Tryz.prog (N + 700)) 22 [.agg ⟨[.slice a ps.length cap, .slice a' gs.length cap', .int .i64 lots]⟩, .slice al l.length cl] H = some (true, .tuple ⟨[.int .i64 0, .int .i64 (lotE ps gs lots l)]⟩, H, H.size) := by
 refine call_quiet (k := 16) (rs := [.tmp 4, .tmp 5]) rfl fn_22 rfl rfl rfl ?_ rfl
 have fr : Fr H (H.alloc (.rw [.slice a ps.length cap, .slice a' gs.length cap', .int .i64 lots] 34 false [])) := by (repeat (first | exact Fr.refl _ | assumption | refine Fr.allocd ?_ _ | refine Fr.put ?_ (by first | omega | (simp only [yz] <;> omega)) _))
 have hlo := fun (N : Nat) => c80 (N := N) (cap := cap) (cap' := cap') (cl := cl) (lots := lots) (hs.fr fr) (hgs.fr fr) (hl.fr fr) hll
 have hA : decide (lotE ps gs lots l = 0) = false := by simp [he]
 simp (disch:=first|(simp only [yk,seval];done)|omega|(simp only [yz]<;>omega)|fail) only [↓yp,yA,ys0,ys1,seval,fitB,newC,endD,endR,yrg,hlo,hA,A_build st_bdS_37]
set_option maxHeartbeats 2000000 in
theorem z15 (hs : Rw pkE H a ps) (hgs : Rw gdE H a' gs) (hl : Rw intE H al l) (hll : l.length ≤ 8) (he : lotE ps gs lots l = 0) :
  acall tabA (aexec tabA Tryz.prog (N + 1500)) 15 [.agg ⟨[.slice a ps.length cap, .slice a' gs.length cap', .int .i64 lots]⟩, .slice al l.length cl] H = some (true, .tuple ⟨[.agg ⟨[.int .i64 (isum (Go.Am.fo true ps l)), .int .i64 (isum (Go.Am.fo false ps l))]⟩, .int .i64 0]⟩, H, H.size) := by
 refine call_quiet (k := 17) (rs := [.cell 4 37, .tmp 5]) rfl fn_15 rfl rfl rfl ?_ rfl
 have fr : Fr H ((H.alloc (.rw [.slice a ps.length cap, .slice a' gs.length cap', .int .i64 lots] 34 false [])).alloc (.rw [.int .i64 0, .int .i64 0] 37 false [])) := by (repeat (first | exact Fr.refl _ | assumption | refine Fr.allocd ?_ _ | refine Fr.put ?_ (by first | omega | (simp only [yz] <;> omega)) _))
 obtain ⟨e1, e2, e3⟩ := lotE_ok he
 have hlo := fun (N : Nat) => c80 (N := N) (cap := cap) (cap' := cap') (cl := cl) (lots := lots) (hs.fr fr) (hgs.fr fr) (hl.fr fr) hll
 have h82 := fun (N : Nat) => c82 (N := N) (cap := cap) (a' := a') (cap' := cap') (cl := cl) (gs := gs) (lots := lots) (hs.fr fr) (hl.fr fr) e1 e3
 have hA : decide (lotE ps gs lots l = 0) = true := by simp [he]
 simp (disch:=first|(simp only [yk,seval];done)|omega|(simp only [yz]<;>omega)|fail) only [↓yp,yA,ys0,ys1,seval,fitB,newC,endD,endR,yrg,hlo,hA,h82]
theorem lo_in (e : StOk ps gs lots) (o : LotOk ps l) : ∀ n ∈ l, 0 ≤ n ∧ n ≤ 6 := o.in fun p hp => Pk.isB_ok (List.all_eq_true.1 e.pb p hp)
theorem lo_sum (e : StOk ps gs lots) (o : LotOk ps l) : 0 ≤ isum l ∧ isum l ≤ 24 := by
 have h := lo_in e o
 have := isum_le (l := l) (m := 6) h
 have := o.len
 have := e.l4
 omega
set_option maxHeartbeats 4000000 in
theorem z76 (hs : Rw pkE H a ps) (hgs : Rw gdE H a' gs) (hl : Rw intE H al l) (e1 : StOk ps gs lots) (e3 : LotOk ps l) :
  acall tabA (aexec tabA Tryz.prog (N + 1500)) 76 [.agg ⟨[.slice a ps.length cap, .slice a' gs.length cap', .int .i64 lots]⟩, .slice al l.length cl] H = some (true, .int .i64 (sureV ps gs l), H, H.size) := by
 refine call_quiet (k := 34) (rs := [.tmp 4]) rfl fn_76 rfl rfl rfl ?_ rfl
 have fr : Fr H (H.alloc (.rw [.slice a ps.length cap, .slice a' gs.length cap', .int .i64 lots] 34 false [])) := by (repeat (first | exact Fr.refl _ | assumption | refine Fr.allocd ?_ _ | refine Fr.put ?_ (by first | omega | (simp only [yz] <;> omega)) _))
 have hll : l.length ≤ 8 := by have := e3.len; have := e1.l4; omega
 have hsz := lo_sum e1 e3
 have hin := lo_in e1 e3
 have h24 := fo_24 e1 e3
 have g4 := e1.g4
 have h81 := fun (N : Nat) (H' : AHeap) (f : Fr H H') => c81 (N := N) (cap := cl) (hl.fr f) hll (fun x hx => ⟨(hin x hx).1, by have := (hin x hx).2; omega⟩)
 have h81a := fun (N : Nat) => h81 N _ fr
 have h82 := fun (N : Nat) => c82 (N := N) (cap := cap) (a' := a') (cap' := cap') (cl := cl) (gs := gs) (lots := lots) (hs.fr fr) (hl.fr fr) e1 e3
 have b1 : (H.alloc (.rw [.slice a ps.length cap, .slice a' gs.length cap', .int .i64 lots] 34 false [])).get H.size = (.rw [.slice a ps.length cap, .slice a' gs.length cap', .int .i64 lots] 34 false []) := get_alloc_same
 by_cases h0 : isum l = 0
 ·have hv : sureV ps gs l = -1 := by
   unfold sureV
   rcases fstI_ge (p := hasG (isum l) (isum (Go.Am.fo false ps l))) (gs := gs) (k := 0) with h | ⟨i, x, -, -, h⟩
   ·exact h
   ·unfold hasG at h; rw [h0] at h; simp at h
  have hA : decide (isum l = 0) = true := by simp [h0]
  rw [hv]
  simp (disch:=first|(simp only [yk,seval];done)|omega|(simp only [yz]<;>omega)|fail) only [↓yp,yA,ys0,ys1,seval,fitB,newC,endD,endR,yrg,h81a,hA]
 have hA : decide (isum l = 0) = false := by simp [h0]
 simp (disch:=first|(simp only [yk,seval];done)|omega|(simp only [yz]<;>omega)|fail) only [↓yp,yA,ys0,ys1,seval,fitB,newC,endD,endR,yrg,h81a,hA,h82,A_flS,flS_1]
 refine W_while (n := 34) 200 (fun k e H' => ∃ i : Nat, k = gs.length - i ∧ i ≤ gs.length ∧ gt 34 e 6 = .int .i64 (i : Nat) ∧ gt 34 e 2 = .pointer (some ⟨H.size, 0, none⟩) ∧ gt 34 e 5 = .int .i64 (isum (Go.Am.fo false ps l)) ∧ gt 34 e 1 = .slice al l.length cl ∧ H' = H.alloc (.rw [.slice a ps.length cap, .slice a' gs.length cap', .int .i64 lots] 34 false []) ∧ sureV ps gs l = fstI (hasG (isum l) (isum (Go.Am.fo false ps l))) (gs.drop i) i)
  ?_ 4 gs.length ⟨0, by omega, by omega, by simp (disch:=first|(simp only [yk,seval];done)|omega|(simp only [yz]<;>omega)|fail) only [yg,seval] <;> rfl, by simp (disch:=first|(simp only [yk,seval];done)|omega|(simp only [yz]<;>omega)|fail) only [yg,seval], by simp (disch:=first|(simp only [yk,seval];done)|omega|(simp only [yz]<;>omega)|fail) only [yg,seval], by simp (disch:=first|(simp only [yk,seval];done)|omega|(simp only [yz]<;>omega)|fail) only [yg,seval], rfl, by simp [sureV]⟩ (by omega) (by omega)
 rintro M k e H1 ⟨i, rfl, hi, g6, g2, g5, g1, rfl, hj⟩
 simp (disch:=first|(simp only [yk,seval];done)|omega|(simp only [yz]<;>omega)|fail) only [↓yp,yA,ys0,ys1,seval,fitB,newC,endD,endR,yrg,g6,g2,b1,lenV_slice st_esS_32]
 refine ⟨fun hT => ?_, fun hT => ?_⟩
 ·have hlt : i < gs.length := by simpa using hT
  obtain ⟨g, hg⟩ : ∃ g, gs[i]? = some g := ⟨gs[i], by simp [hlt]⟩
  obtain ⟨b, o, c, eb, hb, hc, hq⟩ := (hgs.fr fr).at_ hg
  obtain ⟨x0, x1⟩ := two_cells (u := .int .i64 g.fo) (v := .int .i64 g.pr) hq
  rw [show gdE.z = 2 from rfl] at x0 x1
  have hw2 : w64 ((i : Int) + 1) = ((i + 1 : Nat) : Int) := by rw [w64_of (by omega)]; omega
  have hgb := List.all_eq_true.1 e1.gb g (List.mem_of_getElem? hg)
  have hfo : 0 ≤ g.fo ∧ g.fo ≤ 100 := by unfold Gd.isB wi at hgb; simp only [Bool.and_eq_true,decide_eq_true_eq] at hgb; omega
  have hm : 0 ≤ g.fo * isum l ∧ g.fo * isum l ≤ 2400 := ⟨Int.mul_nonneg hfo.1 hsz.1, by have := Int.mul_le_mul hfo.2 hsz.2 hsz.1 (by omega : (0:Int) ≤ 100); omega⟩
  have w1 : w64 (100 * isum (Go.Am.fo false ps l)) = 100 * isum (Go.Am.fo false ps l) := w64_of (by omega)
  have w2 : w64 (g.fo * isum l) = g.fo * isum l := w64_of (by omega)
  rw [fstI_drop hg] at hj
  have hhas : hasG (isum l) (isum (Go.Am.fo false ps l)) g = decide (100 * isum (Go.Am.fo false ps l) ≤ g.fo * isum l) := by
   unfold hasG
   have : decide (0 < isum l) = true := by simp; omega
   rw [this, Bool.true_and]
  rw [hhas] at hj
  subst eb
  simp (disch:=first|(simp only [yk,seval];done)|omega|(simp only [yz]<;>omega)|fail) only [↓yp,yA,ys0,ys1,seval,fitB,newC,endD,endR,yrg]
  refine W_draw [] rfl (by kernel_rfl) (by kernel_rfl) (by first|omega|(simp only [yz]<;>omega)) ?_
  simp (disch:=first|(simp only [yk,seval];done)|omega|(simp only [yz]<;>omega)|fail) only [↓yp,yA,ys0,ys1,seval,fitB,newC,endD,endR,yrg,g6,g2,g5,g1,b1,A_indexSlice st_esS_32,hc,x0,h81a,w1,w2]
  cases hB : decide (100 * isum (Go.Am.fo false ps l) ≤ g.fo * isum l)
  ·rw [hB, cond_false] at hj
   simp (disch:=first|(simp only [yk,seval];done)|omega|(simp only [yz]<;>omega)|fail) only [↓yp,yA,ys0,ys1,seval,fitB,newC,endD,endR,yrg,g6,hw2]
   refine ⟨gs.length - (i + 1), by omega, i + 1, rfl, by omega, ?_, ?_, ?_, ?_, rfl, hj⟩
   ·simp (disch:=first|(simp only [yk,seval];done)|omega|(simp only [yz]<;>omega)|fail) only [yg,seval]
   ·simp (disch:=first|(simp only [yk,seval];done)|omega|(simp only [yz]<;>omega)|fail) only [yg,seval,g2]
   ·simp (disch:=first|(simp only [yk,seval];done)|omega|(simp only [yz]<;>omega)|fail) only [yg,seval,g5]
   ·simp (disch:=first|(simp only [yk,seval];done)|omega|(simp only [yz]<;>omega)|fail) only [yg,seval,g1]
  ·rw [hB, cond_true] at hj
   simp (disch:=first|(simp only [yk,seval];done)|omega|(simp only [yz]<;>omega)|fail) only [↓yp,yA,ys0,ys1,seval,fitB,newC,endD,endR,yrg,g6,hj]
 ·have hie : i = gs.length := by have := of_decide_eq_false hT; omega
  subst hie
  rw [List.drop_length] at hj
  simp (disch:=first|(simp only [yk,seval];done)|omega|(simp only [yz]<;>omega)|fail) only [↓yp,yA,ys0,ys1,seval,fitB,newC,endD,endR,yrg,hj,fstI]
end
end Go.Am.K
namespace Go.Am.K
open Go.Proofs
variable {T : Tab} {P : Program} {N L : Nat} {H H' H'' : AHeap} {Q : Bool → Value → AHeap → Prop}
section
variable {a a' al : Option Addr} {cap cap' cl : Nat} {ps : List Pk} {gs : List Gd} {lots : Int} {l : List Int} {u v w z x y : Value}
set_option maxHeartbeats 4000000 in
theorem z78 (hs : Rw pkE H a ps) (hgs : Rw gdE H a' gs) (hl : Rw intE H al l) (e1 : StOk ps gs lots) (e3 : LotOk ps l) :
  acall tabA (aexec tabA Tryz.prog (N + 1600)) 78 [.agg ⟨[.slice a ps.length cap, .slice a' gs.length cap', .int .i64 lots]⟩, .slice al l.length cl] H = some (true, .int .i64 (brgV ps gs l), H, H.size) := by
 refine call_quiet (k := 20) (rs := [.tmp 4]) rfl fn_78 rfl rfl rfl ?_ rfl
 have fr : Fr H (H.alloc (.rw [.slice a ps.length cap, .slice a' gs.length cap', .int .i64 lots] 34 false [])) := by (repeat (first | exact Fr.refl _ | assumption | refine Fr.allocd ?_ _ | refine Fr.put ?_ (by first | omega | (simp only [yz] <;> omega)) _))
 have hll : l.length ≤ 8 := by have := e3.len; have := e1.l4; omega
 have hsz := lo_sum e1 e3
 have hin := lo_in e1 e3
 have g4 := e1.g4
 have h81 := fun (N : Nat) => c81 (N := N) (cap := cl) (hl.fr fr) hll (fun x hx => ⟨(hin x hx).1, by have := (hin x hx).2; omega⟩)
 have h76 := fun (N : Nat) => z76 (N := N) (cap := cap) (cap' := cap') (cl := cl) (lots := lots) (hs.fr fr) (hgs.fr fr) (hl.fr fr) e1 e3
 have b1 : (H.alloc (.rw [.slice a ps.length cap, .slice a' gs.length cap', .int .i64 lots] 34 false [])).get H.size = (.rw [.slice a ps.length cap, .slice a' gs.length cap', .int .i64 lots] 34 false []) := get_alloc_same
 rcases fstI_find (p := hasG (isum l) (isum (Go.Am.fo false ps l))) (gs := gs) (k := 0) with ⟨h1, h2⟩ | ⟨i, g, h1, hg, h2⟩
 ·have hv : sureV ps gs l = -1 := h1
  have hb : brgV ps gs l = 0 := by unfold brgV; rw [h2]; simp [orZ]
  rw [hv] at h76
  rw [hb]
  simp (disch:=first|(simp only [yk,seval];done)|omega|(simp only [yz]<;>omega)|fail) only [↓yp,yA,ys0,ys1,seval,fitB,newC,endD,endR,yrg,h76]
 ·have hv : sureV ps gs l = (i : Int) := by rw [Nat.zero_add] at h1; exact h1
  have hb : brgV ps gs l = isum l * g.pr := by unfold brgV; rw [h2]; rfl
  obtain ⟨b, o, c, eb, hb', hc, hq⟩ := (hgs.fr fr).at_ hg
  obtain ⟨x0, x1⟩ := two_cells (u := .int .i64 g.fo) (v := .int .i64 g.pr) hq
  rw [show gdE.z = 2 from rfl] at x0 x1
  have hi : i < gs.length := (List.getElem?_eq_some_iff.1 hg).1
  have hgb := List.all_eq_true.1 e1.gb g (List.mem_of_getElem? hg)
  have hpr : 0 ≤ g.pr ∧ g.pr ≤ 100 := by unfold Gd.isB wi at hgb; simp only [Bool.and_eq_true,decide_eq_true_eq] at hgb; omega
  have hm : 0 ≤ isum l * g.pr ∧ isum l * g.pr ≤ 2400 := ⟨Int.mul_nonneg hsz.1 hpr.1, by have := Int.mul_le_mul hsz.2 hpr.2 hpr.1 (by omega : (0:Int) ≤ 24); omega⟩
  have w1 : w64 (isum l * g.pr) = isum l * g.pr := w64_of (by omega)
  have hge : decide ((0 : Int) ≤ (i : Int)) = true := by simp
  rw [hv] at h76
  rw [hb]
  subst eb
  simp (disch:=first|(simp only [yk,seval];done)|omega|(simp only [yz]<;>omega)|fail) only [↓yp,yA,ys0,ys1,seval,fitB,newC,endD,endR,yrg,h76,hge]
  refine W_draw [] rfl (by kernel_rfl) (by kernel_rfl) (by first|omega|(simp only [yz]<;>omega)) ?_
  simp (disch:=first|(simp only [yk,seval];done)|omega|(simp only [yz]<;>omega)|fail) only [↓yp,yA,ys0,ys1,seval,fitB,newC,endD,endR,yrg,h81,b1,A_indexSlice st_esS_32,hc,x1,w1]
set_option maxHeartbeats 2000000 in
theorem z20 (hs : Rw pkE H a ps) (hgs : Rw gdE H a' gs) (hl : Rw intE H al l) (hll : l.length ≤ 8) (he : lotE ps gs lots l = 0) :
  acall tabA (aexec tabA Tryz.prog (N + 1700)) 20 [.agg ⟨[.slice a ps.length cap, .slice a' gs.length cap', .int .i64 lots]⟩, .slice al l.length cl] H = some (true, .tuple ⟨[.int .i64 (sureV ps gs l), .int .i64 0]⟩, H, H.size) := by
 refine call_quiet (k := 16) (rs := [.tmp 4, .tmp 5]) rfl fn_20 rfl rfl rfl ?_ rfl
 have fr : Fr H (H.alloc (.rw [.slice a ps.length cap, .slice a' gs.length cap', .int .i64 lots] 34 false [])) := by (repeat (first | exact Fr.refl _ | assumption | refine Fr.allocd ?_ _ | refine Fr.put ?_ (by first | omega | (simp only [yz] <;> omega)) _))
 obtain ⟨e1, e2, e3⟩ := lotE_ok he
 have hlo := fun (N : Nat) => c80 (N := N) (cap := cap) (cap' := cap') (cl := cl) (lots := lots) (hs.fr fr) (hgs.fr fr) (hl.fr fr) hll
 have hc := fun (N : Nat) => z76 (N := N) (cap := cap) (cap' := cap') (cl := cl) (lots := lots) (hs.fr fr) (hgs.fr fr) (hl.fr fr) e1 e3
 have hA : decide (lotE ps gs lots l = 0) = true := by simp [he]
 simp (disch:=first|(simp only [yk,seval];done)|omega|(simp only [yz]<;>omega)|fail) only [↓yp,yA,ys0,ys1,seval,fitB,newC,endD,endR,yrg,hlo,hA,hc]
set_option maxHeartbeats 2000000 in
theorem z22 (hs : Rw pkE H a ps) (hgs : Rw gdE H a' gs) (hl : Rw intE H al l) (hll : l.length ≤ 8) (he : lotE ps gs lots l = 0) :
  acall tabA (aexec tabA Tryz.prog (N + 1800)) 22 [.agg ⟨[.slice a ps.length cap, .slice a' gs.length cap', .int .i64 lots]⟩, .slice al l.length cl] H = some (true, .tuple ⟨[.int .i64 (brgV ps gs l), .int .i64 0]⟩, H, H.size) := by
 refine call_quiet (k := 16) (rs := [.tmp 4, .tmp 5]) rfl fn_22 rfl rfl rfl ?_ rfl
 have fr : Fr H (H.alloc (.rw [.slice a ps.length cap, .slice a' gs.length cap', .int .i64 lots] 34 false [])) := by (repeat (first | exact Fr.refl _ | assumption | refine Fr.allocd ?_ _ | refine Fr.put ?_ (by first | omega | (simp only [yz] <;> omega)) _))
 obtain ⟨e1, e2, e3⟩ := lotE_ok he
 have hlo := fun (N : Nat) => c80 (N := N) (cap := cap) (cap' := cap') (cl := cl) (lots := lots) (hs.fr fr) (hgs.fr fr) (hl.fr fr) hll
 have hc := fun (N : Nat) => z78 (N := N) (cap := cap) (cap' := cap') (cl := cl) (lots := lots) (hs.fr fr) (hgs.fr fr) (hl.fr fr) e1 e3
 have hA : decide (lotE ps gs lots l = 0) = true := by simp [he]
 simp (disch:=first|(simp only [yk,seval];done)|omega|(simp only [yz]<;>omega)|fail) only [↓yp,yA,ys0,ys1,seval,fitB,newC,endD,endR,yrg,hlo,hA,hc]
set_option maxHeartbeats 2000000 in
theorem c40e (hs : Rw pkE H a ps) (hgs : Rw gdE H a' gs) (hl : Rw intE H al l) (hll : l.length ≤ 8) (he : lotE ps gs lots l ≠ 0) :
  acall tabA (aexec tabA Tryz.prog (N + 500)) 16 [.agg ⟨[.slice a ps.length cap, .slice a' gs.length cap', .int .i64 lots]⟩, .slice al l.length cl] H = some (true, .tuple ⟨[.slice none 0 0, .slice none 0 0, .int .i64 (lotE ps gs lots l)]⟩, H, H.size) := by
 refine call_quiet (k := 47) (rs := [.tmp 4, .tmp 5, .tmp 6]) rfl fn_16 rfl rfl rfl ?_ rfl
 have fr : Fr H (H.alloc (.rw [.slice a ps.length cap, .slice a' gs.length cap', .int .i64 lots] 25 false [])) := by (repeat (first | exact Fr.refl _ | assumption | refine Fr.allocd ?_ _ | refine Fr.put ?_ (by first | omega | (simp only [yz] <;> omega)) _))
 have hlo := fun (N : Nat) => c74g (N := N) (cap := cap) (cap' := cap') (cl := cl) (lots := lots) (hs.fr fr) (hgs.fr fr) (hl.fr fr) hll
 have hA : decide (lotE ps gs lots l = 0) = false := by simp [he]
 simp (disch:=first|(simp only [yk,seval];done)|omega|(simp only [yz]<;>omega)|fail) only [↓yp,yA,ys0,ys1,seval,fitB,newC,endD,endR,yrg,hlo,hA]
end
end Go.Am.K
