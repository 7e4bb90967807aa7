import Derived.Test.YtbofjfjopeaefaaGreatT40
import Derived.Test.YtbofjfjopeaefaaGreatT38
set_option linter.unusedSimpArgs false
set_option linter.unusedVariables false
namespace Go.Am.K
open Go.Proofs
variable {T : Tab} {P : Program} {N L : Nat} {H H' H'' : AHeap} {Q : Bool → Value → AHeap → Prop}
def trF (ps : List Pk) (l : List Int) (pk fo : Int) : Nat → Nat → Bool
 | 0 => fun j => decide (j = 0)
 | i + 1 => match ps[i]?, l[i]? with
  | some p, some m => orK p m i pk fo (rng p.f (p.hi + 1 - p.f).toNat) (fun _ => false) (trF ps l pk fo i) (p.hi + 1 - p.f).toNat
  | _, _ => trF ps l pk fo i
theorem st_mkS_198 : mkS tabA 198 = some (4, .bool false, 1, 1) := by kernel_rfl
theorem made_bo : (madeCells (Value.bool false).cells (25 * 1)).toList = boE.fl (fB fun _ => false) ∧ allGrV (madeCells (Value.bool false).cells (25 * 1)).toList = true := ⟨by kernel_rfl, by kernel_rfl⟩
section
variable {a a' al : Option Addr} {cap cap' cl : Nat} {ps : List Pk} {gs : List Gd} {lots pk fo : Int} {l : List Int}
set_option maxHeartbeats 4000000 in
theorem c87 (hs : Rw pkE H a ps) (hl : Rw intE H al l) (hst : StOk ps gs lots) (ho : LotOk ps l) (hL : L ≤ H.size) {M : Nat} (hM : 1300 ≤ M)
  (hq : ∀ b H', Fr H H' → b < H'.size → H.size ≤ b → H'.get b = .rw (boE.fl (fB (trF ps l pk fo ps.length))) 4 false [] → Q false (.slice (some ⟨b, 0, none⟩) 25 25) H') :
  resK (acall tabA (aexec tabA Tryz.prog M) 139 [.agg ⟨[.slice a ps.length cap, .slice a' gs.length cap', .int .i64 lots]⟩, .slice al l.length cl, .int .i64 pk, .int .i64 fo] H) L Q := by
 obtain ⟨N, rfl⟩ : ∃ N, M = N + 1300 := ⟨M - 1300, by omega⟩
 refine call_fls (R := fun v H' => ∃ b, v = .slice (some ⟨b, 0, none⟩) 25 25 ∧ Fr H H' ∧ b < H'.size ∧ H.size ≤ b ∧ H'.get b = .rw (boE.fl (fB (trF ps l pk fo ps.length))) 4 false []) (k := 93) (rs := [.tmp 8]) rfl fn_139 rfl rfl rfl hL ?_ ?_ ?_
 rotate_left
 ·rintro v H' ⟨b, rfl, -⟩; rfl
 ·rintro v H' ⟨b, rfl, h1, h2, h3, h4⟩
  exact hq _ _ h1 h2 h3 h4
 obtain ⟨mb1, mb2⟩ := made_bo
 simp (disch:=first|(simp only [yk,seval];done)|omega|(simp only [yz]<;>omega)|fail) only [↓yp,yA,ys0,ys1,seval,fitB,newC,endD,endR,yrg]
 refine A_make_of (m := 25) st_mkS_198 (by simp (disch:=first|(simp only [yk,seval];done)|omega|(simp only [yz]<;>omega)|fail) only [↓yp,yA,ys0,ys1,seval,fitB,newC,endD,endR,yrg]) (by omega) (by omega) (by omega) mb2 (by first|omega|(simp only [yz]<;>omega)) ?_
 rw [show (25 : Int).toNat * 1 = 25 * 1 from rfl, show (25 : Int).toNat = 25 from rfl, mb1]
 simp (disch:=first|(simp only [yk,seval];done)|omega|(simp only [yz]<;>omega)|fail) only [↓yp,yA,ys0,ys1,seval,fitB,newC,endD,endR,yrg]
 have hfit : decide (0 * 1 + 1 ≤ (boE.fl (fB fun _ => false)).length) = true := by rw [fl_length, fB_len]; rfl
 have hfit' : decide (0 + 1 ≤ (boE.fl (fB fun _ => false)).length) = true := by rw [fl_length, fB_len]; rfl
 have h00 : ((0 : Nat) : Int) = 0 := rfl
 simp (disch:=first|(simp only [yk,seval];done)|omega|(simp only [yz]<;>omega)|fail) only [↓yp,yA,ys0,ys1,seval,fitB,newC,endD,endR,yrg,A_indexSlice st_esS_198,hfit,hfit']
 have hlen := ho.len
 have hp4 := hst.l4
 refine W_while (n := 93) 1200 (fun q e' H' => ∃ i bn : Nat, q = l.length - i ∧ i ≤ l.length ∧ gt 93 e' 10 = .int .i64 (i : Nat) ∧ gt 93 e' 9 = .slice (some ⟨bn, 0, none⟩) 25 25 ∧ gt 93 e' 1 = .slice al l.length cl ∧ gt 93 e' 2 = .int .i64 pk ∧ gt 93 e' 3 = .int .i64 fo ∧ gt 93 e' 4 = .pointer (some ⟨H.size, 0, none⟩) ∧ Fr H H' ∧ H.size < bn ∧ bn < H'.size ∧ H'.get H.size = .rw [.slice a ps.length cap, .slice a' gs.length cap', .int .i64 lots] 34 false [] ∧ H'.get bn = .rw (boE.fl (fB (trF ps l pk fo i))) 4 false [])
  ?_ 4 l.length ⟨0, H.size + 1, by omega, by omega, ?_, ?_, ?_, ?_, ?_, ?_, by (repeat (first | exact Fr.refl _ | assumption | refine Fr.allocd ?_ _ | refine Fr.put ?_ (by first | omega | (simp only [yz] <;> omega)) _)), by omega, by (first | omega | (simp only [yz] <;> omega)), ?_, ?_⟩ (by omega) (by omega)
 rotate_left
 ·simp (disch:=first|(simp only [yk,seval];done)|omega|(simp only [yz]<;>omega)|fail) only [yg,seval] <;> rfl
 ·simp (disch:=first|(simp only [yk,seval];done)|omega|(simp only [yz]<;>omega)|fail) only [yg,seval]
 ·simp (disch:=first|(simp only [yk,seval];done)|omega|(simp only [yz]<;>omega)|fail) only [yg,seval]
 ·simp (disch:=first|(simp only [yk,seval];done)|omega|(simp only [yz]<;>omega)|fail) only [yg,seval]
 ·simp (disch:=first|(simp only [yk,seval];done)|omega|(simp only [yz]<;>omega)|fail) only [yg,seval]
 ·simp (disch:=first|(simp only [yk,seval];done)|omega|(simp only [yz]<;>omega)|fail) only [yg,seval]
 ·simp (disch:=first|(simp only [yk,seval];done)|omega|(simp only [yz]<;>omega)|fail) only [yg,seval]
 ·rw [get_put_same (by first|omega|(simp only [yz]<;>omega))]
  congr 1
 rintro M1 q e H' ⟨i, bn, rfl, hi, g10, g9, g1, g2, g3, g4, fr, hb1, hb2, b4, bB⟩
 have f0 := fr.size
 simp (disch:=first|(simp only [yk,seval];done)|omega|(simp only [yz]<;>omega)|fail) only [↓yp,yA,ys0,ys1,seval,fitB,newC,endD,endR,yrg,g10,g1,lenV_slice st_esS_26]
 refine ⟨fun hT => ?_, fun hT => ?_⟩
 rotate_left
 ·have hie : i = l.length := by have := of_decide_eq_false hT; omega
  subst hie
  rw [hlen] at bB
  simp (disch:=first|(simp only [yk,seval];done)|omega|(simp only [yz]<;>omega)|fail) only [↓yp,yA,ys0,ys1,seval,fitB,newC,endD,endR,yrg,g9]
  exact ⟨bn, rfl, fr, hb2, by omega, bB⟩
 have hlt : i < l.length := by have := of_decide_eq_true hT; omega
 have hlt2 : i < ps.length := by omega
 obtain ⟨p, hp⟩ : ∃ p, ps[i]? = some p := ⟨ps[i], by simp [hlt2]⟩
 obtain ⟨m, hm⟩ : ∃ m, l[i]? = some m := ⟨l[i], by simp [hlt]⟩
 have hok : p.Ok := Pk.isB_ok (List.all_eq_true.1 hst.pb p (List.mem_of_getElem? hp))
 have hsp := hst.sp p (List.mem_of_getElem? hp)
 have hmp := ho.ok i m p hm hp
 have hw2 : w64 ((i : Int) + 1) = ((i + 1 : Nat) : Int) := by rw [w64_of (by omega)]; omega
 have eT : trF ps l pk fo (i + 1) = orK p m i pk fo (rng p.f (p.hi + 1 - p.f).toNat) (fun _ => false) (trF ps l pk fo i) (p.hi + 1 - p.f).toNat := by
  show (match ps[i]?, l[i]? with | some p, some m => _ | _, _ => _) = _
  rw [hp, hm]
 obtain ⟨b, o, c, eb, hb, hc, hqq⟩ := (hs.fr fr).at_ hp
 have qp : part c (o + i * 4) 5 = some (.agg ⟨p.enc⟩) := part_of hqq rfl
 obtain ⟨b2, o2, c2, eb2, hb2', hc2, hqq2⟩ := (hl.fr fr).at_ hm
 have ql := cell_of hqq2
 rw [show i * intE.z = i * 1 from rfl, Nat.mul_one] at ql
 subst eb eb2
 have qp' := qp
 simp only [Pk.enc] at qp'
 obtain ⟨TL, hTL⟩ : ∃ c, sub [true, true, true, false, true, false, false, true, false, false, true, true, false] (bodyOf Tryz.f139) = c := ⟨_, rfl⟩
 have hTL0 := hTL
 simp only [Tryz.f139,bodyOf,sub_nil,sub_seq0,sub_seq1,sub_block,sub_loop,sub_cond0,sub_cond1] at hTL
 rw [hTL]
 simp (disch:=first|(simp only [yk,seval];done)|omega|(simp only [yz]<;>omega)|fail) only [↓yp,yA,ys0,ys1,seval,fitB,newC,endD,endR,yrg]
 refine A_make_of (m := 25) st_mkS_198 (by simp (disch:=first|(simp only [yk,seval];done)|omega|(simp only [yz]<;>omega)|fail) only [↓yp,yA,ys0,ys1,seval,fitB,newC,endD,endR,yrg]) (by omega) (by omega) (by omega) mb2 (by first|omega|(simp only [yz]<;>omega)) ?_
 rw [show (25 : Int).toNat * 1 = 25 * 1 from rfl, show (25 : Int).toNat = 25 from rfl, mb1]
 simp (disch:=first|(simp only [yk,seval];done)|omega|(simp only [yz]<;>omega)|fail) only [↓yp,yA,ys0,ys1,seval,fitB,newC,endD,endR,yrg,g4,b4,g10,A_indexSlice st_esS_31,hc,qp']
 have h68 : ∀ {H : AHeap} {L M : Nat} {Q : Bool → Value → AHeap → Prop}, L ≤ H.size → 150 ≤ M → (∀ b c H', Fr H H' → H.size < b → Rw intE H' (some ⟨b, 0, none⟩) (rng p.f (p.hi + 1 - p.f).toNat) → Q false (.slice (some ⟨b, 0, none⟩) (p.hi + 1 - p.f).toNat c) H') → resK (acall tabA (aexec tabA Tryz.prog M) 71 [.agg ⟨[.int .i64 p.s, .int .i64 p.w, .int .i64 p.o, .int .i64 p.f]⟩] H) L Q := fun h1 h2 h3 => c68 (p := p) hok hsp h1 h2 h3
 refine h68 (by first|omega|(simp only [yz]<;>omega)) (by omega) ?_
 intro bf cf H2 fr2 hbf rf
 have f2 := fr2.size
 have s2 := fr2.same
 simp only [size_alloc] at f2 s2 hbf
 simp (disch:=first|(simp only [yk,seval];done)|omega|(simp only [yz]<;>omega)|fail) only [↓yp,yA,ys0,ys1,seval,fitB,newC,endD,endR,yrg]
 have rl : (rng p.f (p.hi + 1 - p.f).toNat).length = (p.hi + 1 - p.f).toNat := rng_len
 obtain ⟨z1, z2, z3, z4⟩ := hok
 have hhi : p.hi ≤ p.w := by unfold Pk.hi; split <;> omega
 have bx1 : H2.get H'.size = .rw (boE.fl (fB fun _ => false)) 4 false [] := by rw [s2 _ (by omega)]; exact get_alloc_same
 have o2' : ∀ j, j < H'.size → H2.get j = H'.get j := fun j hj => by rw [s2 _ (by omega), get_alloc_lt hj]
 rw [← hTL0]
 refine W_end (c87k (N := M1 + 194) (cl := cl) (cf := cf) (L := H.size) (bx := H'.size) (bn := bn) (i4 := H.size) (i := i) (m := m) (pk := pk) (fo := fo) (fs := rng p.f (p.hi + 1 - p.f).toNat) (f := fun _ => false) (g := trF ps l pk fo i) (by omega) ?k4 ((o2' _ (by omega)).trans b4) (by omega) (by omega) ?k10 (by rw [o2' _ hb]; exact hc) qp (by omega) hlt2 (by omega) ?k1 (by rw [o2' _ hb2']; exact hc2) ql (by omega) hlt ?k12 rf (by omega) (by rw [rl]; omega) ?k2 ?k3 ?k11 ?k9 bx1 (by omega) ((o2' _ hb2).trans bB) (by omega) (by omega) ⟨z1.1, z1.2⟩ ⟨hmp.1, by omega⟩ (fun x hx => ?kf)) ?fin
 case k4 => simp (disch:=first|(simp only [yk,seval];done)|omega|(simp only [yz]<;>omega)|fail) only [yg,seval,g4]
 case k10 => simp (disch:=first|(simp only [yk,seval];done)|omega|(simp only [yz]<;>omega)|fail) only [yg,seval,g10]
 case k1 => simp (disch:=first|(simp only [yk,seval];done)|omega|(simp only [yz]<;>omega)|fail) only [yg,seval,g1]
 case k2 => simp (disch:=first|(simp only [yk,seval];done)|omega|(simp only [yz]<;>omega)|fail) only [yg,seval,g2]
 case k3 => simp (disch:=first|(simp only [yk,seval];done)|omega|(simp only [yz]<;>omega)|fail) only [yg,seval,g3]
 case k9 => simp (disch:=first|(simp only [yk,seval];done)|omega|(simp only [yz]<;>omega)|fail) only [yg,seval,g9]
 case k11 => simp (disch:=first|(simp only [yk,seval];done)|omega|(simp only [yz]<;>omega)|fail) only [yg,seval]
 case k12 => rw [rl]; simp (disch:=first|(simp only [yk,seval];done)|omega|(simp only [yz]<;>omega)|fail) only [yg,seval]
 case kf =>
  unfold rng at hx
  obtain ⟨j, hj, rfl⟩ := List.mem_map.1 hx
  have := List.mem_range.1 hj
  omega
 case fin =>
  rintro e' H3 ⟨kp3, hs3, ho3, hb3⟩
  rw [rl, ← eT] at hb3
  have m1 := kp3 1 (by decide)
  have m2 := kp3 2 (by decide)
  have m3 := kp3 3 (by decide)
  have m4 := kp3 4 (by decide)
  have m10 := kp3 10 (by decide)
  have m11 := kp3 11 (by decide)
  simp (disch:=first|(simp only [yk,seval];done)|omega|(simp only [yz]<;>omega)|fail) only [yg,seval,g1] at m1
  simp (disch:=first|(simp only [yk,seval];done)|omega|(simp only [yz]<;>omega)|fail) only [yg,seval,g2] at m2
  simp (disch:=first|(simp only [yk,seval];done)|omega|(simp only [yz]<;>omega)|fail) only [yg,seval,g3] at m3
  simp (disch:=first|(simp only [yk,seval];done)|omega|(simp only [yz]<;>omega)|fail) only [yg,seval,g4] at m4
  simp (disch:=first|(simp only [yk,seval];done)|omega|(simp only [yz]<;>omega)|fail) only [yg,seval,g10] at m10
  simp (disch:=first|(simp only [yk,seval];done)|omega|(simp only [yz]<;>omega)|fail) only [yg,seval] at m11
  simp (disch:=first|(simp only [yk,seval];done)|omega|(simp only [yz]<;>omega)|fail) only [↓yp,yA,ys0,ys1,seval,fitB,newC,endD,endR,yrg,m11,m10,hw2]
  refine ⟨l.length - (i + 1), by omega, i + 1, H'.size, rfl, by omega, ?_, ?_, ?_, ?_, ?_, ?_, ⟨by omega, fun j hj => ?_⟩, by omega, by omega, ?_, hb3⟩
  ·simp (disch:=first|(simp only [yk,seval];done)|omega|(simp only [yz]<;>omega)|fail) only [yg,seval]
  ·simp (disch:=first|(simp only [yk,seval];done)|omega|(simp only [yz]<;>omega)|fail) only [yg,seval,m11]
  ·simp (disch:=first|(simp only [yk,seval];done)|omega|(simp only [yz]<;>omega)|fail) only [yg,seval,m1]
  ·simp (disch:=first|(simp only [yk,seval];done)|omega|(simp only [yz]<;>omega)|fail) only [yg,seval,m2]
  ·simp (disch:=first|(simp only [yk,seval];done)|omega|(simp only [yz]<;>omega)|fail) only [yg,seval,m3]
  ·simp (disch:=first|(simp only [yk,seval];done)|omega|(simp only [yz]<;>omega)|fail) only [yg,seval,m4]
  ·rw [ho3 _ (by omega), o2' _ (by omega)]; exact fr.same j hj
  ·rw [ho3 _ (by omega), o2' _ (by omega)]; exact b4
end
end Go.Am.K
namespace Go.Am.K
open Go.Proofs
variable {T : Tab} {P : Program} {N L : Nat} {H H' H'' : AHeap} {Q : Bool → Value → AHeap → Prop}
section
variable {a a' al : Option Addr} {cap cap' cl mk i : Nat} {ps : List Pk} {gs : List Gd} {lots : Int} {l : List Int} {op fd n : Int} {p : Pk}
def nonE (ps : List Pk) (l : List Int) (op fd : Int) (i : Nat) (p : Pk) (n : Int) : Bool := !decide (lfHi (ps.set i (kn p n)) l op fd < lfLo (ps.set i (kn p n)) l fd)
def tellS (P : Int → Bool) (x : Int × Int) (n : Int) : Int × Int := bif P n then (if n < x.1 then n else x.1, if n > x.2 then n else x.2) else x
def tellF (P : Int → Bool) (f b : Int) : Nat → Int × Int
 | 0 => (b, f)
 | k + 1 => tellS P (tellF P f b k) (f + k)
end
end Go.Am.K
namespace Go.Am.K
open Go.Proofs
variable {T : Tab} {P : Program} {N L : Nat} {H H' H'' : AHeap} {Q : Bool → Value → AHeap → Prop}
section
variable {a a' al : Option Addr} {cap cap' cl : Nat} {ps : List Pk} {gs : List Gd} {lots : Int} {l : List Int} {op fd : Int}
def toldV (ps : List Pk) (l : List Int) (op fd : Int) (j : Nat) (p : Pk) : Int × Int := tellF (nonE ps l op fd j p) p.f p.hi (p.hi - p.f + 1).toNat
structure Td (ps : List Pk) (l : List Int) (op fd : Int) (i : Nat) (tl : List (Int × Int)) : Prop where
 len : tl.length = ps.length
 at_ : ∀ (j : Nat) (p : Pk), j < i → ps[j]? = some p → tl[j]? = some (toldV ps l op fd j p)
theorem Td.next {i : Nat} {tl : List (Int × Int)} {p : Pk} (h : Td ps l op fd i tl) (hp : ps[i]? = some p) : Td ps l op fd (i + 1) (tl.set i (toldV ps l op fd i p)) := by
 have hlt := (List.getElem?_eq_some_iff.1 hp).1
 refine ⟨by rw [List.length_set]; exact h.len, fun j q hj hq => ?_⟩
 by_cases e : i = j
 ·subst e
  rw [hp] at hq
  cases hq
  rw [List.getElem?_set_self (by rw [h.len]; exact hlt)]
 ·rw [List.getElem?_set_ne e]
  exact h.at_ j q (by omega) hq
end
end Go.Am.K
namespace Go.Am.K
open Go.Proofs
variable {T : Tab} {P : Program} {N L : Nat} {H H' H'' : AHeap} {Q : Bool → Value → AHeap → Prop}
theorem Bts.fr {a : Option Addr} {bs : List Int} (h : Bts H a bs) (f : Fr H H') : Bts H' a bs := ⟨fun hne => by
 obtain ⟨b, o, c, h1, h2, h3, h4⟩ := h.row hne
 exact ⟨b, o, c, h1, Nat.lt_of_lt_of_le h2 f.size, by rw [f.same b h2]; exact h3, h4⟩, h.byte, h.len⟩
structure LS (H H' : AHeap) (n kq : Nat) (aq : Option Addr) (bq : List Int) (cq i5 b1 c1 b2 c2 b3 c3 : Nat) (ps : List Pk) (gs : List Gd) (rs : List Int) (lots : Int) (e : VT) : Prop where
 r1 : Rx kq pkE H' (some ⟨b1, 0, none⟩) ps
 r2 : Rx kq gdE H' (some ⟨b2, 0, none⟩) gs
 r3 : Rx kq intE H' (some ⟨b3, 0, none⟩) rs
 ok : chkS ps gs lots = 0
 g5 : gt n e 5 = .pointer (some ⟨i5, 0, none⟩)
 l5 : i5 < H'.size
 n5 : i5 ≠ kq
 b5 : H'.get i5 = .rw [.slice (some ⟨b1, 0, none⟩) ps.length c1, .slice (some ⟨b2, 0, none⟩) gs.length c2, .int .i64 lots] 25 false []
 g6 : gt n e 6 = .slice (some ⟨b3, 0, none⟩) rs.length c3
 g7 : gt n e 7 = .pointer (some ⟨kq, 0, none⟩)
 chu : Chu H' kq aq bq cq
 hk : H.size ≤ kq
structure LL (H' : AHeap) (n kq b4 c4 i10 : Nat) (ps : List Pk) (l : List Int) (lo hi sv : Int) (e : VT) : Prop where
 r4 : Rx kq intE H' (some ⟨b4, 0, none⟩) l
 lk : LotOk ps l
 g8 : gt n e 8 = .slice (some ⟨b4, 0, none⟩) l.length c4
 g9 : gt n e 9 = .int .i64 (isum l)
 g10 : gt n e 10 = .pointer (some ⟨i10, 0, none⟩)
 l10 : i10 < H'.size
 n10 : i10 ≠ kq
 b10 : H'.get i10 = .rw [.int .i64 lo, .int .i64 hi] 37 false []
 g12 : gt n e 12 = .int .i64 sv
section
variable {n kq cq i5 b1 c1 b2 c2 b3 c3 b4 c4 i10 : Nat} {aq : Option Addr} {bq rs l : List Int} {ps : List Pk} {gs : List Gd} {lots lo hi sv : Int} {e e' : VT}
theorem LS.next (I : LS H H' n kq aq bq cq i5 b1 c1 b2 c2 b3 c3 ps gs rs lots e) (hc : Chu H'' kq aq bq cq) (f : FrX kq H' H'') (h : Keep n [5, 6, 7] e e') : LS H H'' n kq aq bq cq i5 b1 c1 b2 c2 b3 c3 ps gs rs lots e' where
 r1 := I.r1.frx f
 r2 := I.r2.frx f
 r3 := I.r3.frx f
 ok := I.ok
 g5 := (h 5 (by decide)).trans I.g5
 l5 := Nat.lt_of_lt_of_le I.l5 f.size
 n5 := I.n5
 b5 := (f.same _ I.l5 I.n5).trans I.b5
 g6 := (h 6 (by decide)).trans I.g6
 g7 := (h 7 (by decide)).trans I.g7
 chu := hc
 hk := I.hk
theorem LS.fr (I : LS H H' n kq aq bq cq i5 b1 c1 b2 c2 b3 c3 ps gs rs lots e) (f : Fr H' H'') (h : Keep n [5, 6, 7] e e') : LS H H'' n kq aq bq cq i5 b1 c1 b2 c2 b3 c3 ps gs rs lots e' := I.next (I.chu.fr f) (FrX.of f) h
theorem LS.lt (I : LS H H' n kq aq bq cq i5 b1 c1 b2 c2 b3 c3 ps gs rs lots e) : H.size < H'.size := Nat.lt_of_le_of_lt I.hk I.chu.lt
theorem LL.next (I : LL H' n kq b4 c4 i10 ps l lo hi sv e) (f : FrX kq H' H'') (h : Keep n [8, 9, 10, 12] e e') : LL H'' n kq b4 c4 i10 ps l lo hi sv e' where
 r4 := I.r4.frx f
 lk := I.lk
 g8 := (h 8 (by decide)).trans I.g8
 g9 := (h 9 (by decide)).trans I.g9
 g10 := (h 10 (by decide)).trans I.g10
 l10 := Nat.lt_of_lt_of_le I.l10 f.size
 n10 := I.n10
 b10 := (f.same _ I.l10 I.n10).trans I.b10
 g12 := (h 12 (by decide)).trans I.g12
structure Nw (H' : AHeap) (kq bf : Nat) (fl : List Int) : Prop where
 lt : bf < H'.size
 ne : bf ≠ kq
 get : H'.get bf = .rw (intE.fl fl) 3 true []
theorem Nw.rx {bf : Nat} {fl : List Int} (h : Nw H' kq bf fl) : Rx kq intE H' (some ⟨bf, 0, none⟩) fl := ⟨Rw.of (r := []) h.lt (by rw [h.get]; rfl) (by rw [List.append_nil]), fun _ b o s e => by cases e; exact h.ne⟩
theorem Nw.frx {bf : Nat} {fl : List Int} (h : Nw H' kq bf fl) (f : FrX kq H' H'') : Nw H'' kq bf fl := ⟨Nat.lt_of_lt_of_le h.lt f.size, h.ne, (f.same _ h.lt h.ne).trans h.get⟩
theorem LS.put {j : Nat} {c : List Value} {ty : TypeId} {o : Bool} {al : List Nat} (I : LS H H' n kq aq bq cq i5 b1 c1 b2 c2 b3 c3 ps gs rs lots e) (hj : H'.get j = .rw c ty o al) (n5 : j ≠ i5) (nk : j ≠ kq) (n1 : j ≠ b1) (n2 : j ≠ b2) (n3 : j ≠ b3) (blk : ABlk) : LS H (H'.put j blk) n kq aq bq cq i5 b1 c1 b2 c2 b3 c3 ps gs rs lots e := by
 have key : ∀ {α : Type} {E : Enc α} {b : Nat} {l : List α}, Rx kq E H' (some ⟨b, 0, none⟩) l → j ≠ b → Rx kq E (H'.put j blk) (some ⟨b, 0, none⟩) l := fun {α E b l} h hne => ⟨⟨fun hl => by
  obtain ⟨b', o, c, e1, h2, h3, h4⟩ := h.rw.get hl
  cases e1
  exact ⟨b, 0, c, rfl, by rw [size_put]; exact h2, by rw [get_put_ne (Ne.symm hne)]; exact h3, h4⟩⟩, h.ne⟩
 exact ⟨key I.r1 n1, key I.r2 n2, key I.r3 n3, I.ok, I.g5, by rw [size_put]; exact I.l5, I.n5, by rw [get_put_ne (Ne.symm n5)]; exact I.b5, I.g6, I.g7, I.chu.other nk (fun c' e => by rw [hj] at e; cases e), I.hk⟩
theorem LL.put {j : Nat} (I : LL H' n kq b4 c4 i10 ps l lo hi sv e) (n4 : j ≠ b4) (n10 : j ≠ i10) (blk : ABlk) : LL (H'.put j blk) n kq b4 c4 i10 ps l lo hi sv e where
 r4 := ⟨⟨fun hl => by
  obtain ⟨b', o, c, e1, h2, h3, h4⟩ := I.r4.rw.get hl
  cases e1
  exact ⟨b4, 0, c, rfl, by rw [size_put]; exact h2, by rw [get_put_ne (Ne.symm n4)]; exact h3, h4⟩⟩, I.r4.ne⟩
 lk := I.lk
 g8 := I.g8
 g9 := I.g9
 g10 := I.g10
 l10 := by rw [size_put]; exact I.l10
 n10 := I.n10
 b10 := by rw [get_put_ne (Ne.symm n10)]; exact I.b10
 g12 := I.g12
end
end Go.Am.K
namespace Go.Am.K
open Go.Proofs
variable {T : Tab} {P : Program} {N L : Nat} {H H' H'' : AHeap} {Q : Bool → Value → AHeap → Prop}
def Fits (ps : List Pk) (fl : List Int) (i : Nat) : Prop := ∀ (j : Nat) (p : Pk) (f : Int), j < i → ps[j]? = some p → fl[j]? = some f → p.f ≤ f ∧ f ≤ p.hi
section
variable {kq cq i5 b1 c1 b2 c2 b3 c3 b4 c4 i10 : Nat} {aq : Option Addr} {bq rs l : List Int} {ps : List Pk} {gs : List Gd} {lots lo hi sv : Int} {e e' : VT}
end
end Go.Am.K
