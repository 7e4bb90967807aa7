import Derived.Test.YtbofjfjopeaefaaGreatT36
set_option linter.unusedSimpArgs false
set_option linter.unusedVariables false
namespace Go.Am.K
open Go.Proofs
variable {T : Tab} {P : Program} {N L : Nat} {H H' H'' : AHeap} {Q : Bool → Value → AHeap → Prop}
theorem Gw.sv {tb i el z n : Nat} {S : Nat → Prop} {v : Value} {cs : List Value} (g : Gw H tb S v i cs el z) : sameV (n + 1) v v = true := by
 by_cases h : i = 0
 ·rw [g.nil h]; exact sv_slice
 ·obtain ⟨b, al, rfl, -⟩ := g.cons h
  exact sv_slice
def flK0 (v : Value) (H : AHeap) (L : Nat) (Q : Bool → Value → AHeap → Prop) (_ : Tag Q := .mk) : Prop := match still (aField tabA (fun _ => some v) H 126 (.tmp 0) 0) with
 | some (b, v, H', m) => L ≤ m ∧ Q b v H'
 | none => False
theorem A_fld0 {ex : Exec} {t : Operand → Option Value} {x : Operand} : A tabA Tryz.prog ex t H L (.field 126 x 0) Q = optK (t x) fun v => flK0 v H L Q := by
 unfold A
 show (match still (aField tabA t H 126 x 0) with
  | some (b, v, H', m) => L ≤ m ∧ Q b v H'
  | none => False) = _
 cases hs : t x with
 | none =>
  have : aField tabA t H 126 x 0 = none := by unfold aField; rw [hs]
  rw [this]; rfl
 | some v =>
  have : aField tabA t H 126 x 0 = aField tabA (fun _ => some v) H 126 (.tmp 0) 0 := by unfold aField; rw [hs]
  rw [this]; rfl
theorem flK0_of {s : Bool} : flK0 (.agg ⟨[.func (.func (endF s)) ⟨[]⟩ ⟨[]⟩]⟩) H L Q = andK (L ≤ H.size) (Q true (.func (.func (endF s)) ⟨[]⟩ ⟨[]⟩) H) := by
 have : aField tabA (fun _ => some (.agg ⟨[.func (.func (endF s)) ⟨[]⟩ ⟨[]⟩]⟩)) H 126 (.tmp 0) 0 = some (.func (.func (endF s)) ⟨[]⟩ ⟨[]⟩, H, H.size) := by cases s <;> kernel_rfl
 unfold flK0
 rw [this]; rfl
structure MB (H H' : AHeap) (ps : List Pk) (l : List Int) (a al : Option Addr) (cap cl i : Nat) (S1 S2 : Nat → Prop) (v1 v2 : Value) (e : VT) : Prop where
 g19 : gt 47 e 19 = .int .i64 (i : Nat)
 g18 : gt 47 e 18 = .int .i64 ps.length
 g17 : gt 47 e 17 = .slice a ps.length cap
 g5 : gt 47 e 5 = v2
 g4 : gt 47 e 4 = v1
 g1 : gt 47 e 1 = .slice al l.length cl
 fr : Fr H H'
 sz : H.size < H'.size
 r1 : Gw H' H.size S1 v1 i (intE.fl ((ps.take i).map Pk.hi)) 3 1
 r2 : Gw H' H.size S2 v2 i (intE.fl ((fo false ps l).take i)) 3 1
 dj : ∀ j, S1 j → ¬ S2 j
section
variable {a a' al : Option Addr} {cap cap' cl i : Nat} {ps : List Pk} {gs : List Gd} {lots : Int} {l : List Int} {S1 S2 : Nat → Prop} {v1 v2 : Value} {e e' : VT}
theorem MB.next (I : MB H H' ps l a al cap cl i S1 S2 v1 v2 e) (f : Fr H' H'') (h : Keep 47 [1, 4, 5, 17, 18, 19] e e') : MB H H'' ps l a al cap cl i S1 S2 v1 v2 e' where
 g19 := (h 19 (by decide)).trans I.g19
 g18 := (h 18 (by decide)).trans I.g18
 g17 := (h 17 (by decide)).trans I.g17
 g5 := (h 5 (by decide)).trans I.g5
 g4 := (h 4 (by decide)).trans I.g4
 g1 := (h 1 (by decide)).trans I.g1
 fr := I.fr.trans f
 sz := Nat.lt_of_lt_of_le I.sz f.size
 r1 := I.r1.fr f
 r2 := I.r2.fr f
 dj := I.dj
set_option maxHeartbeats 4000000 in
theorem c40 (h : LtR H a a' al ps gs lots l) (hL : L ≤ H.size) {M : Nat} (hM : 1000 ≤ M)
  (hq : ∀ b1 c1 b2 c2 H', Fr H H' → Rw intE H' (some ⟨b1, 0, none⟩) (ps.map Pk.hi) → Rw intE H' (some ⟨b2, 0, none⟩) (fo false ps l) → Q false (.tuple ⟨[.slice (some ⟨b1, 0, none⟩) ps.length c1, .slice (some ⟨b2, 0, none⟩) ps.length c2, .int .i64 0]⟩) H') :
  resK (acall tabA (aexec tabA Tryz.prog M) 16 [.agg ⟨[.slice a ps.length cap, .slice a' gs.length cap', .int .i64 lots]⟩, .slice al l.length cl] H) L Q := by
 obtain ⟨N, rfl⟩ : ∃ N, M = N + 1000 := ⟨M - 1000, by omega⟩
 refine call_fls (R := fun v H' => ∃ b1 c1 b2 c2, v = .tuple ⟨[.slice (some ⟨b1, 0, none⟩) ps.length c1, .slice (some ⟨b2, 0, none⟩) ps.length c2, .int .i64 0]⟩ ∧ Fr H H' ∧ Rw intE H' (some ⟨b1, 0, none⟩) (ps.map Pk.hi) ∧ Rw intE H' (some ⟨b2, 0, none⟩) (fo false ps l)) (k := 47) (rs := [.tmp 4, .tmp 5, .tmp 6]) rfl fn_16 rfl rfl rfl hL ?_ ?_ ?_
 rotate_left
 ·rintro v H' ⟨b1, c1, b2, c2, rfl, -⟩; rfl
 ·rintro v H' ⟨b1, c1, b2, c2, rfl, h1, h2, h3⟩
  exact hq _ _ _ _ _ h1 h2 h3
 have fr : Fr H (H.alloc (.rw [.slice a ps.length cap, .slice a' gs.length cap', .int .i64 lots] 25 false [])) := by (repeat (first | exact Fr.refl _ | assumption | refine Fr.allocd ?_ _ | refine Fr.put ?_ (by first | omega | (simp only [yz] <;> omega)) _))
 have h74 := fun (N : Nat) => c74 (N := N) (cap := cap) (cap' := cap') (cl := cl) (h.st.fr fr) (h.rl.fr fr) h.lo
 have hlen := h.lo.len
 have hfl := fo_len (s := false) (ps := ps) (m := l) (by omega)
 have h4 := h.st.st.l4
 simp (disch:=first|(simp only [yk,seval];done)|omega|(simp only [yz]<;>omega)|fail) only [↓yp,yA,ys0,ys1,seval,fitB,newC,endD,endR,yrg,h74,lenV_slice st_esS_22]
 refine W_while (n := 47) 600 (fun q e' H' => ∃ (i : Nat) (S1 S2 : Nat → Prop) (v1 v2 : Value), q = ps.length - i ∧ i ≤ ps.length ∧ MB H H' ps l a al cap cl i S1 S2 v1 v2 e')
  ?_ 4 ps.length ⟨0, fun _ => False, fun _ => False, .slice none 0 0, .slice none 0 0, by omega, by omega, ?_⟩ (by omega) (by omega)
 rotate_left
 ·refine ⟨?_, ?_, ?_, ?_, ?_, ?_, by (repeat (first | exact Fr.refl _ | assumption | refine Fr.allocd ?_ _ | refine Fr.put ?_ (by first | omega | (simp only [yz] <;> omega)) _)), by (first | omega | (simp only [yz] <;> omega)), by rw [List.take_zero]; exact Gw.none, by rw [List.take_zero]; exact Gw.none, fun _ h => h.elim⟩
  ·simp (disch:=first|(simp only [yk,seval];done)|omega|(simp only [yz]<;>omega)|fail) only [yg,seval] <;> rfl
  ·simp (disch:=first|(simp only [yk,seval];done)|omega|(simp only [yz]<;>omega)|fail) only [yg,seval]
  ·simp (disch:=first|(simp only [yk,seval];done)|omega|(simp only [yz]<;>omega)|fail) only [yg,seval]
  ·simp (disch:=first|(simp only [yk,seval];done)|omega|(simp only [yz]<;>omega)|fail) only [yg,seval]
  ·simp (disch:=first|(simp only [yk,seval];done)|omega|(simp only [yz]<;>omega)|fail) only [yg,seval]
  ·simp (disch:=first|(simp only [yk,seval];done)|omega|(simp only [yz]<;>omega)|fail) only [yg,seval]
 clear h74 fr
 rintro M1 q e H' ⟨i, S1, S2, v1, v2, rfl, hi, I⟩
 have sz := I.sz
 have g19 := I.g19
 have g18 := I.g18
 simp (disch:=first|(simp only [yk,seval];done)|omega|(simp only [yz]<;>omega)|fail) only [↓yp,yA,ys0,ys1,seval,fitB,newC,endD,endR,yrg,g19,g18]
 refine ⟨fun hA => ?_, fun hA => ?_⟩
 ·have hi' : i < ps.length := by simpa using hA
  obtain ⟨p, hp⟩ : ∃ p, ps[i]? = some p := ⟨ps[i], by simp [hi']⟩
  obtain ⟨n, hn⟩ : ∃ n, l[i]? = some n := ⟨l[i]'(by omega), by simp [show i < l.length by omega]⟩
  have hil : i < l.length := by omega
  have hno : 0 ≤ n ∧ n ≤ 6 := h.lo.in h.st.pk n (List.mem_of_getElem? hn)
  have hpo := h.st.pk p (List.mem_of_getElem? hp)
  have hfg := fo_get (s := false) hp hn
  obtain ⟨bp, op, cp, hba, hbp, hcp, hqp⟩ := (h.st.hs.fr I.fr).at_ hp
  have q1 : part cp (op + i * 4) 5 = some (.agg ⟨p.enc⟩) := part_of hqp rfl
  obtain ⟨bl, ol, cl', hbl, hblt, hcl, hql⟩ := h.rl.at_ hn
  have q2 := cell_of hql
  rw [show i * intE.z = i * 1 from rfl, Nat.mul_one] at q2
  have h66 := fun (N : Nat) (H : AHeap) => c66 (N := N) (H := H) hpo
  have h94 := fun (N : Nat) (H : AHeap) => c94 (N := N) (H := H) hpo hno
  have h79 := fun (N : Nat) (H : AHeap) => c79 (N := N) (H := H)
  have h115 := fun (N : Nat) (H : AHeap) (x y : Int) => c115 (N := N) (H := H) (a := x) (b := y)
  have e115 : endF false = 140 := rfl
  rw [e115] at h79
  have hf0 := fun (H : AHeap) (L : Nat) (Q : Bool → Value → AHeap → Prop) => flK0_of (s := false) (H := H) (L := L) (Q := Q)
  rw [e115] at hf0
  simp only [Pk.enc] at q1 h66 h94
  have g17 := I.g17
  rw [hba] at g17
  have g1 := I.g1
  rw [hbl] at g1
  have hw2 : w64 ((i : Int) + 1) = ((i + 1 : Nat) : Int) := by rw [w64_of (by omega)]; omega
  refine W_skipI (by omega) ?_
  rw [W_seq, W_block]
  -- the picking
  refine W_seqI (fun e' H'' => MB H H'' ps l a al cap cl i S1 S2 v1 v2 e' ∧ gt 47 e' 8 = .int .i64 (i : Nat) ∧ gt 47 e' 9 = .pointer (some ⟨H'.size, 0, none⟩) ∧ H'.size < H''.size ∧ H''.get H'.size = .rw p.enc 76 false [] ∧ Fr H' H'') ?_ ?_
  ·simp (disch:=first|(simp only [yk,seval];done)|omega|(simp only [yz]<;>omega)|fail) only [↓yp,yA,ys0,ys1,seval,fitB,newC,endD,endR,yrg,g19,g17,A_indexSlice st_esS_22,hcp,q1]
   refine ⟨I.next (by repeat first|exact Fr.refl _|assumption|refine Fr.allocd ?_ _|refine Fr.put ?_ (by first|omega|(simp only [yz]<;>omega)) _) (by (with_reducible repeat first|refine Keep.put ?_ (by decide)|refine Keep.none ?_|assumption|exact Keep.refl _ _ _)), ?_, ?_, by (first | omega | (simp only [yz] <;> omega)), get_put_same (by first|omega|(simp only [yz]<;>omega)), by (repeat (first | exact Fr.refl _ | assumption | refine Fr.allocd ?_ _ | refine Fr.put ?_ (by first | omega | (simp only [yz] <;> omega)) _))⟩
   ·simp (disch:=first|(simp only [yk,seval];done)|omega|(simp only [yz]<;>omega)|fail) only [yg,seval]
   ·simp (disch:=first|(simp only [yk,seval];done)|omega|(simp only [yz]<;>omega)|fail) only [yg,seval]
  clear hcp q1 hbp hqp g17 hba g18
  have n1 : ¬ S1 H'.size := fun h => by have := (I.r1.own _ h).2; omega
  have n2 : ¬ S2 H'.size := fun h => by have := (I.r2.own _ h).2; omega
  have hjH : H.size < H'.size := sz
  clear I sz g19
  generalize H'.size = j at *
  rintro e H2 ⟨I, g8, g9, hjs, hb, -⟩
  simp only [Pk.enc] at hb
  refine W_seqI (fun e' H'' => ∃ (S1' : Nat → Prop) (v1' : Value), gt 47 e' 19 = .int .i64 (i : Nat) ∧ gt 47 e' 18 = .int .i64 ps.length ∧ gt 47 e' 17 = .slice a ps.length cap ∧ gt 47 e' 5 = v2 ∧ gt 47 e' 4 = v1' ∧ gt 47 e' 1 = .slice al l.length cl ∧ gt 47 e' 8 = .int .i64 (i : Nat) ∧ gt 47 e' 9 = .pointer (some ⟨j, 0, none⟩) ∧ Fr H H'' ∧ j < H''.size ∧ H''.get j = .rw p.enc 76 false [] ∧ Gw H'' H.size S1' v1' (i + 1) (intE.fl ((ps.take (i + 1)).map Pk.hi)) 3 1 ∧ Gw H'' H.size S2 v2 i (intE.fl ((fo false ps l).take i)) 3 1 ∧ (∀ j, S1' j → ¬ S2 j) ∧ ¬ S1' j) ?_ ?_
  ·have g4 := I.g4
   have sz := I.sz
   refine W_draw [6, 7] rfl (by kernel_rfl) (by kernel_rfl) (by first|omega|(simp only [yz]<;>omega)) ?_
   simp (disch:=first|(simp only [yk,seval];done)|omega|(simp only [yz]<;>omega)|fail) only [↓yp,yA,ys0,ys1,seval,fitB,newC,endD,endR,yrg,g4,g9,hb,h79,h66,A_fld0,hf0,h115,A_buildSlice st_brS_26_1]
   refine gw_append (i := i) (cs := intE.fl ((ps.take i).map Pk.hi)) (news := [.int .i64 p.hi]) st_apS_26 (I.r1.fr (by repeat first|exact Fr.refl _|assumption|refine Fr.allocd ?_ _|refine Fr.put ?_ (by first|omega|(simp only [yz]<;>omega)) _)) (by first|omega|(simp only [yz]<;>omega)) (by rw [fl_length, List.length_map, List.length_take, Nat.min_eq_left hi]; rfl) (by unfold srcCells; simp (disch:=first|(simp only [yk,seval];done)|omega|(simp only [yz]<;>omega)|fail) only [yg,seval] <;> rfl) (by omega) (by omega) rfl (by omega) ?_
   intro a2 c2 H3 hs3 fs3 gw
   simp only [size_alloc] at hs3 fs3 gw
   have old : ∀ q, q < H2.size → ¬ S1 q → H3.get q = H2.get q := fun q h1 h2 => by rw [fs3 q (by omega) h2, get_alloc_lt h1]
   have hb3 := (old j hjs n1).trans hb
   simp (disch:=first|(simp only [yk,seval];done)|omega|(simp only [yz]<;>omega)|fail) only [↓yp,yA,ys0,ys1,seval,fitB,newC,endD,endR,yrg,g9,hb,hb3,h79,h66,A_fld0,hf0,h115]
   have sv := I.r1.sv (n := 5)
   rw [g4]
   refine ⟨⟨sv, sv, sv⟩, fun q => S1 q ∨ q = H2.size + 1, .slice a2 (i + 1) c2, ?_, ?_, ?_, ?_, ?_, ?_, ?_, ?_, ?_, by omega, hb3, ?_, ?_, ?_, ?_⟩
   ·simp (disch:=first|(simp only [yk,seval];done)|omega|(simp only [yz]<;>omega)|fail) only [yg,seval,I.g19]
   ·simp (disch:=first|(simp only [yk,seval];done)|omega|(simp only [yz]<;>omega)|fail) only [yg,seval,I.g18]
   ·simp (disch:=first|(simp only [yk,seval];done)|omega|(simp only [yz]<;>omega)|fail) only [yg,seval,I.g17]
   ·simp (disch:=first|(simp only [yk,seval];done)|omega|(simp only [yz]<;>omega)|fail) only [yg,seval,I.g5]
   ·simp (disch:=first|(simp only [yk,seval];done)|omega|(simp only [yz]<;>omega)|fail) only [yg,seval]
   ·simp (disch:=first|(simp only [yk,seval];done)|omega|(simp only [yz]<;>omega)|fail) only [yg,seval,I.g1]
   ·simp (disch:=first|(simp only [yk,seval];done)|omega|(simp only [yz]<;>omega)|fail) only [yg,seval,g8]
   ·simp (disch:=first|(simp only [yk,seval];done)|omega|(simp only [yz]<;>omega)|fail) only [yg,seval,g9]
   ·exact ⟨by have := I.fr.size; omega, fun q hq => (old q (by have := I.fr.size; omega) (fun h => by have := (I.r1.own _ h).1; omega)).trans (I.fr.same q hq)⟩
   ·rw [List.take_add_one, hp, List.map_append, fl_app]
    exact gw
   ·exact I.r2.same (by omega) fun q hq => old q (I.r2.own q hq).2 fun h => I.dj q h hq
   ·rintro q (hq | rfl) hq'
    ·exact I.dj q hq hq'
    ·have := (I.r2.own _ hq').2; omega
   ·rintro (hq | rfl)
    ·exact n1 hq
    ·omega
  clear I n1 g8 g9 hjs hb
  rintro e H2 ⟨S1', v1', g19, g18, g17, g5, g4, g1, g8, g9, fr, hjs, hb, r1, r2, dj, n1⟩
  simp only [Pk.enc] at hb
  have hbl2 : bl < H2.size := Nat.lt_of_lt_of_le hblt fr.size
  have hcl2 : cellsOf (H2.get bl) = some cl' := by rw [fr.same bl hblt]; exact hcl
  have sz : H.size < H2.size := by omega
  rw [hbl] at g1
  refine W_draw [10, 11] rfl (by kernel_rfl) (by kernel_rfl) (by first|omega|(simp only [yz]<;>omega)) ?_
  simp (disch:=first|(simp only [yk,seval];done)|omega|(simp only [yz]<;>omega)|fail) only [↓yp,yA,ys0,ys1,seval,fitB,newC,endD,endR,yrg,g1,g5,g8,g9,hb,h79,h94,A_fld0,hf0,h115,A_buildSlice st_brS_26_1,A_indexSlice st_esS_26,hcl2,q2]
  refine gw_append (i := i) (cs := intE.fl ((fo false ps l).take i)) (news := [.int .i64 (p.ih n)]) st_apS_26 (r2.fr (by repeat first|exact Fr.refl _|assumption|refine Fr.allocd ?_ _|refine Fr.put ?_ (by first|omega|(simp only [yz]<;>omega)) _)) (by first|omega|(simp only [yz]<;>omega)) (by rw [fl_length, List.length_take, Nat.min_eq_left (by omega)]; rfl) (by unfold srcCells; simp (disch:=first|(simp only [yk,seval];done)|omega|(simp only [yz]<;>omega)|fail) only [yg,seval] <;> rfl) (by omega) (by omega) rfl (by omega) ?_
  intro a2 c2 H3 hs3 fs3 gw
  simp only [size_alloc] at hs3 fs3 gw
  have old : ∀ q, q < H2.size → ¬ S2 q → H3.get q = H2.get q := fun q h1 h2 => by rw [fs3 q (by omega) h2, get_alloc_lt h1]
  have hb3 := (old j hjs n2).trans hb
  have hcl3 : cellsOf (H3.get bl) = some cl' := by rw [old bl hbl2 (fun h => by have := (r2.own _ h).1; omega)]; exact hcl2
  simp (disch:=first|(simp only [yk,seval];done)|omega|(simp only [yz]<;>omega)|fail) only [↓yp,yA,ys0,ys1,seval,fitB,newC,endD,endR,yrg,g1,g5,g8,g9,g19,hw2,hb,hb3,h79,h94,A_fld0,hf0,h115,A_indexSlice st_esS_26,hcl2,hcl3,q2]
  have sv := r2.sv (n := 5)
  refine ⟨⟨sv, sv, sv⟩, ps.length - (i + 1), by omega, i + 1, S1', fun q => S2 q ∨ q = H2.size + 1, v1', .slice a2 (i + 1) c2, rfl, by omega, ?_, ?_, ?_, ?_, ?_, ?_, ?_, by omega, ?_, ?_, ?_⟩
  ·simp (disch:=first|(simp only [yk,seval];done)|omega|(simp only [yz]<;>omega)|fail) only [yg,seval]
  ·simp (disch:=first|(simp only [yk,seval];done)|omega|(simp only [yz]<;>omega)|fail) only [yg,seval,g18]
  ·simp (disch:=first|(simp only [yk,seval];done)|omega|(simp only [yz]<;>omega)|fail) only [yg,seval,g17]
  ·simp (disch:=first|(simp only [yk,seval];done)|omega|(simp only [yz]<;>omega)|fail) only [yg,seval]
  ·simp (disch:=first|(simp only [yk,seval];done)|omega|(simp only [yz]<;>omega)|fail) only [yg,seval,g4]
  ·simp (disch:=first|(simp only [yk,seval];done)|omega|(simp only [yz]<;>omega)|fail) only [yg,seval,g1,hbl]
  ·exact ⟨by have := fr.size; omega, fun q hq => (old q (by have := fr.size; omega) (fun h => by have := (r2.own _ h).1; omega)).trans (fr.same q hq)⟩
  ·exact r1.same (by omega) fun q hq => old q (r1.own q hq).2 (dj q hq)
  ·rw [List.take_add_one, hfg, fl_app]
   exact gw
  ·rintro q hq (hq' | rfl)
   ·exact dj q hq hq'
   ·have := (r1.own _ hq).2; omega
 ·have hi' : i = ps.length := by have := of_decide_eq_false hA; omega
  subst hi'
  have hne : ps.length ≠ 0 := by have := h.st.st.l1; omega
  have r1 := I.r1
  have r2 := I.r2
  obtain ⟨b1, al1, rfl, s1, k1, -⟩ := r1.cons hne
  obtain ⟨b2, al2, rfl, s2, k2, -⟩ := r2.cons hne
  have g4 := I.g4
  have g5 := I.g5
  rw [List.take_length] at r1
  rw [show ps.length = (fo false ps l).length from hfl.symm, List.take_length] at r2
  simp (disch:=first|(simp only [yk,seval];done)|omega|(simp only [yz]<;>omega)|fail) only [↓yp,yA,ys0,ys1,seval,fitB,newC,endD,endR,yrg,g4,g5]
  refine ⟨b1, _, b2, _, rfl, I.fr, ?_, ?_⟩
  ·rw [show ps.length = (ps.map Pk.hi).length by simp] at r1
   exact (r1.rx (k := 0 + H.size) (fun h => by have := (I.r1.own _ h).1; omega)).rw
  ·exact (r2.rx (k := 0 + H.size) (fun h => by have := (I.r2.own _ h).1; omega)).rw
end
end Go.Am.K
namespace Go.Am.K
open Go.Proofs
variable {T : Tab} {P : Program} {N L : Nat} {H H' H'' : AHeap} {Q : Bool → Value → AHeap → Prop}
theorem prF38_0 {a b : Int} : pureRun Tryz.prog (Go.part 3 ⟨[.int .i64 a, .int .i64 b]⟩ 0) = some (.int .i64 a) := by kernel_rfl
theorem prF38_1 {a b : Int} : pureRun Tryz.prog (Go.part 3 ⟨[.int .i64 a, .int .i64 b]⟩ 1) = some (.int .i64 b) := by kernel_rfl
theorem prS38 : Tryz.prog.stoodInHeld 37 = false := by kernel_rfl
theorem prH38 : pureRun Tryz.prog (underlying 37) = some (.struct #[{ name := "Lo", type := 3, offset := 0, embedded := false, tag := "", pkgPath := "", byteOffset := 0 }, { name := "Hi", type := 3, offset := 1, embedded := false, tag := "", pkgPath := "", byteOffset := 8 }]) := by kernel_rfl
theorem eq38 {a b : Int} : pureRun Tryz.prog (Op.equal 37 (.agg ⟨[.int .i64 a, .int .i64 b]⟩) (.agg ⟨[.int .i64 a, .int .i64 b]⟩)) = some true := by
 show pureRun Tryz.prog (Op.equalIn (9998 + 1 + 1) 37 _ _) = _
 unfold Op.equalIn
 rw [pureRun_bind, prH38]
 simp only [Option.bind_some,pureRun_bind,prG,prS38,Bool.false_eq_true,if_false,List.forIn_toArray,List.forIn_cons,List.forIn_nil,ne_eq,prI,prF38_0,prF38_1,show ("Lo" = "_") = False by simp,show ("Hi" = "_") = False by simp,not_false_eq_true,if_true,beq_self_eq_true,Bool.not_true,prPure]
theorem eqb38 {x y : Operand} {a b : Int} : pureRun Tryz.prog (do eqGuard .neq 37 x y (.agg ⟨[.int .i64 a, .int .i64 b]⟩) (.agg ⟨[.int .i64 a, .int .i64 b]⟩); binOp .neq 37 (.agg ⟨[.int .i64 a, .int .i64 b]⟩) (.agg ⟨[.int .i64 a, .int .i64 b]⟩)) = some (.bool false) := by
 rw [pureRun_bind]
 rw [show pureRun Tryz.prog (eqGuard .neq 37 x y (.agg ⟨[.int .i64 a, .int .i64 b]⟩) (.agg ⟨[.int .i64 a, .int .i64 b]⟩)) = some () by kernel_rfl]
 rw [Option.bind_some, show binOp .neq 37 (.agg ⟨[.int .i64 a, .int .i64 b]⟩) (.agg ⟨[.int .i64 a, .int .i64 b]⟩) = (Op.equal 37 (.agg ⟨[.int .i64 a, .int .i64 b]⟩) (.agg ⟨[.int .i64 a, .int .i64 b]⟩) >>= fun b => pure (.bool !b)) by simp only [binOp], pureRun_bind, eq38]
 rfl
theorem neq38 {x y : Operand} {a b : Int} : binV tabA Tryz.prog .neq 37 x y (.agg ⟨[.int .i64 a, .int .i64 b]⟩) (.agg ⟨[.int .i64 a, .int .i64 b]⟩) = some (.bool false) := by
 unfold binV
 cases h : aEqV Tryz.prog .neq 37 (some (.agg ⟨[.int .i64 a, .int .i64 b]⟩)) (some (.agg ⟨[.int .i64 a, .int .i64 b]⟩)) with
 | none =>
  rw [show gr (.agg ⟨[.int .i64 a, .int .i64 b]⟩) = true from rfl, Bool.and_self, cond_true, eqb38]
  rfl
 | some v =>
  simp only [aEqV] at h
  cases h' : aEqD Tryz.prog 37 (.agg ⟨[.int .i64 a, .int .i64 b]⟩) (.agg ⟨[.int .i64 a, .int .i64 b]⟩) with
  | none => rw [h'] at h; cases h
  | some r =>
   rw [h'] at h
   cases h
   have h1 := (aEqD_run h' default).1
   have h2 := pureRun_run (eq38 (a := a) (b := b)) default
   rw [h2] at h1
   cases h1
   rfl
theorem neB {x y : Operand} {b : Bool} : binV tabA Tryz.prog .neq 4 x y (.bool b) (.bool b) = some (.bool false) := by cases b <;> kernel_rfl
theorem PkIn.isB {M r : Int} {p : Pk} (h : PkIn M p r) (hM : M ≤ 6) : p.isB = true := by
 have h1 := h.s
 have h2 := h.w
 have h3 := h.o
 have h4 := h.f
 unfold Pk.isB wi
 simp only [Bool.and_eq_true,decide_eq_true_eq]
 omega
theorem PkIn.sp {M r : Int} {p : Pk} (h : PkIn M p r) : p.f ≤ p.hi ∧ r ≤ p.hi := by
 have h1 := h.s
 have h2 := h.w
 have h3 := h.o
 have h4 := h.f
 have h5 := h.re
 have h6 := h.c
 unfold Pk.hi
 split <;> omega
end Go.Am.K
namespace Go.Am.K
open Go.Proofs
variable {T : Tab} {P : Program} {N L : Nat} {H H' H'' : AHeap} {Q : Bool → Value → AHeap → Prop}
theorem resK_use {q : Res} {L L' : Nat} {R Q : Bool → Value → AHeap → Prop} (h : resK q L' R) (hL : L ≤ L') (hq : ∀ f v H', R f v H' → Q f v H') : resK q L Q := by
 obtain ⟨f, v, H', m, rfl, h1, h2⟩ := resK_elim h
 exact ⟨Nat.le_trans hL h1, hq _ _ _ h2⟩
theorem eq77g {a b c d : Int} : pureRun Tryz.prog (Op.equal 78 (.agg ⟨[.int .i64 a, .int .i64 b]⟩) (.agg ⟨[.int .i64 c, .int .i64 d]⟩)) = some (decide (a = c) && decide (b = d)) := by
 show pureRun Tryz.prog (Op.equalIn (9998 + 1 + 1) 78 _ _) = _
 unfold Op.equalIn
 rw [pureRun_bind, prH77]
 by_cases h0 : a = c
 ·subst h0
  by_cases h1 : b = d
  ·subst h1
   simp only [Option.bind_some,pureRun_bind,prG,prS77,Bool.false_eq_true,if_false,List.forIn_toArray,List.forIn_cons,List.forIn_nil,ne_eq,prI,prF77_0,prF77_1,show ("Foul" = "_") = False by simp,show ("Price" = "_") = False by simp,not_false_eq_true,if_true,beq_self_eq_true,Bool.not_true,prPure,decide_true,Bool.and_self]
  ·have hb : (b == d) = false := by simpa using h1
   simp only [Option.bind_some,pureRun_bind,prG,prS77,Bool.false_eq_true,if_false,List.forIn_toArray,List.forIn_cons,List.forIn_nil,ne_eq,prI,prF77_0,prF77_1,show ("Foul" = "_") = False by simp,show ("Price" = "_") = False by simp,not_false_eq_true,if_true,beq_self_eq_true,Bool.not_true,prPure,decide_true,hb,Bool.not_false,decide_eq_false h1,Bool.and_false]
 ·have ha : (a == c) = false := by simpa using h0
  simp only [Option.bind_some,pureRun_bind,prG,prS77,Bool.false_eq_true,if_false,List.forIn_toArray,List.forIn_cons,List.forIn_nil,ne_eq,prI,prF77_0,prF77_1,show ("Foul" = "_") = False by simp,show ("Price" = "_") = False by simp,not_false_eq_true,if_true,beq_self_eq_true,Bool.not_true,prPure,ha,Bool.not_false,decide_eq_false h0,Bool.false_and]
theorem eqv77 {x y : Operand} {a b c d : Int} : binV tabA Tryz.prog .eql 78 x y (.agg ⟨[.int .i64 a, .int .i64 b]⟩) (.agg ⟨[.int .i64 c, .int .i64 d]⟩) = some (.bool (decide (a = c) && decide (b = d))) := by
 have hb : pureRun Tryz.prog (do eqGuard .eql 78 x y (.agg ⟨[.int .i64 a, .int .i64 b]⟩) (.agg ⟨[.int .i64 c, .int .i64 d]⟩); binOp .eql 78 (.agg ⟨[.int .i64 a, .int .i64 b]⟩) (.agg ⟨[.int .i64 c, .int .i64 d]⟩)) = some (.bool (decide (a = c) && decide (b = d))) := by
  rw [pureRun_bind]
  rw [show pureRun Tryz.prog (eqGuard .eql 78 x y (.agg ⟨[.int .i64 a, .int .i64 b]⟩) (.agg ⟨[.int .i64 c, .int .i64 d]⟩)) = some () by kernel_rfl]
  rw [Option.bind_some, show binOp .eql 78 (.agg ⟨[.int .i64 a, .int .i64 b]⟩) (.agg ⟨[.int .i64 c, .int .i64 d]⟩) = (Op.equal 78 (.agg ⟨[.int .i64 a, .int .i64 b]⟩) (.agg ⟨[.int .i64 c, .int .i64 d]⟩) >>= fun b => pure (.bool b)) by simp only [binOp], pureRun_bind, eq77g]
  rfl
 unfold binV
 cases h : aEqV Tryz.prog .eql 78 (some (.agg ⟨[.int .i64 a, .int .i64 b]⟩)) (some (.agg ⟨[.int .i64 c, .int .i64 d]⟩)) with
 | none =>
  rw [show gr (.agg ⟨[.int .i64 a, .int .i64 b]⟩) = true from rfl, show gr (.agg ⟨[.int .i64 c, .int .i64 d]⟩) = true from rfl, Bool.and_self, cond_true, hb]
  rfl
 | some v =>
  simp only [aEqV] at h
  cases h' : aEqD Tryz.prog 78 (.agg ⟨[.int .i64 a, .int .i64 b]⟩) (.agg ⟨[.int .i64 c, .int .i64 d]⟩) with
  | none => rw [h'] at h; cases h
  | some r =>
   rw [h'] at h
   cases h
   have h1 := (aEqD_run h' default).1
   have h2 := pureRun_run (eq77g (a := a) (b := b) (c := c) (d := d)) default
   rw [h2] at h1
   cases h1
   rfl
def sameG (g x : Gd) : Bool := decide (g.fo = x.fo) && decide (g.pr = x.pr)
section
variable {a a' al : Option Addr} {cap cap' cl : Nat} {ps : List Pk} {gs : List Gd} {lots : Int} {l : List Int}
theorem c91 {g : Gd} (hs : Rw gdE H a gs) (hl : gs.length ≤ 8) : acall tabA (aexec tabA Tryz.prog (N + 200)) 74 [.slice a gs.length cap, .agg ⟨g.enc⟩] H = some (true, .int .i64 (fstI (sameG g) gs 0), H, H.size) := by
 refine call_quiet (k := 19) (rs := [.tmp 4]) rfl fn_74 rfl rfl rfl ?_ rfl
 simp (disch:=first|(simp only [yk,seval];done)|omega|(simp only [yz]<;>omega)|fail) only [↓yp,yA,ys0,ys1,seval,fitB,newC,endD,endR,yrg,Gd.enc,lenV_slice st_esS_23]
 refine W_while (n := 19) 90 (fun k e H' => ∃ i, k = gs.length - i ∧ i ≤ gs.length ∧ gt 19 e 8 = .int .i64 (i : Nat) ∧ gt 19 e 7 = .int .i64 gs.length ∧ gt 19 e 3 = .pointer (some ⟨H.size, 0, none⟩) ∧ gt 19 e 0 = .slice a gs.length cap ∧ Fr H H' ∧ H.size < H'.size ∧ H'.get H.size = .rw g.enc 78 false [] ∧ fstI (sameG g) gs 0 = fstI (sameG g) (gs.drop i) i)
  ?_ 8 gs.length ⟨0, by omega, by omega, by simp (disch:=first|(simp only [yk,seval];done)|omega|(simp only [yz]<;>omega)|fail) only [yg,seval] <;> rfl, by simp (disch:=first|(simp only [yk,seval];done)|omega|(simp only [yz]<;>omega)|fail) only [yg,seval], by simp (disch:=first|(simp only [yk,seval];done)|omega|(simp only [yz]<;>omega)|fail) only [yg,seval], by simp (disch:=first|(simp only [yk,seval];done)|omega|(simp only [yz]<;>omega)|fail) only [yg,seval], by (repeat (first | exact Fr.refl _ | assumption | refine Fr.allocd ?_ _ | refine Fr.put ?_ (by first | omega | (simp only [yz] <;> omega)) _)), by (first | omega | (simp only [yz] <;> omega)), by simp (disch:=first|(simp only [yk,seval];done)|omega|(simp only [yz]<;>omega)|fail) only [yg,seval] <;> rfl, by simp⟩ (by omega) (by omega)
 rintro M k e H' ⟨i, rfl, hi, g8, g7, g3, g0, fr, lt, b3, hj⟩
 have fs := fr.same
 simp only [Gd.enc] at b3
 simp (disch:=first|(simp only [yk,seval];done)|omega|(simp only [yz]<;>omega)|fail) only [↓yp,yA,ys0,ys1,seval,fitB,newC,endD,endR,yrg,g8,g7]
 refine ⟨fun hlt => ?_, fun hlt => ?_⟩
 ·have hi' : i < gs.length := by simpa using hlt
  obtain ⟨x, hx⟩ : ∃ x, gs[i]? = some x := ⟨gs[i], by simp [hi']⟩
  obtain ⟨b, o, c, rfl, hb, hc, hq⟩ := (hs.fr fr).at_ hx
  have q : part c (o + i * 2) 3 = some (.agg ⟨x.enc⟩) := part_of hq rfl
  simp only [Gd.enc] at q
  rw [fstI_drop hx] at hj
  simp (disch:=first|(simp only [yk,seval];done)|omega|(simp only [yz]<;>omega)|fail) only [↓yp,yA,ys0,ys1,seval,fitB,newC,endD,endR,yrg,g8,g7]
  refine W_draw [] rfl (by kernel_rfl) (by kernel_rfl) (by first|omega|(simp only [yz]<;>omega)) ?_
  simp (disch:=first|(simp only [yk,seval];done)|omega|(simp only [yz]<;>omega)|fail) only [↓yp,yA,ys0,ys1,seval,fitB,newC,endD,endR,yrg,g8,g7,g3,g0,b3,A_indexSlice st_esS_23,hc,q,eqv77]
  have hsg : (decide (g.fo = x.fo) && decide (g.pr = x.pr)) = sameG g x := rfl
  rw [hsg]
  cases hA : sameG g x
  ·rw [hA] at hj
   have hj' : fstI (sameG g) gs 0 = fstI (sameG g) (gs.drop (i + 1)) (i + 1) := hj
   have hw2 : w64 ((i : Int) + 1) = ((i + 1 : Nat) : Int) := by rw [w64_of (by omega)]; omega
   simp (disch:=first|(simp only [yk,seval];done)|omega|(simp only [yz]<;>omega)|fail) only [↓yp,yA,ys0,ys1,seval,fitB,newC,endD,endR,yrg,g8,g7,g3,g0,hw2]
   refine ⟨gs.length - (i + 1), by omega, i + 1, rfl, by omega, ?_, ?_, ?_, ?_, fr, lt, b3, hj'⟩
   ·simp (disch:=first|(simp only [yk,seval];done)|omega|(simp only [yz]<;>omega)|fail) only [yg,seval]
   ·simp (disch:=first|(simp only [yk,seval];done)|omega|(simp only [yz]<;>omega)|fail) only [yg,seval,g7]
   ·simp (disch:=first|(simp only [yk,seval];done)|omega|(simp only [yz]<;>omega)|fail) only [yg,seval,g3]
   ·simp (disch:=first|(simp only [yk,seval];done)|omega|(simp only [yz]<;>omega)|fail) only [yg,seval,g0]
  ·rw [hA] at hj
   have hj' : fstI (sameG g) gs 0 = (i : Int) := hj
   simp (disch:=first|(simp only [yk,seval];done)|omega|(simp only [yz]<;>omega)|fail) only [↓yp,yA,ys0,ys1,seval,fitB,newC,endD,endR,yrg,g8,hj']
 ·have hi' : i = gs.length := by
   have : ¬ ((i : Int) < gs.length) := by simpa using hlt
   omega
  subst hi'
  rw [List.drop_length] at hj
  simp (disch:=first|(simp only [yk,seval];done)|omega|(simp only [yz]<;>omega)|fail) only [↓yp,yA,ys0,ys1,seval,fitB,newC,endD,endR,yrg,hj,fstI]
end
theorem ordB_lt : ∀ {gs : List Gd} {g : Gd}, ordB (g :: gs) = true → ordB gs = true ∧ ∀ x ∈ gs, g.fo < x.fo
 | [], _, _ => ⟨rfl, fun _ h => by simp at h⟩
 | y :: gs, g, h => by
  have h' : ((decide (g.fo < y.fo) && decide (y.pr < g.pr)) && ordB (y :: gs)) = true := h
  simp only [Bool.and_eq_true,decide_eq_true_eq] at h'
  have ih := ordB_lt h'.2
  refine ⟨h'.2, fun x hx => ?_⟩
  rcases List.mem_cons.1 hx with rfl | hx
  ·exact h'.1.1
  ·have := ih.2 x hx; omega
def orZ : Option Gd → Gd
 | some g => g
 | none => ⟨0, 0⟩
theorem fst_same {p : Gd → Bool} : ∀ {gs : List Gd} {k : Nat}, ordB gs = true → (∀ g ∈ gs, 1 ≤ g.pr) → fstI (sameG (orZ (gs.find? p))) gs k = fstI p gs k
 | [], _, _, _ => rfl
 | g :: gs, k, ho, hp => by
  obtain ⟨h1, h2⟩ := ordB_lt ho
  have hg := hp g (by simp)
  cases hA : p g
  ·have hf : (g :: gs).find? p = gs.find? p := by simp [List.find?_cons, hA]
   rw [hf]
   have hne : sameG (orZ (gs.find? p)) g = false := by
    unfold sameG
    cases hx : gs.find? p with
    | none =>
     show (decide ((0 : Int) = g.fo) && decide ((0 : Int) = g.pr)) = false
     rw [show decide ((0 : Int) = g.pr) = false by simp; omega, Bool.and_false]
    | some x =>
     have := h2 x (List.mem_of_find?_eq_some hx)
     show (decide (x.fo = g.fo) && decide (x.pr = g.pr)) = false
     rw [show decide (x.fo = g.fo) = false by simp; omega, Bool.false_and]
   show (bif sameG (orZ (gs.find? p)) g then (k : Int) else fstI (sameG (orZ (gs.find? p))) gs (k + 1)) = bif p g then (k : Int) else fstI p gs (k + 1)
   rw [hne, hA, cond_false, cond_false]
   exact fst_same h1 fun x hx => hp x (by simp [hx])
  ·have hf : (g :: gs).find? p = some g := by simp [List.find?_cons, hA]
   rw [hf]
   show (bif sameG g g then (k : Int) else _) = bif p g then (k : Int) else _
   rw [show sameG g g = true by simp [sameG], hA]; rfl
def sureV (ps : List Pk) (gs : List Gd) (l : List Int) : Int := fstI (hasG (isum l) (isum (fo false ps l))) gs 0
section
variable {a a' al : Option Addr} {cap cap' cl : Nat} {ps : List Pk} {gs : List Gd} {lots : Int} {l : List Int}
theorem grd_mx (h : l.length = ps.length) : grd ps gs (mx l) = orZ (gs.find? (hasG (isum l) (isum (fo false ps l)))) := by
 unfold grd
 rw [mx_sum, fo_pad h]
 unfold orZ
 rfl
theorem LtR.c92 (h : LtR H a a' al ps gs lots l) {mk : Nat} : acall tabA (aexec tabA Tryz.prog (N + 600)) 75 [.agg ⟨[.slice a ps.length cap, .slice a' gs.length cap', .int .i64 lots, .map (some mk)]⟩, .agg ⟨tv (mx l)⟩] H = some (true, .agg ⟨(orZ (gs.find? (hasG (isum l) (isum (Go.Am.fo false ps l))))).enc⟩, H, H.size) := by
 rw [← grd_mx h.lo.len]
 exact K.c92 (N := N) (cap := cap) (cap' := cap') (lo := .int .i64 lots) (mp := .map (some mk)) h.st.hs h.st.st.l4 h.st.pk h.st.hg h.st.st.g4 h.st.gd h.mx4 h.in_ sv_int sv_map
set_option maxHeartbeats 1000000 in
theorem c38 (h : LtR H a a' al ps gs lots l) :
  acall tabA (aexec tabA Tryz.prog (N + 800)) 19 [.agg ⟨[.slice a ps.length cap, .slice a' gs.length cap', .int .i64 lots]⟩, .slice al l.length cl] H = some (true, .tuple ⟨[.int .i64 (sureV ps gs l), .int .i64 0]⟩, H, H.size) := by
 refine call_quiet (k := 21) (rs := [.tmp 4, .tmp 5]) rfl fn_19 rfl rfl rfl ?_ rfl
 have fr : Fr H (H.alloc (.rw [.slice a ps.length cap, .slice a' gs.length cap', .int .i64 lots] 25 false [])) := by (repeat (first | exact Fr.refl _ | assumption | refine Fr.allocd ?_ _ | refine Fr.put ?_ (by first | omega | (simp only [yz] <;> omega)) _))
 have h0 := h.fr fr
 have h74 := fun (N : Nat) => c74 (N := N) (cap := cap) (cap' := cap') (cl := cl) h0.st h0.rl h.lo
 have hg4 := h.st.st.g4
 simp (disch:=first|(simp only [yk,seval];done)|omega|(simp only [yz]<;>omega)|fail) only [↓yp,yA,ys0,ys1,seval,fitB,newC,endD,endR,yrg,h74]
 refine W_draw [3] rfl (by kernel_rfl) (by kernel_rfl) (by first|omega|(simp only [yz]<;>omega)) ?_
 simp (disch:=first|(simp only [yk,seval];done)|omega|(simp only [yz]<;>omega)|fail) only [↓yp,yA,ys0,ys1,seval,fitB,newC,endD,endR,yrg]
 refine c77 (by first|omega|(simp only [yz]<;>omega)) (by omega) ?_
 intro mk H1 fr1 k1 k2 k3
 have f1 := fr1.size
 have s1 := fr1.same
 simp only [size_alloc] at f1 s1 k1
 have hh := h0.fr fr1
 have hsv : fstI (sameG (orZ (gs.find? (hasG (isum l) (isum (fo false ps l)))))) gs 0 = sureV ps gs l := fst_same h.st.st.od fun g hg => by
  have := List.all_eq_true.1 h.st.st.gb g hg
  unfold Gd.isB wi at this
  simp only [Bool.and_eq_true,decide_eq_true_eq] at this
  omega
 have h75 := fun (N : Nat) => c75 (N := N) (cl := cl) h0.rl h.l1 h.l4
 have h75' := fun (N : Nat) => c75 (N := N) (cl := cl) hh.rl h.l1 h.l4
 have h92 := fun (N : Nat) => h0.c92 (N := N) (cap := cap) (cap' := cap') (mk := mk)
 have h92' := fun (N : Nat) => hh.c92 (N := N) (cap := cap) (cap' := cap') (mk := mk)
 have h91 := fun (N : Nat) => c91 (N := N) (cap := cap') (g := orZ (gs.find? (hasG (isum l) (isum (fo false ps l))))) h0.st.hg (by omega)
 have h91' := fun (N : Nat) => c91 (N := N) (cap := cap') (g := orZ (gs.find? (hasG (isum l) (isum (fo false ps l))))) hh.st.hg (by omega)
 rw [hsv] at h91 h91'
 have hst := fun n => sl_tv (n := n) (mx l)
 generalize (orZ (gs.find? (hasG (isum l) (isum (fo false ps l))))) = gg at h92 h92' h91 h91'
 simp only [Gd.enc] at h92 h92' h91 h91'
 simp (disch:=first|(simp only [yk,seval];done)|omega|(simp only [yz]<;>omega)|fail) only [↓yp,yA,ys0,ys1,seval,fitB,newC,endD,endR,yrg,s1,h75,h75',h92,h92',h91,h91',hst]
theorem aFind_nil {m : List Int} (hm : m.length = 4) : aFindKey tabA Tryz.prog 120 (.agg ⟨tv m⟩) [] = some none := by
 obtain ⟨p, q, r, s, rfl⟩ := four hm
 obtain ⟨j, hj⟩ := nfind_key (a := p) (b := q) (c := r) (d := s) (es := []) (q := none) rfl
 exact hj
def brgV (ps : List Pk) (gs : List Gd) (l : List Int) : Int := isum l * (orZ (gs.find? (hasG (isum l) (isum (fo false ps l))))).pr
theorem c39 (h : LtR H a a' al ps gs lots l) :
  acall tabA (aexec tabA Tryz.prog (N + 1000)) 21 [.agg ⟨[.slice a ps.length cap, .slice a' gs.length cap', .int .i64 lots]⟩, .slice al l.length cl] H = some (true, .tuple ⟨[.int .i64 (brgV ps gs l), .int .i64 0]⟩, H, H.size) := by
 refine call_quiet (k := 18) (rs := [.tmp 4, .tmp 5]) rfl fn_21 rfl rfl rfl ?_ rfl
 have fr : Fr H (H.alloc (.rw [.slice a ps.length cap, .slice a' gs.length cap', .int .i64 lots] 25 false [])) := by (repeat (first | exact Fr.refl _ | assumption | refine Fr.allocd ?_ _ | refine Fr.put ?_ (by first | omega | (simp only [yz] <;> omega)) _))
 have h0 := h.fr fr
 have h74 := fun (N : Nat) => c74 (N := N) (cap := cap) (cap' := cap') (cl := cl) h0.st h0.rl h.lo
 simp (disch:=first|(simp only [yk,seval];done)|omega|(simp only [yz]<;>omega)|fail) only [↓yp,yA,ys0,ys1,seval,fitB,newC,endD,endR,yrg,h74]
 refine c77 (by first|omega|(simp only [yz]<;>omega)) (by omega) ?_
 intro mk H1 fr1 k1 k2 k3
 have f1 := fr1.size
 have s1 := fr1.same
 simp only [size_alloc] at f1 s1 k1
 have hh := h0.fr fr1
 have h75 := fun (N : Nat) => c75 (N := N) (cl := cl) hh.rl h.l1 h.l4
 have e : isum (mx l) * (grd ps gs (mx l)).pr = brgV ps gs l := by
  rw [grd_mx h.lo.len, mx_sum]; rfl
 simp (disch:=first|(simp only [yk,seval];done)|omega|(simp only [yz]<;>omega)|fail) only [↓yp,yA,ys0,ys1,seval,fitB,newC,endD,endR,yrg,h75]
 have h93 := fun (N : Nat) => c93n (N := N) (cap := cap) (cap' := cap') (lo := .int .i64 lots) hh.st.hs h.st.st.l4 h.st.pk hh.st.hg h.st.st.g4 h.st.gd h.mx4 h.in_ sv_int k3 k2 (aFind_nil h.mx4)
 refine resK_use (h93 _) (by omega) ?_
 rintro f v H2 ⟨rfl, rfl⟩
 rw [e]
 simp (disch:=first|(simp only [yk,seval];done)|omega|(simp only [yz]<;>omega)|fail) only [↓yp,yA,ys0,ys1,seval,fitB,newC,endD,endR,yrg]
end
end Go.Am.K
