import Derived.Test.YtbofjfjopeaefaaGreatT35
set_option linter.unusedSimpArgs false
set_option linter.unusedVariables false
namespace Go.Am.K
open Go.Proofs
variable {T : Tab} {P : Program} {N L : Nat} {H H' H'' : AHeap} {Q : Bool → Value → AHeap → Prop}
structure StR (H : AHeap) (a a' : Option Addr) (ps : List Pk) (gs : List Gd) (lots : Int) : Prop where
 hs : Rw pkE H a ps
 hg : Rw gdE H a' gs
 ok : chkS ps gs lots = 0
section
variable {a a' al : Option Addr} {cap cap' cl : Nat} {ps : List Pk} {gs : List Gd} {lots : Int} {l : List Int}
theorem StR.fr (h : StR H a a' ps gs lots) (f : Fr H H') : StR H' a a' ps gs lots := ⟨h.hs.fr f, h.hg.fr f, h.ok⟩
theorem StR.st (h : StR H a a' ps gs lots) : StOk ps gs lots := chkS_ok h.ok
theorem StR.pk (h : StR H a a' ps gs lots) : ∀ p ∈ ps, p.Ok := fun p hp => Pk.isB_ok (List.all_eq_true.1 h.st.pb p hp)
theorem StR.gd (h : StR H a a' ps gs lots) : ∀ g ∈ gs, g.Ok := fun g hg => by
 have := List.all_eq_true.1 h.st.gb g hg
 unfold Gd.isB wi at this
 simp only [Bool.and_eq_true,decide_eq_true_eq] at this
 exact ⟨this.1, by omega⟩
theorem LotOk.in (h : LotOk ps l) (hk : ∀ p ∈ ps, p.Ok) : ∀ n ∈ l, 0 ≤ n ∧ n ≤ 6 := fun n hn => by
 obtain ⟨j, hj⟩ := List.getElem?_of_mem hn
 have hlt := (List.getElem?_eq_some_iff.1 hj).1
 obtain ⟨p, hp⟩ : ∃ p, ps[j]? = some p := ⟨ps[j]'(by rw [← h.len]; exact hlt), by simp [show j < ps.length by rw [← h.len]; exact hlt]⟩
 have h1 := h.ok j n p hj hp
 have h2 := (hk p (List.mem_of_getElem? hp)).s
 omega
def mx (l : List Int) : List Int := pt l l.length
theorem mx_len (h : l.length ≤ 4) : (mx l).length = 4 := pt_len (Nat.le_refl _) h
theorem mx_in (h : ∀ n ∈ l, 0 ≤ n ∧ n ≤ 6) : ∀ n ∈ mx l, 0 ≤ n ∧ n ≤ 6 := fun n hn => by
 unfold mx pt at hn
 rw [List.take_length] at hn
 rcases List.mem_append.1 hn with hn | hn
 ·exact h n hn
 ·have := List.eq_of_mem_replicate hn; omega
theorem mx_sum : isum (mx l) = isum l := isum_pt
theorem fo_mx {s : Bool} : ∀ {ps : List Pk} {l r : List Int}, l.length = ps.length → fo s ps (l ++ r) = fo s ps l
 | [], [], _, _ => by simp [fo]
 | [], _ :: _, _, h => by simp at h
 | _ :: _, [], _, h => by simp at h
 | p :: ps, n :: l, r, h => by
  simp only [List.cons_append,fo]
  rw [fo_mx (by simpa using h)]
theorem fo_pad {s : Bool} (h : l.length = ps.length) : fo s ps (mx l) = fo s ps l := by
 unfold mx pt
 rw [List.take_length]
 exact fo_mx h
set_option maxHeartbeats 1000000 in
theorem c99 {x y : Value} (hs : Rw pkE H a ps) (hl : Rw intE H al l) (ho : LotOk ps l) (h4 : ps.length ≤ 4) :
  acall tabA (aexec tabA Tryz.prog (N + 250)) 92 [.agg ⟨[.slice a ps.length cap, x, y]⟩, .slice al l.length cl] H = some (true, .int .i64 0, H, H.size) := by
 refine call_quiet (k := 30) (rs := [.tmp 4]) rfl fn_92 rfl rfl rfl ?_ rfl
 have hll : decide ((l.length : Int) = (ps.length : Int)) = true := by rw [ho.len]; simp
 simp (disch:=first|(simp only [yk,seval];done)|omega|(simp only [yz]<;>omega)|fail) only [↓yp,yA,ys0,ys1,seval,fitB,newC,endD,endR,yrg,lenV_slice st_esS_22,lenV_slice st_esS_26,hll]
 refine W_while (n := 30) 100 (fun q e' H' => ∃ i : Nat, q = ps.length - i ∧ i ≤ ps.length ∧ gt 30 e' 16 = .int .i64 (i : Nat) ∧ gt 30 e' 15 = .int .i64 ps.length ∧ gt 30 e' 14 = .slice a ps.length cap ∧ gt 30 e' 1 = .slice al l.length cl ∧ gt 30 e' 4 = .int .i64 0 ∧ Fr H H')
  ?_ 4 ps.length ⟨0, by omega, by omega, by simp (disch:=first|(simp only [yk,seval];done)|omega|(simp only [yz]<;>omega)|fail) only [yg,seval] <;> rfl, by simp (disch:=first|(simp only [yk,seval];done)|omega|(simp only [yz]<;>omega)|fail) only [yg,seval], by simp (disch:=first|(simp only [yk,seval];done)|omega|(simp only [yz]<;>omega)|fail) only [yg,seval], by simp (disch:=first|(simp only [yk,seval];done)|omega|(simp only [yz]<;>omega)|fail) only [yg,seval], by simp (disch:=first|(simp only [yk,seval];done)|omega|(simp only [yz]<;>omega)|fail) only [yg,seval], by (repeat (first | exact Fr.refl _ | assumption | refine Fr.allocd ?_ _ | refine Fr.put ?_ (by first | omega | (simp only [yz] <;> omega)) _))⟩ (by omega) (by omega)
 rintro M1 q e H' ⟨i, rfl, hi, g16, g15, g14, g1, g4, fr⟩
 have f0 := fr.size
 have fs := fr.same
 simp (disch:=first|(simp only [yk,seval];done)|omega|(simp only [yz]<;>omega)|fail) only [↓yp,yA,ys0,ys1,seval,fitB,newC,endD,endR,yrg,g16,g15]
 refine ⟨fun hA => ?_, fun hA => ?_⟩
 ·have hi' : i < ps.length := by simpa using hA
  obtain ⟨p, hp⟩ : ∃ p, ps[i]? = some p := ⟨ps[i], by simp [hi']⟩
  obtain ⟨n, hn⟩ : ∃ n, l[i]? = some n := ⟨l[i]'(by rw [ho.len]; exact hi'), by simp [show i < l.length by rw [ho.len]; exact hi']⟩
  have hnp := ho.ok i n p hn hp
  have hil : i < l.length := by rw [ho.len]; exact hi'
  obtain ⟨b, o, c, rfl, hb, hc, hq⟩ := (hs.fr fr).at_ hp
  have q : part c (o + i * 4) 5 = some (.agg ⟨p.enc⟩) := part_of hq rfl
  obtain ⟨b2, o2, c2, rfl, hb2, hc2, hq2⟩ := (hl.fr fr).at_ hn
  have q2 := cell_of hq2
  rw [show i * intE.z = i * 1 from rfl, Nat.mul_one] at q2
  have hw2 : w64 ((i : Int) + 1) = ((i + 1 : Nat) : Int) := by rw [w64_of (by omega)]; omega
  have h58 := fun (N : Nat) (H : AHeap) => c58 (N := N) (H := H) (n := n) (lo := 0) (hi := p.s)
  have hwi : wi n 0 p.s = true := by unfold wi; simp; omega
  rw [hwi] at h58
  simp only [Pk.enc] at q
  simp (disch:=first|(simp only [yk,seval];done)|omega|(simp only [yz]<;>omega)|fail) only [↓yp,yA,ys0,ys1,seval,fitB,newC,endD,endR,yrg,g16,g14,A_indexSlice st_esS_22,hc,q]
  refine W_draw [] rfl (by kernel_rfl) (by kernel_rfl) (by first|omega|(simp only [yz]<;>omega)) ?_
  simp (disch:=first|(simp only [yk,seval];done)|omega|(simp only [yz]<;>omega)|fail) only [↓yp,yA,ys0,ys1,seval,fitB,newC,endD,endR,yrg,g16,g15,g14,g1,g4,A_indexSlice st_esS_26,hc2,q2,h58,hw2]
  refine ⟨ps.length - (i + 1), by omega, i + 1, rfl, by omega, ?_, ?_, ?_, ?_, ?_, by (repeat (first | exact Fr.refl _ | assumption | refine Fr.allocd ?_ _ | refine Fr.put ?_ (by first | omega | (simp only [yz] <;> omega)) _))⟩
  ·simp (disch:=first|(simp only [yk,seval];done)|omega|(simp only [yz]<;>omega)|fail) only [yg,seval]
  ·simp (disch:=first|(simp only [yk,seval];done)|omega|(simp only [yz]<;>omega)|fail) only [yg,seval,g15]
  ·simp (disch:=first|(simp only [yk,seval];done)|omega|(simp only [yz]<;>omega)|fail) only [yg,seval,g14]
  ·simp (disch:=first|(simp only [yk,seval];done)|omega|(simp only [yz]<;>omega)|fail) only [yg,seval,g1]
  ·simp (disch:=first|(simp only [yk,seval];done)|omega|(simp only [yz]<;>omega)|fail) only [yg,seval,g4]
 ·simp (disch:=first|(simp only [yk,seval];done)|omega|(simp only [yz]<;>omega)|fail) only [↓yp,yA,ys0,ys1,seval,fitB,newC,endD,endR,yrg,g4]
theorem c74 (h : StR H a a' ps gs lots) (hl : Rw intE H al l) (ho : LotOk ps l) :
  acall tabA (aexec tabA Tryz.prog (N + 400)) 62 [.agg ⟨[.slice a ps.length cap, .slice a' gs.length cap', .int .i64 lots]⟩, .slice al l.length cl] H = some (true, .int .i64 0, H, H.size) := by
 refine call_quiet (k := 14) (rs := [.tmp 4]) rfl fn_62 rfl rfl rfl ?_ rfl
 have fr : Fr H (H.alloc (.rw [.slice a ps.length cap, .slice a' gs.length cap', .int .i64 lots] 25 false [])) := by (repeat (first | exact Fr.refl _ | assumption | refine Fr.allocd ?_ _ | refine Fr.put ?_ (by first | omega | (simp only [yz] <;> omega)) _))
 have h16 := fun (N : Nat) => c16 (N := N) (cap := cap) (cap' := cap') (lots := lots) (h.hs.fr fr) (h.hg.fr fr)
 rw [h.ok] at h16
 have h99 := fun (N : Nat) => c99 (N := N) (cap := cap) (cl := cl) (x := .slice a' gs.length cap') (y := .int .i64 lots) (h.hs.fr fr) (hl.fr fr) ho h.st.l4
 simp (disch:=first|(simp only [yk,seval];done)|omega|(simp only [yz]<;>omega)|fail) only [↓yp,yA,ys0,ys1,seval,fitB,newC,endD,endR,yrg,h16,h99]
theorem mx_cells (h : l.length ≤ 4) : newC 0 (tv l) [Value.int .i64 0, .int .i64 0, .int .i64 0, .int .i64 0] = tv (mx l) := by
 match l, h with
 | [], _ => rfl
 | [_], _ => rfl
 | [_, _], _ => rfl
 | [_, _, _], _ => rfl
 | [_, _, _, _], _ => rfl
theorem c75 (hl : Rw intE H al l) (h1 : 1 ≤ l.length) (h4 : l.length ≤ 4) : acall tabA (aexec tabA Tryz.prog (N + 40)) 65 [.slice al l.length cl] H = some (true, .agg ⟨tv (mx l)⟩, H, H.size) := by
 refine call_quiet (k := 8) (rs := [.cell 2 120]) rfl fn_65 rfl rfl rfl ?_ (gr_tv _)
 obtain ⟨b, o, c, rfl, hb, hc, hq⟩ := hl.get (by rintro rfl; simp at h1)
 have hmin : Nat.min l.length 4 = l.length := Nat.min_eq_left h4
 have hsrc : ∀ H', Fr H H' → srcCells H' ⟨b, o, none⟩ (Nat.min l.length 4 * 1) = some (tv l) := fun H' f => by
  rw [hmin]
  have := (hl.fr f).src (by rintro rfl; simp at h1)
  rw [fl_int] at this
  exact this
 simp (disch:=first|(simp only [yk,seval];done)|omega|(simp only [yz]<;>omega)|fail) only [↓yp,yA,ys0,ys1,seval,fitB,newC,endD,endR,yrg,A_all st_arS_120 (by unfold OPEN; omega) (by omega)]
 refine A_copy_of (z := 1) (b := H.size + 1) (o := 0) (sp := none) (dc := 4) (sc := cl) (l := tv l) (c := [.int .i64 0, .int .i64 0, .int .i64 0, .int .i64 0]) (e := 120) (op := false) (dl := 4) (sl := l.length) (sa := ⟨b, o, none⟩) st_esS_26 (by simp (disch:=first|(simp only [yk,seval];done)|omega|(simp only [yz]<;>omega)|fail) only [↓yp,yA,ys0,ys1,seval,fitB,newC,endD,endR,yrg]) (by simp (disch:=first|(simp only [yk,seval];done)|omega|(simp only [yz]<;>omega)|fail) only [↓yp,yA,ys0,ys1,seval,fitB,newC,endD,endR,yrg]) (hsrc _ (by repeat first|exact Fr.refl _|assumption|refine Fr.allocd ?_ _|refine Fr.put ?_ (by first|omega|(simp only [yz]<;>omega)) _)) (by simp (disch:=first|(simp only [yk,seval];done)|omega|(simp only [yz]<;>omega)|fail) only [yg,seval]) (by rw [tv_len]; show 0 + l.length ≤ 4; omega) (one_tv _) (by omega) ?_
 rw [mx_cells h4]
 have hmp : part (tv (mx l)) 0 5 = some (.agg ⟨tv (mx l)⟩) := part_tv (mx_len h4)
 have hl4 : (tv (mx l)).length = 4 := by rw [tv_len, mx_len h4]
 have h0 : newC 0 (tv (mx l)) [Value.int .i64 0, .int .i64 0, .int .i64 0, .int .i64 0] = tv (mx l) := by
  unfold newC
  rw [hl4]
  simp
 simp (disch:=first|(simp only [yk,seval];done)|omega|(simp only [yz]<;>omega)|fail) only [↓yp,yA,ys0,ys1,seval,fitB,newC,endD,endR,yrg,hmp,hl4,one_tv,h0]
theorem one_map' {m : Nat} {c : List Value} : oneCells (.map (some m) :: c) = oneCells c := nr rfl
theorem cells_map' {p : Option Nat} : (Value.map p).cells.toList = [.map p] := nr rfl
theorem c77 {n n' : Nat} (hL : L ≤ H.size) {M : Nat} (hM : 30 ≤ M) (hq : ∀ mk H', Fr H H' → H.size ≤ mk → mk < H'.size → H'.get mk = .map [] 0 → Q false (.agg ⟨[.slice a n cap, .slice a' n' cap', .int .i64 lots, .map (some mk)]⟩) H') :
  resK (acall tabA (aexec tabA Tryz.prog M) 63 [.agg ⟨[.slice a n cap, .slice a' n' cap', .int .i64 lots]⟩] H) L Q := by
 obtain ⟨N, rfl⟩ : ∃ N, M = N + 30 := ⟨M - 30, by omega⟩
 refine call_fls (R := fun v H' => ∃ mk, v = .agg ⟨[.slice a n cap, .slice a' n' cap', .int .i64 lots, .map (some mk)]⟩ ∧ Fr H H' ∧ H.size ≤ mk ∧ mk < H'.size ∧ H'.get mk = .map [] 0) (k := 6) (rs := [.cell 2 116]) rfl fn_63 rfl rfl rfl hL ?_ ?_ ?_
 rotate_left
 ·rintro v H' ⟨mk, rfl, -⟩
  simp [gr, ground]
 ·rintro v H' ⟨mk, rfl, h1, h2, h3, h4⟩
  exact hq _ _ h1 h2 h3 h4
 simp (disch:=first|(simp only [yk,seval];done)|omega|(simp only [yz]<;>omega)|fail) only [↓yp,yA,ys0,ys1,seval,fitB,newC,endD,endR,yrg,A_mkMap,A_build st_bdS_116,one_map',cells_map']
 exact ⟨H.size + 1 + 1, by simp only [yg,seval], by (repeat (first | exact Fr.refl _ | assumption | refine Fr.allocd ?_ _ | refine Fr.put ?_ (by first | omega | (simp only [yz] <;> omega)) _)), by (first | omega | (simp only [yz] <;> omega)), by (first | omega | (simp only [yz] <;> omega)), by simp (disch:=first|(simp only [yk,seval];done)|omega|(simp only [yz]<;>omega)|fail) only [yg,seval]⟩
end
end Go.Am.K
namespace Go.Am.K
open Go.Proofs
variable {T : Tab} {P : Program} {N L : Nat} {H H' H'' : AHeap} {Q : Bool → Value → AHeap → Prop}
section
variable {a a' al : Option Addr} {cap cap' cl : Nat} {ps : List Pk} {gs : List Gd} {lots : Int} {l m : List Int}
set_option maxHeartbeats 1000000 in
theorem c90 {g lo mp : Value} (hs : Rw pkE H a ps) (hl : ps.length ≤ 4) (hk : ∀ p ∈ ps, p.Ok) (hm : m.length = 4) (hb : ∀ n ∈ m, 0 ≤ n ∧ n ≤ 6) (hg : sameV 5 g g = true) (ho : sameV 5 lo lo = true) (hp : sameV 5 mp mp = true) :
  acall tabA (aexec tabA Tryz.prog (N + 400)) 64 [.agg ⟨[.slice a ps.length cap, g, lo, mp]⟩, .agg ⟨tv m⟩] H = some (true, .agg ⟨[.int .i64 (isum (fo true ps m)), .int .i64 (isum (fo false ps m))]⟩, H, H.size) := by
 refine call_quiet (k := 14) (rs := [.cell 4 37]) rfl fn_64 rfl rfl rfl ?_ rfl
 have hmp : part (tv m) 0 5 = some (.agg ⟨tv m⟩) := part_tv hm
 have hst := fun n => sl_tv (n := n) m
 have h118 := fun (N : Nat) (H : AHeap) => c118 (N := N) (H := H)
 have h79 := fun (N : Nat) (H : AHeap) => c79 (N := N) (H := H)
 have h78 := fun (N : Nat) (s : Bool) => c78 (N := N) (s := s) (g := g) (lo := lo) (mp := mp) (cap := cap) (hs.fr (H' := ((H.alloc (.rw [.slice a ps.length cap, g, lo, mp] 116 false [])).alloc (.rw (tv m) 120 false [])).alloc (.rw [.int .i64 0, .int .i64 0] 37 false [])) (by repeat first|exact Fr.refl _|assumption|refine Fr.allocd ?_ _|refine Fr.put ?_ (by first|omega|(simp only [yz]<;>omega)) _)) hl hk hm hb
 have h78' := fun (N : Nat) (s : Bool) (x y : Value) => c78 (N := N) (s := s) (g := g) (lo := lo) (mp := mp) (cap := cap) (hs.fr (H' := (((H.alloc (.rw [.slice a ps.length cap, g, lo, mp] 116 false [])).alloc (.rw (tv m) 120 false [])).alloc (.rw [.int .i64 0, .int .i64 0] 37 false [])).put (H.size + 1 + 1) (.rw [x, y] 37 false [])) (by repeat first|exact Fr.refl _|assumption|refine Fr.allocd ?_ _|refine Fr.put ?_ (by first|omega|(simp only [yz]<;>omega)) _)) hl hk hm hb
 simp (disch:=first|(simp only [yk,seval];done)|omega|(simp only [yz]<;>omega)|fail) only [↓yp,yA,ys0,ys1,seval,fitB,newC,endD,endR,yrg]
 refine W_draw [9] rfl (by kernel_rfl) (by kernel_rfl) (by first|omega|(simp only [yz]<;>omega)) ?_
 simp (disch:=first|(simp only [yk,seval];done)|omega|(simp only [yz]<;>omega)|fail) only [↓yp,yA,ys0,ys1,seval,fitB,newC,endD,endR,yrg,hmp,h118,h79,h78,h78',A_build st_bdS_37,hst,hg,ho,hp]
structure LtR (H : AHeap) (a a' al : Option Addr) (ps : List Pk) (gs : List Gd) (lots : Int) (l : List Int) : Prop where
 st : StR H a a' ps gs lots
 rl : Rw intE H al l
 lo : LotOk ps l
theorem LtR.fr (h : LtR H a a' al ps gs lots l) (f : Fr H H') : LtR H' a a' al ps gs lots l := ⟨h.st.fr f, h.rl.fr f, h.lo⟩
theorem LtR.l1 (h : LtR H a a' al ps gs lots l) : 1 ≤ l.length := by rw [h.lo.len]; exact h.st.st.l1
theorem LtR.l4 (h : LtR H a a' al ps gs lots l) : l.length ≤ 4 := by rw [h.lo.len]; exact h.st.st.l4
theorem LtR.mx4 (h : LtR H a a' al ps gs lots l) : (mx l).length = 4 := mx_len h.l4
theorem LtR.in_ (h : LtR H a a' al ps gs lots l) : ∀ n ∈ mx l, 0 ≤ n ∧ n ≤ 6 := mx_in (h.lo.in h.st.pk)
theorem LtR.c90 (h : LtR H a a' al ps gs lots l) {mk : Nat} : acall tabA (aexec tabA Tryz.prog (N + 400)) 64 [.agg ⟨[.slice a ps.length cap, .slice a' gs.length cap', .int .i64 lots, .map (some mk)]⟩, .agg ⟨tv (mx l)⟩] H = some (true, .agg ⟨[.int .i64 (isum (fo true ps l)), .int .i64 (isum (fo false ps l))]⟩, H, H.size) := by
 have := K.c90 (N := N) (cap := cap) (g := .slice a' gs.length cap') (lo := .int .i64 lots) (mp := .map (some mk)) h.st.hs h.st.st.l4 h.st.pk h.mx4 h.in_ sv_slice sv_int sv_map
 rw [fo_pad h.lo.len, fo_pad h.lo.len] at this
 exact this
theorem LtR.c78 (h : LtR H a a' al ps gs lots l) {mk : Nat} : acall tabA (aexec tabA Tryz.prog (N + 300)) 133 [.agg ⟨[.slice a ps.length cap, .slice a' gs.length cap', .int .i64 lots, .map (some mk)]⟩, .agg ⟨tv (mx l)⟩, .agg ⟨[.func (.func (endF false)) ⟨[]⟩ ⟨[]⟩]⟩] H = some (true, .int .i64 (isum (fo false ps l)), H, H.size) := by
 have := K.c78 (N := N) (s := false) (cap := cap) (g := .slice a' gs.length cap') (lo := .int .i64 lots) (mp := .map (some mk)) h.st.hs h.st.st.l4 h.st.pk h.mx4 h.in_
 rw [fo_pad h.lo.len] at this
 exact this
theorem LtR.c76 (h : LtR H a a' al ps gs lots l) {H' : AHeap} : acall tabA (aexec tabA Tryz.prog (N + 200)) 132 [.agg ⟨tv (mx l)⟩] H' = some (true, .int .i64 (isum l), H', H'.size) := by
 have := K.c76 (N := N) (H := H') (t := mx l) h.mx4 fun x hx => by have := h.in_ x hx; omega
 rw [mx_sum] at this
 exact this
theorem LtR.sum (h : LtR H a a' al ps gs lots l) : 0 ≤ isum l ∧ isum l ≤ 24 := by
 have := isum_le (l := l) (m := 6) (h.lo.in h.st.pk)
 have := h.l4
 omega
theorem fo_le6 {s : Bool} : ∀ {ps : List Pk} {l : List Int}, (∀ p ∈ ps, p.Ok) → LotOk ps l → ∀ x ∈ fo s ps l, 0 ≤ x ∧ x ≤ 12 := fun hk ho x hx => fo_mem hk (ho.in hk) hx
theorem LtR.fo (h : LtR H a a' al ps gs lots l) {s : Bool} : 0 ≤ isum (fo s ps l) ∧ isum (fo s ps l) ≤ 48 := by
 have := isum_le (l := Go.Am.fo s ps l) (m := 12) (fo_le6 h.st.pk h.lo)
 rw [fo_len (by rw [h.lo.len]; exact Nat.le_refl _)] at this
 have := h.st.st.l4
 omega
theorem c37 (h : LtR H a a' al ps gs lots l) :
  acall tabA (aexec tabA Tryz.prog (N + 500)) 14 [.agg ⟨[.slice a ps.length cap, .slice a' gs.length cap', .int .i64 lots]⟩, .slice al l.length cl] H = some (true, .tuple ⟨[.agg ⟨[.int .i64 (isum (fo true ps l)), .int .i64 (isum (fo false ps l))]⟩, .int .i64 0]⟩, H, H.size) := by
 refine call_quiet (k := 19) (rs := [.cell 4 37, .tmp 5]) rfl fn_14 rfl rfl rfl ?_ rfl
 have fr : Fr H ((H.alloc (.rw [.slice a ps.length cap, .slice a' gs.length cap', .int .i64 lots] 25 false [])).alloc (.rw [.int .i64 0, .int .i64 0] 37 false [])) := by (repeat (first | exact Fr.refl _ | assumption | refine Fr.allocd ?_ _ | refine Fr.put ?_ (by first | omega | (simp only [yz] <;> omega)) _))
 have h74 := fun (N : Nat) => c74 (N := N) (cap := cap) (cap' := cap') (cl := cl) (h.st.fr fr) (h.rl.fr fr) h.lo
 simp (disch:=first|(simp only [yk,seval];done)|omega|(simp only [yz]<;>omega)|fail) only [↓yp,yA,ys0,ys1,seval,fitB,newC,endD,endR,yrg,h74]
 refine c77 (by first|omega|(simp only [yz]<;>omega)) (by omega) ?_
 intro mk H1 fr1 k1 k2 k3
 have f1 := fr1.size
 have s1 := fr1.same
 simp only [size_alloc] at f1 s1 k1
 have hh := (h.fr fr).fr fr1
 have h75 := fun (N : Nat) => c75 (N := N) (cl := cl) hh.rl hh.l1 hh.l4
 have h90 := fun (N : Nat) => hh.c90 (N := N) (cap := cap) (cap' := cap') (mk := mk)
 simp (disch:=first|(simp only [yk,seval];done)|omega|(simp only [yz]<;>omega)|fail) only [↓yp,yA,ys0,ys1,seval,fitB,newC,endD,endR,yrg,h75,h90,s1]
end
end Go.Am.K
namespace Go.Am.K
open Go.Proofs
variable {T : Tab} {P : Program} {N L : Nat} {H H' H'' : AHeap} {Q : Bool → Value → AHeap → Prop}
section
variable {a a' al : Option Addr} {cap cap' cl mk : Nat} {ps : List Pk} {gs : List Gd} {lots : Int} {l m : List Int} {op fd : Int}
def lfLo (ps : List Pk) (l : List Int) (fd : Int) : Int := if fd > isum (fo true ps l) then fd else isum (fo true ps l)
def lfHi (ps : List Pk) (l : List Int) (op fd : Int) : Int := if isum l - (op - fd) < isum (fo false ps l) then isum l - (op - fd) else isum (fo false ps l)
theorem four (h : m.length = 4) : ∃ p q r s : Int, m = [p, q, r, s] := by
 match m, h with
 | [p, q, r, s], _ => exact ⟨p, q, r, s, rfl⟩
end
end Go.Am.K
namespace Go.Am.K
open Go.Proofs
variable {T : Tab} {P : Program} {N L : Nat} {H H' H'' : AHeap} {Q : Bool → Value → AHeap → Prop}
section
variable {a a' al : Option Addr} {cap cap' cl mk : Nat} {ps : List Pk} {gs : List Gd} {lots : Int} {l m : List Int} {op fd : Int}
end
end Go.Am.K
