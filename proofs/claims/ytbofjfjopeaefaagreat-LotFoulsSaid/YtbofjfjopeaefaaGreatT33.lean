import Derived.Test.YtbofjfjopeaefaaGreatT15
import Derived.Test.YtbofjfjopeaefaaGreatT32
set_option linter.unusedSimpArgs false
set_option linter.unusedVariables false
namespace Go.Am.K
open Go.Proofs
variable {T : Tab} {P : Program} {N L : Nat} {H : AHeap} {Q : Bool → Value → AHeap → Prop}
theorem c_end {s : Bool} {a b : Int} : acall tabA (aexec tabA Tryz.prog (N + 20)) (endF s) [.agg ⟨[.int .i64 a, .int .i64 b]⟩] H = some (true, .int .i64 (bif s then a else b), H, H.size) := by
 cases s
 ·exact c115
 ·exact c130
set_option maxHeartbeats 1000000 in
theorem c78 {s : Bool} {a : Option Addr} {cap : Nat} {ps : List Pk} {m : List Int} {g lo mp : Value} (hs : Rw pkE H a ps) (hl : ps.length ≤ 4) (hk : ∀ p ∈ ps, p.Ok) (hm : m.length = 4) (hb : ∀ n ∈ m, 0 ≤ n ∧ n ≤ 6) :
  acall tabA (aexec tabA Tryz.prog (N + 300)) 133 [.agg ⟨[.slice a ps.length cap, g, lo, mp]⟩, .agg ⟨tv m⟩, .agg ⟨[.func (.func (endF s)) ⟨[]⟩ ⟨[]⟩]⟩] H = some (true, .int .i64 (isum (fo s ps m)), H, H.size) := by
 refine call_quiet (k := 32) (rs := [.tmp 6]) rfl fn_133 rfl rfl rfl ?_ rfl
 have hfl := fo_len (s := s) (ps := ps) (m := m) (by omega)
 have hf0 : [.int .i64 0, .int .i64 0, .int .i64 0, .int .i64 0] = tv (pt (fo s ps m) 0) := rfl
 simp (disch:=first|(simp only [yk,seval];done)|omega|(simp only [yz]<;>omega)|fail) only [↓yp,yA,ys0,ys1,seval,fitB,newC,endD,endR,lenV_slice st_esS_22,hf0]
 refine W_while (n := 32) 160 (fun k e H' => ∃ i : Nat, k = ps.length - i ∧ i ≤ ps.length ∧ gt 32 e 14 = .int .i64 (i : Nat) ∧ gt 32 e 13 = .int .i64 ps.length ∧ gt 32 e 12 = .slice a ps.length cap ∧ gt 32 e 4 = .pointer (some ⟨H.size + 1, 0, none⟩) ∧ gt 32 e 5 = .pointer (some ⟨H.size + 1 + 1, 0, none⟩) ∧ gt 32 e 7 = .pointer (some ⟨H.size + 1 + 1 + 1, 0, none⟩) ∧ Fr H H' ∧ H.size + 1 + 1 + 1 < H'.size ∧
   H'.get (H.size + 1) = .rw (tv m) 120 false [] ∧ H'.get (H.size + 1 + 1) = .rw [.func (.func (endF s)) ⟨[]⟩ ⟨[]⟩] 126 false [] ∧ H'.get (H.size + 1 + 1 + 1) = .rw (tv (pt (fo s ps m) i)) 120 false [])
  ?_ 4 ps.length ⟨0, by omega, by omega, by simp (disch:=first|(simp only [yk,seval];done)|omega|(simp only [yz]<;>omega)|fail) only [yg,seval] <;> rfl, by simp (disch:=first|(simp only [yk,seval];done)|omega|(simp only [yz]<;>omega)|fail) only [yg,seval], by simp (disch:=first|(simp only [yk,seval];done)|omega|(simp only [yz]<;>omega)|fail) only [yg,seval], by simp (disch:=first|(simp only [yk,seval];done)|omega|(simp only [yz]<;>omega)|fail) only [yg,seval], by simp (disch:=first|(simp only [yk,seval];done)|omega|(simp only [yz]<;>omega)|fail) only [yg,seval], by simp (disch:=first|(simp only [yk,seval];done)|omega|(simp only [yz]<;>omega)|fail) only [yg,seval], by (repeat (first | exact Fr.refl _ | assumption | refine Fr.allocd ?_ _ | refine Fr.put ?_ (by first | omega | (simp only [yz] <;> omega)) _)), by (first | omega | (simp only [yz] <;> omega)), by simp (disch:=first|(simp only [yk,seval];done)|omega|(simp only [yz]<;>omega)|fail) only [yg,seval], by simp (disch:=first|(simp only [yk,seval];done)|omega|(simp only [yz]<;>omega)|fail) only [yg,seval], by simp (disch:=first|(simp only [yk,seval];done)|omega|(simp only [yz]<;>omega)|fail) only [yg,seval]⟩ (by omega) (by omega)
 rintro M k e H' ⟨i, rfl, hi, g14, g13, g12, g4, g5, g7, fr, hlt, b1, b2, b3⟩
 have f0 := fr.size
 have fs := fr.same
 simp (disch:=first|(simp only [yk,seval];done)|omega|(simp only [yz]<;>omega)|fail) only [↓yp,yA,ys0,ys1,seval,fitB,newC,endD,endR,g14,g13]
 refine ⟨fun hA => ?_, fun hA => ?_⟩
 ·have hi' : i < ps.length := by simpa using hA
  obtain ⟨p, hp⟩ : ∃ p, ps[i]? = some p := ⟨ps[i], by simp [hi']⟩
  obtain ⟨n, hn⟩ : ∃ n, m[i]? = some n := ⟨m[i]'(by omega), by simp [show i < m.length by omega]⟩
  obtain ⟨b, o, c, rfl, hb1, hc, hq⟩ := hs.at_ hp
  have q : part c (o + i * 4) 5 = some (.agg ⟨Pk.enc p⟩) := part_of hq rfl
  have hc' : cellsOf (H'.get b) = some c := by rw [fs b hb1]; exact hc
  have hpo := hk p (List.mem_of_getElem? hp)
  have hno := hb n (List.mem_of_getElem? hn)
  have h94 := fun (N : Nat) (H : AHeap) => c94 (N := N) (H := H) hpo hno
  have hce := fun (N : Nat) (H : AHeap) => c_end (N := N) (H := H) (s := s) (a := p.il n) (b := p.ih n)
  have hfg := fo_get (s := s) hp hn
  have hnx := pt_next hfg (by omega)
  have hpl : (tv (pt (fo s ps m) i)).length = 4 := by rw [tv_len, pt_len (by omega) (by omega)]
  have hfit : decide (i ≤ 3) = true := by simp; omega
  have hset : newC i [.int .i64 (bif s then p.il n else p.ih n)] (tv (pt (fo s ps m) i)) = tv (pt (fo s ps m) (i + 1)) := by
   rw [newC_tv (by rw [pt_len (by omega) (by omega)]; omega), ← hnx]; rfl
  have hmi := tv_at hn
  have hw2 : w64 ((i : Int) + 1) = ((i + 1 : Nat) : Int) := by rw [w64_of (by omega)]; omega
  simp only [Pk.enc] at q h94
  simp (disch:=first|(simp only [yk,seval];done)|omega|(simp only [yz]<;>omega)|fail) only [↓yp,yA,ys0,ys1,seval,fitB,newC,endD,endR,g14,g13,g12,A_indexSlice st_esS_22,hc',q]
  refine W_draw [10] rfl (by kernel_rfl) (by kernel_rfl) (by first|omega|(simp only [yz]<;>omega)) ?_
  simp (disch:=first|(simp only [yk,seval];done)|omega|(simp only [yz]<;>omega)|fail) only [↓yp,yA,ys0,ys1,seval,fitB,newC,endD,endR,g14,g13,g12,g4,g5,g7,b1,b2,b3,A_indexArr st_arS_120,hmi,h94,hce,hpl,hfit,hset,hw2]
  refine ⟨ps.length - (i + 1), by omega, i + 1, rfl, by omega, ?_, ?_, ?_, ?_, ?_, ?_, by (repeat (first | exact Fr.refl _ | assumption | refine Fr.allocd ?_ _ | refine Fr.put ?_ (by first | omega | (simp only [yz] <;> omega)) _)), by (first | omega | (simp only [yz] <;> omega)), ?_, ?_, ?_⟩
  ·simp (disch:=first|(simp only [yk,seval];done)|omega|(simp only [yz]<;>omega)|fail) only [yg,seval]
  ·simp (disch:=first|(simp only [yk,seval];done)|omega|(simp only [yz]<;>omega)|fail) only [yg,seval,g13]
  ·simp (disch:=first|(simp only [yk,seval];done)|omega|(simp only [yz]<;>omega)|fail) only [yg,seval,g12]
  ·simp (disch:=first|(simp only [yk,seval];done)|omega|(simp only [yz]<;>omega)|fail) only [yg,seval,g4]
  ·simp (disch:=first|(simp only [yk,seval];done)|omega|(simp only [yz]<;>omega)|fail) only [yg,seval,g5]
  ·simp (disch:=first|(simp only [yk,seval];done)|omega|(simp only [yz]<;>omega)|fail) only [yg,seval,g7]
  ·simp (disch:=first|(simp only [yk,seval];done)|omega|(simp only [yz]<;>omega)|fail) only [yg,seval,b1]
  ·simp (disch:=first|(simp only [yk,seval];done)|omega|(simp only [yz]<;>omega)|fail) only [yg,seval,b2]
  ·simp (disch:=first|(simp only [yk,seval];done)|omega|(simp only [yz]<;>omega)|fail) only [yg,seval]
   rw [← hset]; rfl
 ·have hi' : i = ps.length := by have := of_decide_eq_false hA; omega
  subst hi'
  rw [← hfl] at b3
  have h76 := fun (N : Nat) (H : AHeap) => c76 (N := N) (H := H) (t := pt (fo s ps m) (fo s ps m).length) (pt_len (by omega) (by omega)) (by
   intro x hx
   unfold pt at hx
   rw [List.take_length] at hx
   rcases List.mem_append.1 hx with hx | hx
   ·have := fo_mem hk hb hx; omega
   ·have := List.eq_of_mem_replicate hx; omega)
  rw [isum_pt] at h76
  have hpart : part (tv (pt (fo s ps m) (fo s ps m).length)) 0 5 = some (.agg ⟨tv (pt (fo s ps m) (fo s ps m).length)⟩) := part_tv (pt_len (by omega) (by omega))
  simp (disch:=first|(simp only [yk,seval];done)|omega|(simp only [yz]<;>omega)|fail) only [↓yp,yA,ys0,ys1,seval,fitB,newC,endD,endR,g7,b3,hpart,h76]
theorem c79 : acall tabA (aexec tabA Tryz.prog (N + 20)) 68 [] H = some (true, .agg ⟨[.func (.func (endF false)) ⟨[]⟩ ⟨[]⟩]⟩, H, H.size) := by
 refine call_quiet (k := 2) (rs := [.cell 0 126]) rfl fn_68 rfl rfl rfl ?_ rfl
 simp (disch:=first|(simp only [yk,seval];done)|omega|(simp only [yz]<;>omega)|fail) only [↓yp,yA,ys0,ys1,seval,fitB,newC,endD,endR,A_build st_bdS_126]
 rfl
theorem c118 : acall tabA (aexec tabA Tryz.prog (N + 20)) 137 [] H = some (true, .agg ⟨[.func (.func (endF true)) ⟨[]⟩ ⟨[]⟩]⟩, H, H.size) := by
 refine call_quiet (k := 2) (rs := [.cell 0 126]) rfl fn_137 rfl rfl rfl ?_ rfl
 simp (disch := (first | (simp only [ne_eq,Nat.reduceEqDiff,not_false_eq_true,Nat.reduceLT]; done) | omega | (simp only [yz] <;> omega) | fail)) only [↓yp,yA,ys0,ys1,Nat.reduceAdd,Nat.reduceMul,Nat.reduceSub,Nat.reduceBEq,Nat.reduceEqDiff,Nat.reduceLT,Nat.reduceLeDiff,reduceIte,Int.reduceAdd,Int.reduceSub,Int.reduceMul,Int.reduceLT,Int.reduceLE,Int.reduceEq,Int.reduceToNat,Int.reduceNeg,fitB,newC,endD,endR,A_build st_bdS_126]
 rfl
theorem c120 {a : Option Addr} {cap : Nat} {ps : List Pk} {m : List Int} {g lo mp : Value} (hs : Rw pkE H a ps) (hl : ps.length ≤ 4) (hk : ∀ p ∈ ps, p.Ok) (hm : m.length = 4) (hb : ∀ n ∈ m, 0 ≤ n ∧ n ≤ 6)
  (hg : sameV 5 g g = true) (ho : sameV 5 lo lo = true) (hp : sameV 5 mp mp = true) :
  acall tabA (aexec tabA Tryz.prog (N + 400)) 142 [.agg ⟨[.slice a ps.length cap, g, lo, mp]⟩, .agg ⟨tv m⟩] H = some (true, .agg ⟨[.int .i64 (isum m), .int .i64 (isum (fo false ps m))]⟩, H, H.size) := by
 refine call_quiet (k := 12) (rs := [.cell 4 202]) rfl fn_142 rfl rfl rfl ?_ rfl
 have hmp : part (tv m) 0 5 = some (.agg ⟨tv m⟩) := part_tv hm
 have hst := fun n => sl_tv (n := n) m
 have h76 := fun (N : Nat) (H : AHeap) => c76 (N := N) (H := H) (t := m) hm fun x hx => by have := hb x hx; omega
 have h79 := fun (N : Nat) (H : AHeap) => c79 (N := N) (H := H)
 have h78 := fun (N : Nat) => c78 (N := N) (s := false) (g := g) (lo := lo) (mp := mp) (cap := cap) (hs.fr (H' := ((H.alloc (.rw [.slice a ps.length cap, g, lo, mp] 116 false [])).alloc (.rw (tv m) 120 false [])).alloc (.rw [.int .i64 0, .int .i64 0] 202 false [])) (by repeat first|exact Fr.refl _|assumption|refine Fr.allocd ?_ _|refine Fr.put ?_ (by first|omega|(simp only [yz]<;>omega)) _)) hl hk hm hb
 have h78' := fun (N : Nat) (x y : Value) => c78 (N := N) (s := false) (g := g) (lo := lo) (mp := mp) (cap := cap) (hs.fr (H' := (((H.alloc (.rw [.slice a ps.length cap, g, lo, mp] 116 false [])).alloc (.rw (tv m) 120 false [])).alloc (.rw [.int .i64 0, .int .i64 0] 202 false [])).put (H.size + 1 + 1) (.rw [x, y] 202 false [])) (by repeat first|exact Fr.refl _|assumption|refine Fr.allocd ?_ _|refine Fr.put ?_ (by first|omega|(simp only [yz]<;>omega)) _)) hl hk hm hb
 simp (disch:=first|(simp only [yk,seval];done)|omega|(simp only [yz]<;>omega)|fail) only [↓yp,yA,ys0,ys1,seval,fitB,newC,endD,endR]
 refine W_draw [7] rfl (by kernel_rfl) (by kernel_rfl) (by first|omega|(simp only [yz]<;>omega)) ?_
 simp (disch:=first|(simp only [yk,seval];done)|omega|(simp only [yz]<;>omega)|fail) only [↓yp,yA,ys0,ys1,seval,fitB,newC,endD,endR,hmp,h76,h79,h78,h78',A_build st_bdS_202,hst,hg,ho,hp]
end Go.Am.K
namespace Go.Am.K
open Go.Proofs
variable {T : Tab} {P : Program} {N L : Nat} {H : AHeap} {Q : Bool → Value → AHeap → Prop}
theorem c121 {sz fl : Int} {g : Gd} (h1 : 0 ≤ sz ∧ sz ≤ 100) (h2 : 0 ≤ fl ∧ fl ≤ 100) (h3 : 0 ≤ g.fo ∧ g.fo ≤ 100) : acall tabA (aexec tabA Tryz.prog (N + 60)) 143 [.agg ⟨[.int .i64 sz, .int .i64 fl]⟩, .agg ⟨g.enc⟩] H = some (true, .bool (hasG sz fl g), H, H.size) := by
 refine call_quiet (k := 19) (rs := [.tmp 4]) rfl fn_143 rfl rfl rfl ?_ rfl
 have hm : 0 ≤ g.fo * sz ∧ g.fo * sz ≤ 10000 := ⟨Int.mul_nonneg h3.1 h1.1, by have := Int.mul_le_mul h3.2 h1.2 h1.1 (by omega : (0:Int) ≤ 100); omega⟩
 have w1 : w64 (100 * fl) = 100 * fl := w64_of (by omega)
 have w2 : w64 (g.fo * sz) = g.fo * sz := w64_of (by omega)
 unfold hasG
 cases hA : decide (0 < sz)
 ·simp (disch:=first|(simp only [yk,seval];done)|omega|(simp only [yz]<;>omega)|fail) only [↓yp,yA,ys0,ys1,seval,fitB,newC,endD,endR,Gd.enc,hA]
 ·simp (disch:=first|(simp only [yk,seval];done)|omega|(simp only [yz]<;>omega)|fail) only [↓yp,yA,ys0,ys1,seval,fitB,newC,endD,endR,Gd.enc,hA,w1,w2]
theorem c119 {a : Option Addr} {cap g : Nat} {gs : List Gd} {bd : List Value} {p : Gd → Bool} (hs : Rw gdE H a gs) (hl : gs.length ≤ 8) (hp : ∀ (N : Nat) (H' : AHeap) (x : Gd), x ∈ gs → acall tabA (aexec tabA Tryz.prog (N + 60)) g (bd ++ [.agg ⟨x.enc⟩]) H' = some (true, .bool (p x), H', H'.size)) :
  acall tabA (aexec tabA Tryz.prog (N + 170)) 141 [.slice a gs.length cap, .func (.func g) ⟨bd⟩ ⟨[]⟩] H = some (true, .int .i64 (fstI p gs 0), H, H.size) := by
 refine call_quiet (k := 19) (rs := [.tmp 4]) rfl fn_141 rfl rfl rfl ?_ rfl
 simp (disch:=first|(simp only [yk,seval];done)|omega|(simp only [yz]<;>omega)|fail) only [↓yp,yA,ys0,ys1,seval,fitB,newC,endD,endR,lenV_slice st_esS_23]
 refine W_while (n := 19) 70 (fun k e H' => ∃ i, k = gs.length - i ∧ i ≤ gs.length ∧ gt 19 e 8 = .int .i64 (i : Nat) ∧ gt 19 e 7 = .int .i64 gs.length ∧ gt 19 e 0 = .slice a gs.length cap ∧ gt 19 e 1 = .func (.func g) ⟨bd⟩ ⟨[]⟩ ∧ H' = H ∧ fstI p gs 0 = fstI p (gs.drop i) i)
  ?_ 8 gs.length ⟨0, by omega, by omega, by simp (disch:=first|(simp only [yk,seval];done)|omega|(simp only [yz]<;>omega)|fail) only [yg,seval] <;> rfl, by simp (disch:=first|(simp only [yk,seval];done)|omega|(simp only [yz]<;>omega)|fail) only [yg,seval], by simp (disch:=first|(simp only [yk,seval];done)|omega|(simp only [yz]<;>omega)|fail) only [yg,seval], by simp (disch:=first|(simp only [yk,seval];done)|omega|(simp only [yz]<;>omega)|fail) only [yg,seval], rfl, by simp⟩ (by omega) (by omega)
 rintro M k e H' ⟨i, rfl, hi, g8, g7, g0, g1, rfl, hj⟩
 simp (disch:=first|(simp only [yk,seval];done)|omega|(simp only [yz]<;>omega)|fail) only [↓yp,yA,ys0,ys1,seval,fitB,newC,endD,endR,g8,g7]
 refine ⟨fun hlt => ?_, fun hlt => ?_⟩
 ·have hi' : i < gs.length := by simpa using hlt
  obtain ⟨x, hx⟩ : ∃ x, gs[i]? = some x := ⟨gs[i], by simp [hi']⟩
  obtain ⟨b, o, c, rfl, hb, hc, hq⟩ := hs.at_ hx
  have q : part c (o + i * 2) 3 = some (.agg ⟨x.enc⟩) := part_of hq rfl
  have hpx := fun (N : Nat) => hp N H' x (List.mem_of_getElem? hx)
  rw [fstI_drop hx] at hj
  simp (disch:=first|(simp only [yk,seval];done)|omega|(simp only [yz]<;>omega)|fail) only [↓yp,yA,ys0,ys1,seval,fitB,newC,endD,endR,g8,g7,g0,g1,A_indexSlice st_esS_23,hc,q,hpx]
  refine ⟨fun hA => ?_, fun hA => ?_⟩
  ·rw [hA] at hj
   have hj' : fstI p gs 0 = (i : Int) := hj
   simp (disch:=first|(simp only [yk,seval];done)|omega|(simp only [yz]<;>omega)|fail) only [↓yp,yA,ys0,ys1,seval,fitB,newC,endD,endR,hA,hj']
  ·rw [hA] at hj
   have hj' : fstI p gs 0 = fstI p (gs.drop (i + 1)) (i + 1) := hj
   have hw2 : w64 ((i : Int) + 1) = ((i + 1 : Nat) : Int) := by rw [w64_of (by omega)]; omega
   simp (disch:=first|(simp only [yk,seval];done)|omega|(simp only [yz]<;>omega)|fail) only [↓yp,yA,ys0,ys1,seval,fitB,newC,endD,endR,hA,g8,g7,g0,g1,hw2]
   refine ⟨gs.length - (i + 1), by omega, i + 1, rfl, by omega, ?_, ?_, ?_, ?_, rfl, hj'⟩
   ·simp (disch:=first|(simp only [yk,seval];done)|omega|(simp only [yz]<;>omega)|fail) only [yg,seval]
   ·simp (disch:=first|(simp only [yk,seval];done)|omega|(simp only [yz]<;>omega)|fail) only [yg,seval,g7]
   ·simp (disch:=first|(simp only [yk,seval];done)|omega|(simp only [yz]<;>omega)|fail) only [yg,seval,g0]
   ·simp (disch:=first|(simp only [yk,seval];done)|omega|(simp only [yz]<;>omega)|fail) only [yg,seval,g1]
 ·have hi' : i = gs.length := by
   have : ¬ ((i : Int) < gs.length) := by simpa using hlt
   omega
  subst hi'
  rw [List.drop_length] at hj
  simp (disch:=first|(simp only [yk,seval];done)|omega|(simp only [yz]<;>omega)|fail) only [↓yp,yA,ys0,ys1,seval,fitB,newC,endD,endR,hj,fstI]
set_option maxHeartbeats 1000000 in
theorem c92 {a a' : Option Addr} {cap cap' : Nat} {ps : List Pk} {gs : List Gd} {m : List Int} {lo mp : Value} (hs : Rw pkE H a ps) (hl : ps.length ≤ 4) (hk : ∀ p ∈ ps, p.Ok) (hgs : Rw gdE H a' gs) (hgl : gs.length ≤ 4) (hgk : ∀ g ∈ gs, g.Ok) (hm : m.length = 4) (hb : ∀ n ∈ m, 0 ≤ n ∧ n ≤ 6)
  (ho : sameV 5 lo lo = true) (hp : sameV 5 mp mp = true) :
  acall tabA (aexec tabA Tryz.prog (N + 600)) 75 [.agg ⟨[.slice a ps.length cap, .slice a' gs.length cap', lo, mp]⟩, .agg ⟨tv m⟩] H = some (true, .agg ⟨(grd ps gs m).enc⟩, H, H.size) := by
 refine call_quiet (k := 23) (rs := [.cell 4 78]) rfl fn_75 rfl rfl rfl ?_ rfl
 have hmp : part (tv m) 0 5 = some (.agg ⟨tv m⟩) := part_tv hm
 have hst := fun n => sl_tv (n := n) m
 simp (disch:=first|(simp only [yk,seval];done)|omega|(simp only [yz]<;>omega)|fail) only [↓yp,yA,ys0,ys1,seval,fitB,newC,endD,endR]
 have fr : Fr H (((H.alloc (.rw [.slice a ps.length cap, .slice a' gs.length cap', lo, mp] 116 false [])).alloc (.rw (tv m) 120 false [])).alloc (.rw [.int .i64 0, .int .i64 0] 78 false [])) := by (repeat (first | exact Fr.refl _ | assumption | refine Fr.allocd ?_ _ | refine Fr.put ?_ (by first | omega | (simp only [yz] <;> omega)) _))
 have h120 := fun (N : Nat) => c120 (N := N) (g := .slice a' gs.length cap') (lo := lo) (mp := mp) (cap := cap) (hs.fr fr) hl hk hm hb sv_slice ho hp
 have h119 := fun (N : Nat) => c119 (N := N) (cap := cap') (p := hasG (isum m) (isum (fo false ps m))) (g := 143) (bd := [.agg ⟨[.int .i64 (isum m), .int .i64 (isum (fo false ps m))]⟩]) (hgs.fr fr) (by omega) fun N H' x hx => c121 (by have := m_sum hm hb; omega) (by have := fo_sum (s := false) hl hk hm hb; omega) (hgk x hx).f
 refine W_draw [] rfl (by kernel_rfl) (by kernel_rfl) (by first|omega|(simp only [yz]<;>omega)) ?_
 simp (disch:=first|(simp only [yk,seval];done)|omega|(simp only [yz]<;>omega)|fail) only [↓yp,yA,ys0,ys1,seval,fitB,newC,endD,endR,hmp,h120,h119,hst,ho,hp,tm_mf]
 have h77 : part [Value.int .i64 0, Value.int .i64 0] 0 3 = some (.agg ⟨[.int .i64 0, .int .i64 0]⟩) := rfl
 rcases fstI_find (p := hasG (isum m) (isum (fo false ps m))) (gs := gs) (k := 0) with ⟨h1, h2⟩ | ⟨i, x, h1, h2, h3⟩
 ·have e : grd ps gs m = ⟨0, 0⟩ := by unfold grd; rw [h2]
  rw [h1, e]
  simp (disch:=first|(simp only [yk,seval];done)|omega|(simp only [yz]<;>omega)|fail) only [↓yp,yA,ys0,ys1,seval,fitB,newC,endD,endR,A_build st_bdS_78,Gd.enc]
 ·have e : grd ps gs m = x := by unfold grd; rw [h3]
  rw [h1, e, Nat.zero_add]
  have hi := (List.getElem?_eq_some_iff.1 h2).1
  obtain ⟨b, o, c, rfl, hb', hc, hq⟩ := hgs.at_ h2
  have q : part c (o + i * 2) 3 = some (.agg ⟨x.enc⟩) := part_of hq rfl
  have hge : decide (0 ≤ (i : Int)) = true := by simp
  simp only [Gd.enc] at q ⊢
  simp (disch:=first|(simp only [yk,seval];done)|omega|(simp only [yz]<;>omega)|fail) only [↓yp,yA,ys0,ys1,seval,fitB,newC,endD,endR,hge,A_indexSlice st_esS_23,hc,q]
end Go.Am.K
namespace Go.Am.K
open Go.Proofs
variable {T : Tab} {P : Program} {N L : Nat} {H : AHeap} {Q : Bool → Value → AHeap → Prop}
theorem c58 {n lo hi : Int} : acall tabA (aexec tabA Tryz.prog (N + 20)) 113 [.int .i64 n, .int .i64 lo, .int .i64 hi] H = some (true, .bool (wi n lo hi), H, H.size) := by
 refine call_quiet (k := 15) (rs := [.tmp 6]) rfl fn_113 rfl rfl rfl ?_ rfl
 unfold wi
 cases hA : decide (lo ≤ n)
 ·simp (disch:=first|(simp only [yk,seval];done)|omega|(simp only [yz]<;>omega)|fail) only [↓yp,yA,ys0,ys1,seval,fitB,newC,endD,endR,hA]
 ·simp (disch:=first|(simp only [yk,seval];done)|omega|(simp only [yz]<;>omega)|fail) only [↓yp,yA,ys0,ys1,seval,fitB,newC,endD,endR,hA]
theorem c60 {p : Pk} : acall tabA (aexec tabA Tryz.prog (N + 60)) 115 [.agg ⟨p.enc⟩] H = some (true, .bool p.isB, H, H.size) := by
 refine call_quiet (k := 27) (rs := [.tmp 2]) rfl fn_115 rfl rfl rfl ?_ rfl
 unfold Pk.isB
 have h58 := fun (N : Nat) (H : AHeap) (n lo hi : Int) => c58 (N := N) (H := H) (n := n) (lo := lo) (hi := hi)
 cases hA : wi p.s 0 6
 ·simp (disch:=first|(simp only [yk,seval];done)|omega|(simp only [yz]<;>omega)|fail) only [↓yp,yA,ys0,ys1,seval,fitB,newC,endD,endR,Pk.enc,h58,hA]
 ·cases hB : wi p.w 0 p.s
  ·simp (disch:=first|(simp only [yk,seval];done)|omega|(simp only [yz]<;>omega)|fail) only [↓yp,yA,ys0,ys1,seval,fitB,newC,endD,endR,Pk.enc,h58,hA,hB]
  ·cases hC : wi p.o 0 p.s
   ·simp (disch:=first|(simp only [yk,seval];done)|omega|(simp only [yz]<;>omega)|fail) only [↓yp,yA,ys0,ys1,seval,fitB,newC,endD,endR,Pk.enc,h58,hA,hB,hC]
   ·simp (disch:=first|(simp only [yk,seval];done)|omega|(simp only [yz]<;>omega)|fail) only [↓yp,yA,ys0,ys1,seval,fitB,newC,endD,endR,Pk.enc,h58,hA,hB,hC]
theorem c62 {g : Gd} : acall tabA (aexec tabA Tryz.prog (N + 60)) 117 [.agg ⟨g.enc⟩] H = some (true, .bool g.isB, H, H.size) := by
 refine call_quiet (k := 11) (rs := [.tmp 2]) rfl fn_117 rfl rfl rfl ?_ rfl
 unfold Gd.isB
 have h58 := fun (N : Nat) (H : AHeap) (n lo hi : Int) => c58 (N := N) (H := H) (n := n) (lo := lo) (hi := hi)
 cases hA : wi g.fo 0 100
 ·simp (disch:=first|(simp only [yk,seval];done)|omega|(simp only [yz]<;>omega)|fail) only [↓yp,yA,ys0,ys1,seval,fitB,newC,endD,endR,Gd.enc,h58,hA]
 ·simp (disch:=first|(simp only [yk,seval];done)|omega|(simp only [yz]<;>omega)|fail) only [↓yp,yA,ys0,ys1,seval,fitB,newC,endD,endR,Gd.enc,h58,hA]
theorem c65 {a b : Int} : acall tabA (aexec tabA Tryz.prog (N + 20)) 120 [.agg ⟨[.int .i64 a, .int .i64 b]⟩] H = some (true, .bool (decide (b < a)), H, H.size) := by
 refine call_quiet (k := 8) (rs := [.tmp 2]) rfl fn_120 rfl rfl rfl ?_ rfl
 simp (disch:=first|(simp only [yk,seval];done)|omega|(simp only [yz]<;>omega)|fail) only [↓yp,yA,ys0,ys1,seval,fitB,newC,endD,endR]
theorem c59 {a : Option Addr} {cap g : Nat} {ps : List Pk} {p : Pk → Bool} (hs : Rw pkE H a ps) (hl : ps.length ≤ 8) (hp : ∀ (N : Nat) (H' : AHeap) (x : Pk), x ∈ ps → acall tabA (aexec tabA Tryz.prog (N + 60)) g [.agg ⟨x.enc⟩] H' = some (true, .bool (p x), H', H'.size)) :
  acall tabA (aexec tabA Tryz.prog (N + 170)) 114 [.slice a ps.length cap, .func (.func g) ⟨[]⟩ ⟨[]⟩] H = some (true, .bool (ps.all p), H, H.size) := by
 refine call_quiet (k := 18) (rs := [.tmp 4]) rfl fn_114 rfl rfl rfl ?_ rfl
 simp (disch:=first|(simp only [yk,seval];done)|omega|(simp only [yz]<;>omega)|fail) only [↓yp,yA,ys0,ys1,seval,fitB,newC,endD,endR,lenV_slice st_esS_22]
 refine W_while (n := 18) 70 (fun k e H' => ∃ i, k = ps.length - i ∧ i ≤ ps.length ∧ gt 18 e 9 = .int .i64 (i : Nat) ∧ gt 18 e 8 = .int .i64 ps.length ∧ gt 18 e 7 = .slice a ps.length cap ∧ gt 18 e 1 = .func (.func g) ⟨[]⟩ ⟨[]⟩ ∧ Fr H H' ∧ ∀ j s, j < i → ps[j]? = some s → p s = true)
  ?_ 8 ps.length ⟨0, by omega, by omega, by simp (disch:=first|(simp only [yk,seval];done)|omega|(simp only [yz]<;>omega)|fail) only [yg,seval] <;> rfl, by simp (disch:=first|(simp only [yk,seval];done)|omega|(simp only [yz]<;>omega)|fail) only [yg,seval], by simp (disch:=first|(simp only [yk,seval];done)|omega|(simp only [yz]<;>omega)|fail) only [yg,seval], by simp (disch:=first|(simp only [yk,seval];done)|omega|(simp only [yz]<;>omega)|fail) only [yg,seval], Fr.refl _, fun j s hj => by omega⟩ (by omega) (by omega)
 rintro M k e H' ⟨i, rfl, hi, g9, g8, g7, g1, fr, hj⟩
 have f0 := fr.size
 have fs := fr.same
 simp (disch:=first|(simp only [yk,seval];done)|omega|(simp only [yz]<;>omega)|fail) only [↓yp,yA,ys0,ys1,seval,fitB,newC,endD,endR,g9,g8,g7,g1]
 refine ⟨fun hlt => ?_, fun hlt => ?_⟩
 ·have hi' : i < ps.length := by simpa using hlt
  obtain ⟨x, hx⟩ : ∃ x, ps[i]? = some x := ⟨ps[i], by simp [hi']⟩
  obtain ⟨b, o, c, rfl, hb, hc, hq⟩ := hs.at_ hx
  have q : part c (o + i * 4) 5 = some (.agg ⟨x.enc⟩) := part_of hq rfl
  have hc' : cellsOf (H'.get b) = some c := by rw [fs b hb]; exact hc
  have hps := fun (N : Nat) (H' : AHeap) => hp N H' x (List.mem_of_getElem? hx)
  simp only [Pk.enc] at q hps
  simp (disch:=first|(simp only [yk,seval];done)|omega|(simp only [yz]<;>omega)|fail) only [↓yp,yA,ys0,ys1,seval,fitB,newC,endD,endR,g9,g8,g7,g1,A_indexSlice st_esS_22,hc',q,hps]
  refine ⟨fun hA => ?_, fun hA => ?_⟩
  rotate_left
  ·have : ps.all p = false := by rw [List.all_eq_false]; exact ⟨x, List.mem_of_getElem? hx, by rw [hA]; simp⟩
   simp (disch:=first|(simp only [yk,seval];done)|omega|(simp only [yz]<;>omega)|fail) only [↓yp,yA,ys0,ys1,seval,fitB,newC,endD,endR,hA,this]
  have hw2 : w64 ((i : Int) + 1) = ((i + 1 : Nat) : Int) := by rw [w64_of (by omega)]; omega
  simp (disch:=first|(simp only [yk,seval];done)|omega|(simp only [yz]<;>omega)|fail) only [↓yp,yA,ys0,ys1,seval,fitB,newC,endD,endR,hA,g9,g8,g7,g1,hw2]
  refine ⟨ps.length - (i + 1), by omega, i + 1, rfl, by omega, ?_, ?_, ?_, ?_, by (repeat (first | exact Fr.refl _ | assumption | refine Fr.allocd ?_ _ | refine Fr.put ?_ (by first | omega | (simp only [yz] <;> omega)) _)), ?_⟩
  ·simp (disch:=first|(simp only [yk,seval];done)|omega|(simp only [yz]<;>omega)|fail) only [yg,seval]
  ·simp (disch:=first|(simp only [yk,seval];done)|omega|(simp only [yz]<;>omega)|fail) only [yg,seval,g8]
  ·simp (disch:=first|(simp only [yk,seval];done)|omega|(simp only [yz]<;>omega)|fail) only [yg,seval,g7]
  ·simp (disch:=first|(simp only [yk,seval];done)|omega|(simp only [yz]<;>omega)|fail) only [yg,seval,g1]
  ·intro j t hj' ht
   by_cases e : j = i
   ·subst e; rw [hx] at ht; cases ht; exact hA
   ·exact hj j t (by omega) ht
 ·have hi' : ¬ i < ps.length := by simpa using hlt
  have : ps.all p = true := by
   rw [List.all_eq_true]
   intro s hs'
   obtain ⟨j, hj'⟩ := List.getElem?_of_mem hs'
   have := (List.getElem?_eq_some_iff.1 hj').1
   exact hj j s (by omega) hj'
  simp (disch:=first|(simp only [yk,seval];done)|omega|(simp only [yz]<;>omega)|fail) only [↓yp,yA,ys0,ys1,seval,fitB,newC,endD,endR,this]
theorem c61 {a : Option Addr} {cap g : Nat} {gs : List Gd} {p : Gd → Bool} (hs : Rw gdE H a gs) (hl : gs.length ≤ 8) (hp : ∀ (N : Nat) (H' : AHeap) (x : Gd), x ∈ gs → acall tabA (aexec tabA Tryz.prog (N + 60)) g [.agg ⟨x.enc⟩] H' = some (true, .bool (p x), H', H'.size)) :
  acall tabA (aexec tabA Tryz.prog (N + 170)) 116 [.slice a gs.length cap, .func (.func g) ⟨[]⟩ ⟨[]⟩] H = some (true, .bool (gs.all p), H, H.size) := by
 refine call_quiet (k := 18) (rs := [.tmp 4]) rfl fn_116 rfl rfl rfl ?_ rfl
 simp (disch:=first|(simp only [yk,seval];done)|omega|(simp only [yz]<;>omega)|fail) only [↓yp,yA,ys0,ys1,seval,fitB,newC,endD,endR,lenV_slice st_esS_23]
 refine W_while (n := 18) 70 (fun k e H' => ∃ i, k = gs.length - i ∧ i ≤ gs.length ∧ gt 18 e 9 = .int .i64 (i : Nat) ∧ gt 18 e 8 = .int .i64 gs.length ∧ gt 18 e 7 = .slice a gs.length cap ∧ gt 18 e 1 = .func (.func g) ⟨[]⟩ ⟨[]⟩ ∧ Fr H H' ∧ ∀ j s, j < i → gs[j]? = some s → p s = true)
  ?_ 8 gs.length ⟨0, by omega, by omega, by simp (disch:=first|(simp only [yk,seval];done)|omega|(simp only [yz]<;>omega)|fail) only [yg,seval] <;> rfl, by simp (disch:=first|(simp only [yk,seval];done)|omega|(simp only [yz]<;>omega)|fail) only [yg,seval], by simp (disch:=first|(simp only [yk,seval];done)|omega|(simp only [yz]<;>omega)|fail) only [yg,seval], by simp (disch:=first|(simp only [yk,seval];done)|omega|(simp only [yz]<;>omega)|fail) only [yg,seval], Fr.refl _, fun j s hj => by omega⟩ (by omega) (by omega)
 rintro M k e H' ⟨i, rfl, hi, g9, g8, g7, g1, fr, hj⟩
 have f0 := fr.size
 have fs := fr.same
 simp (disch:=first|(simp only [yk,seval];done)|omega|(simp only [yz]<;>omega)|fail) only [↓yp,yA,ys0,ys1,seval,fitB,newC,endD,endR,g9,g8,g7,g1]
 refine ⟨fun hlt => ?_, fun hlt => ?_⟩
 ·have hi' : i < gs.length := by simpa using hlt
  obtain ⟨x, hx⟩ : ∃ x, gs[i]? = some x := ⟨gs[i], by simp [hi']⟩
  obtain ⟨b, o, c, rfl, hb, hc, hq⟩ := hs.at_ hx
  have q : part c (o + i * 2) 3 = some (.agg ⟨x.enc⟩) := part_of hq rfl
  have hc' : cellsOf (H'.get b) = some c := by rw [fs b hb]; exact hc
  have hps := fun (N : Nat) (H' : AHeap) => hp N H' x (List.mem_of_getElem? hx)
  simp only [Gd.enc] at q hps
  simp (disch:=first|(simp only [yk,seval];done)|omega|(simp only [yz]<;>omega)|fail) only [↓yp,yA,ys0,ys1,seval,fitB,newC,endD,endR,g9,g8,g7,g1,A_indexSlice st_esS_23,hc',q,hps]
  refine ⟨fun hA => ?_, fun hA => ?_⟩
  rotate_left
  ·have : gs.all p = false := by rw [List.all_eq_false]; exact ⟨x, List.mem_of_getElem? hx, by rw [hA]; simp⟩
   simp (disch:=first|(simp only [yk,seval];done)|omega|(simp only [yz]<;>omega)|fail) only [↓yp,yA,ys0,ys1,seval,fitB,newC,endD,endR,hA,this]
  have hw2 : w64 ((i : Int) + 1) = ((i + 1 : Nat) : Int) := by rw [w64_of (by omega)]; omega
  simp (disch:=first|(simp only [yk,seval];done)|omega|(simp only [yz]<;>omega)|fail) only [↓yp,yA,ys0,ys1,seval,fitB,newC,endD,endR,hA,g9,g8,g7,g1,hw2]
  refine ⟨gs.length - (i + 1), by omega, i + 1, rfl, by omega, ?_, ?_, ?_, ?_, by (repeat (first | exact Fr.refl _ | assumption | refine Fr.allocd ?_ _ | refine Fr.put ?_ (by first | omega | (simp only [yz] <;> omega)) _)), ?_⟩
  ·simp (disch:=first|(simp only [yk,seval];done)|omega|(simp only [yz]<;>omega)|fail) only [yg,seval]
  ·simp (disch:=first|(simp only [yk,seval];done)|omega|(simp only [yz]<;>omega)|fail) only [yg,seval,g8]
  ·simp (disch:=first|(simp only [yk,seval];done)|omega|(simp only [yz]<;>omega)|fail) only [yg,seval,g7]
  ·simp (disch:=first|(simp only [yk,seval];done)|omega|(simp only [yz]<;>omega)|fail) only [yg,seval,g1]
  ·intro j t hj' ht
   by_cases e : j = i
   ·subst e; rw [hx] at ht; cases ht; exact hA
   ·exact hj j t (by omega) ht
 ·have hi' : ¬ i < gs.length := by simpa using hlt
  have : gs.all p = true := by
   rw [List.all_eq_true]
   intro s hs'
   obtain ⟨j, hj'⟩ := List.getElem?_of_mem hs'
   have := (List.getElem?_eq_some_iff.1 hj').1
   exact hj j s (by omega) hj'
  simp (disch:=first|(simp only [yk,seval];done)|omega|(simp only [yz]<;>omega)|fail) only [↓yp,yA,ys0,ys1,seval,fitB,newC,endD,endR,this]
theorem c64 {p : Pk} (h : p.isB = true) : acall tabA (aexec tabA Tryz.prog (N + 60)) 119 [.agg ⟨p.enc⟩] H = some (true, .bool (!decide (p.hi < p.f)), H, H.size) := by
 refine call_quiet (k := 7) (rs := [.tmp 2]) rfl fn_119 rfl rfl rfl ?_ rfl
 have ho : p.Ok := by
  unfold Pk.isB wi at h
  simp only [Bool.and_eq_true,decide_eq_true_eq] at h
  exact ⟨h.1, h.2.1, h.2.2.1, h.2.2.2⟩
 have h66 := fun (N : Nat) (H : AHeap) => c66 (N := N) (H := H) ho
 have h65 := fun (N : Nat) (H : AHeap) => c65 (N := N) (H := H) (a := p.f) (b := p.hi)
 simp only [Pk.enc] at h66
 simp (disch:=first|(simp only [yk,seval];done)|omega|(simp only [yz]<;>omega)|fail) only [↓yp,yA,ys0,ys1,seval,fitB,newC,endD,endR,Pk.enc,h66,h65]
set_option maxHeartbeats 1000000 in
theorem c63 {a : Option Addr} {cap : Nat} {gs : List Gd} (hs : Rw gdE H a gs) (hl : gs.length ≤ 8) : acall tabA (aexec tabA Tryz.prog (N + 170)) 118 [.slice a gs.length cap] H = some (true, .bool (ordB gs), H, H.size) := by
 refine call_quiet (k := 36) (rs := [.tmp 2]) rfl fn_118 rfl rfl rfl ?_ rfl
 simp (disch:=first|(simp only [yk,seval];done)|omega|(simp only [yz]<;>omega)|fail) only [↓yp,yA,ys0,ys1,seval,fitB,newC,endD,endR,lenV_slice st_esS_23]
 refine W_while (n := 36) 70 (fun k e H' => ∃ i : Nat, k = gs.length + 1 - i ∧ 1 ≤ i ∧ i ≤ gs.length + 1 ∧ gt 36 e 3 = .int .i64 (i : Nat) ∧ gt 36 e 0 = .slice a gs.length cap ∧ H' = H ∧ ∀ j x y, j + 1 < i → gs[j]? = some x → gs[j + 1]? = some y → x.fo < y.fo ∧ y.pr < x.pr)
  ?_ 9 gs.length ⟨1, by omega, by omega, by omega, by simp (disch:=first|(simp only [yk,seval];done)|omega|(simp only [yz]<;>omega)|fail) only [yg,seval] <;> rfl, by simp (disch:=first|(simp only [yk,seval];done)|omega|(simp only [yz]<;>omega)|fail) only [yg,seval], rfl, fun j x y hj => by omega⟩ (by omega) (by omega)
 rintro M k e H' ⟨i, rfl, h1i, hi, g3, g0, rfl, hj⟩
 simp (disch:=first|(simp only [yk,seval];done)|omega|(simp only [yz]<;>omega)|fail) only [↓yp,yA,ys0,ys1,seval,fitB,newC,endD,endR,g3,g0,lenV_slice st_esS_23]
 refine ⟨fun hA => ?_, fun hA => ?_⟩
 ·have hi' : i < gs.length := by simpa using hA
  obtain ⟨j, rfl⟩ : ∃ j, i = j + 1 := ⟨i - 1, by omega⟩
  obtain ⟨x, hx⟩ : ∃ x, gs[j]? = some x := ⟨gs[j], by simp [show j < gs.length by omega]⟩
  obtain ⟨y, hy⟩ : ∃ y, gs[j + 1]? = some y := ⟨gs[j + 1], by simp [hi']⟩
  obtain ⟨b, o, c, rfl, hb, hc, hq⟩ := hs.get (fun h => by rw [h] at hx; simp at hx)
  obtain ⟨b1, o1, c1, e1, -, hc1, hq1⟩ := hs.at_ hx
  cases e1
  obtain ⟨b2, o2, c2, e2, -, hc2, hq2⟩ := hs.at_ hy
  cases e2
  rw [hc] at hc1 hc2
  cases hc1
  cases hc2
  obtain ⟨x0, x1⟩ := two_cells (u := .int .i64 x.fo) (v := .int .i64 x.pr) hq1
  obtain ⟨y0, y1⟩ := two_cells (u := .int .i64 y.fo) (v := .int .i64 y.pr) hq2
  rw [show gdE.z = 2 from rfl] at x0 x1 y0 y1
  have w1 : w64 (((j + 1 : Nat) : Int) - 1) = (j : Int) := by rw [w64_of (by omega)]; omega
  have w2 : w64 (((j + 1 : Nat) : Int) + 1) = ((j + 1 + 1 : Nat) : Int) := by rw [w64_of (by omega)]; omega
  have no : ¬ (x.fo < y.fo ∧ y.pr < x.pr) → ordB gs = false := fun h => by
   cases ho : ordB gs with
   | false => rfl
   | true => exact absurd (ordB_at.1 ho j x y hx hy) h
  simp (disch:=first|(simp only [yk,seval];done)|omega|(simp only [yz]<;>omega)|fail) only [↓yp,yA,ys0,ys1,seval,fitB,newC,endD,endR,g3,g0]
  refine W_draw [] rfl (by kernel_rfl) (by kernel_rfl) (by first|omega|(simp only [yz]<;>omega)) ?_
  cases hB : decide (y.fo ≤ x.fo)
  ·cases hC : decide (x.pr ≤ y.pr)
   ·have h1 := of_decide_eq_false hB
    have h2 := of_decide_eq_false hC
    simp (disch:=first|(simp only [yk,seval];done)|omega|(simp only [yz]<;>omega)|fail) only [↓yp,yA,ys0,ys1,seval,fitB,newC,endD,endR,g3,g0,A_indexSlice st_esS_23,hc,x0,x1,y0,y1,w1,w2,hB,hC]
    refine ⟨gs.length + 1 - (j + 1 + 1), by omega, j + 1 + 1, rfl, by omega, by omega, ?_, ?_, rfl, ?_⟩
    ·simp (disch:=first|(simp only [yk,seval];done)|omega|(simp only [yz]<;>omega)|fail) only [yg,seval]
    ·simp (disch:=first|(simp only [yk,seval];done)|omega|(simp only [yz]<;>omega)|fail) only [yg,seval,g0]
    ·intro j' x' y' hj' hx' hy'
     by_cases e : j' = j
     ·subst e; rw [hx] at hx'; rw [hy] at hy'; cases hx'; cases hy'; exact ⟨by omega, by omega⟩
     ·exact hj j' x' y' (by omega) hx' hy'
   ·have h2 := of_decide_eq_true hC
    have hn := no (by omega)
    simp (disch:=first|(simp only [yk,seval];done)|omega|(simp only [yz]<;>omega)|fail) only [↓yp,yA,ys0,ys1,seval,fitB,newC,endD,endR,g3,g0,A_indexSlice st_esS_23,hc,x0,x1,y0,y1,w1,w2,hB,hC,hn]
  ·have h2 := of_decide_eq_true hB
   have hn := no (by omega)
   simp (disch:=first|(simp only [yk,seval];done)|omega|(simp only [yz]<;>omega)|fail) only [↓yp,yA,ys0,ys1,seval,fitB,newC,endD,endR,g3,g0,A_indexSlice st_esS_23,hc,x0,x1,y0,y1,w1,w2,hB,hn]
 ·have hi' : ¬ i < gs.length := by simpa using hA
  have : ordB gs = true := ordB_at.2 fun j x y hx hy => hj j x y (by have := (List.getElem?_eq_some_iff.1 hy).1; omega) hx hy
  simp (disch:=first|(simp only [yk,seval];done)|omega|(simp only [yz]<;>omega)|fail) only [↓yp,yA,ys0,ys1,seval,fitB,newC,endD,endR,this]
end Go.Am.K
