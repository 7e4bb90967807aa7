import Derived.Test.YtjpcaamfcfkmhaaT45
set_option linter.unusedSimpArgs false
set_option linter.unusedVariables false
namespace Go.Am.K
open Go.Proofs
variable {T : Tab} {P : Program} {N L : Nat} {H H' H'' : AHeap} {Q : Bool → Value → AHeap → Prop}
section
variable {a a' al : Option Addr} {cap cap' cl : Nat} {ps : List Pk} {gs : List Gd} {lots : Int} {l m : List Int}
set_option maxHeartbeats 1000000 in
theorem c90 {g lo mp : Value} (hs : Rw pkE H a ps) (hl : ps.length ≤ 4) (hk : ∀ p ∈ ps, p.Ok) (hm : m.length = 4) (hb : ∀ n ∈ m, 0 ≤ n ∧ n ≤ 6) (hg : sameV 5 g g = true) (ho : sameV 5 lo lo = true) (hp : sameV 5 mp mp = true) :
  acall tabA (aexec tabA Try.prog (N + 400)) 90 [.agg ⟨[.slice a ps.length cap, g, lo, mp]⟩, .agg ⟨tv m⟩] H = some (true, .agg ⟨[.int .i64 (isum (fo true ps m)), .int .i64 (isum (fo false ps m))]⟩, H, H.size) := by
 refine call_quiet (k := 14) (rs := [.cell 4 38]) rfl fn_90 rfl rfl rfl ?_ rfl
 have hmp : part (tv m) 0 5 = some (.agg ⟨tv m⟩) := part_tv hm
 have hst := fun n => sl_tv (n := n) m
 have h118 := fun (N : Nat) (H : AHeap) => c118 (N := N) (H := H)
 have h79 := fun (N : Nat) (H : AHeap) => c79 (N := N) (H := H)
 have h78 := fun (N : Nat) (s : Bool) => c78 (N := N) (s := s) (g := g) (lo := lo) (mp := mp) (cap := cap) (hs.fr (H' := ((H.alloc (.rw [.slice a ps.length cap, g, lo, mp] 124 false [])).alloc (.rw (tv m) 119 false [])).alloc (.rw [.int .i64 0, .int .i64 0] 38 false [])) (by repeat first|exact Fr.refl _|assumption|refine Fr.allocd ?_ _|refine Fr.put ?_ (by first|omega|(simp only [yz]<;>omega)) _)) hl hk hm hb
 have h78' := fun (N : Nat) (s : Bool) (x y : Value) => c78 (N := N) (s := s) (g := g) (lo := lo) (mp := mp) (cap := cap) (hs.fr (H' := (((H.alloc (.rw [.slice a ps.length cap, g, lo, mp] 124 false [])).alloc (.rw (tv m) 119 false [])).alloc (.rw [.int .i64 0, .int .i64 0] 38 false [])).put (H.size + 1 + 1) (.rw [x, y] 38 false [])) (by repeat first|exact Fr.refl _|assumption|refine Fr.allocd ?_ _|refine Fr.put ?_ (by first|omega|(simp only [yz]<;>omega)) _)) hl hk hm hb
 simp (disch:=first|(simp only [yk,seval];done)|omega|(simp only [yz]<;>omega)|fail) only [↓yp,yq0,yq1,yq2,yq3,yq4,yl,ys0,ys1,seval,fitB,newC,endD,endR,yrg]
 refine W_draw [9] rfl (by kernel_rfl) (by kernel_rfl) (by first|omega|(simp only [yz]<;>omega)) ?_
 simp (disch:=first|(simp only [yk,seval];done)|omega|(simp only [yz]<;>omega)|fail) only [↓yp,yq0,yq1,yq2,yq3,yq4,yl,ys0,ys1,seval,fitB,newC,endD,endR,yrg,hmp,h118,h79,h78,h78',A_build st_bdS_38,hst,hg,ho,hp]
structure LtR (H : AHeap) (a a' al : Option Addr) (ps : List Pk) (gs : List Gd) (lots : Int) (l : List Int) : Prop where
 st : StR H a a' ps gs lots
 rl : Rw intE H al l
 lo : LotOk ps l
theorem LtR.fr (h : LtR H a a' al ps gs lots l) (f : Fr H H') : LtR H' a a' al ps gs lots l := ⟨h.st.fr f, h.rl.fr f, h.lo⟩
theorem LtR.l1 (h : LtR H a a' al ps gs lots l) : 1 ≤ l.length := by rw [h.lo.len]; exact h.st.st.l1
theorem LtR.l4 (h : LtR H a a' al ps gs lots l) : l.length ≤ 4 := by rw [h.lo.len]; exact h.st.st.l4
theorem LtR.mx4 (h : LtR H a a' al ps gs lots l) : (mx l).length = 4 := mx_len h.l4
theorem LtR.in_ (h : LtR H a a' al ps gs lots l) : ∀ n ∈ mx l, 0 ≤ n ∧ n ≤ 6 := mx_in (h.lo.in h.st.pk)
theorem LtR.c90 (h : LtR H a a' al ps gs lots l) {mk : Nat} : acall tabA (aexec tabA Try.prog (N + 400)) 90 [.agg ⟨[.slice a ps.length cap, .slice a' gs.length cap', .int .i64 lots, .map (some mk)]⟩, .agg ⟨tv (mx l)⟩] H = some (true, .agg ⟨[.int .i64 (isum (fo true ps l)), .int .i64 (isum (fo false ps l))]⟩, H, H.size) := by
 have := K.c90 (N := N) (cap := cap) (g := .slice a' gs.length cap') (lo := .int .i64 lots) (mp := .map (some mk)) h.st.hs h.st.st.l4 h.st.pk h.mx4 h.in_ sv_slice sv_int sv_map
 rw [fo_pad h.lo.len, fo_pad h.lo.len] at this
 exact this
theorem LtR.c78 (h : LtR H a a' al ps gs lots l) {mk : Nat} : acall tabA (aexec tabA Try.prog (N + 300)) 78 [.agg ⟨[.slice a ps.length cap, .slice a' gs.length cap', .int .i64 lots, .map (some mk)]⟩, .agg ⟨tv (mx l)⟩, .agg ⟨[.func (.func (endF false)) ⟨[]⟩ ⟨[]⟩]⟩] H = some (true, .int .i64 (isum (fo false ps l)), H, H.size) := by
 have := K.c78 (N := N) (s := false) (cap := cap) (g := .slice a' gs.length cap') (lo := .int .i64 lots) (mp := .map (some mk)) h.st.hs h.st.st.l4 h.st.pk h.mx4 h.in_
 rw [fo_pad h.lo.len] at this
 exact this
theorem LtR.c76 (h : LtR H a a' al ps gs lots l) {H' : AHeap} : acall tabA (aexec tabA Try.prog (N + 200)) 76 [.agg ⟨tv (mx l)⟩] H' = some (true, .int .i64 (isum l), H', H'.size) := by
 have := K.c76 (N := N) (H := H') (t := mx l) h.mx4 fun x hx => by have := h.in_ x hx; omega
 rw [mx_sum] at this
 exact this
theorem LtR.sum (h : LtR H a a' al ps gs lots l) : 0 ≤ isum l ∧ isum l ≤ 24 := by
 have := isum_le (l := l) (m := 6) (h.lo.in h.st.pk)
 have := h.l4
 omega
theorem fo_le6 {s : Bool} : ∀ {ps : List Pk} {l : List Int}, (∀ p ∈ ps, p.Ok) → LotOk ps l → ∀ x ∈ fo s ps l, 0 ≤ x ∧ x ≤ 12 := fun hk ho x hx => fo_mem hk (ho.in hk) hx
theorem LtR.fo (h : LtR H a a' al ps gs lots l) {s : Bool} : 0 ≤ isum (fo s ps l) ∧ isum (fo s ps l) ≤ 48 := by
 have := isum_le (l := Go.Am.fo s ps l) (m := 12) (fo_le6 h.st.pk h.lo)
 rw [fo_len (by rw [h.lo.len]; exact Nat.le_refl _)] at this
 have := h.st.st.l4
 omega
end
end Go.Am.K
namespace Go.Am.K
open Go.Proofs
variable {T : Tab} {P : Program} {N L : Nat} {H H' H'' : AHeap} {Q : Bool → Value → AHeap → Prop}
section
variable {a a' al : Option Addr} {cap cap' cl mk : Nat} {ps : List Pk} {gs : List Gd} {lots : Int} {l m : List Int} {op fd : Int}
def lfLo (ps : List Pk) (l : List Int) (fd : Int) : Int := if fd > isum (fo true ps l) then fd else isum (fo true ps l)
def lfHi (ps : List Pk) (l : List Int) (op fd : Int) : Int := if isum l - (op - fd) < isum (fo false ps l) then isum l - (op - fd) else isum (fo false ps l)
theorem four (h : m.length = 4) : ∃ p q r s : Int, m = [p, q, r, s] := by
 match m, h with
 | [p, q, r, s], _ => exact ⟨p, q, r, s, rfl⟩
set_option maxHeartbeats 2000000 in
theorem c84 (h : LtR H a a' al ps gs lots l) (ho : 0 ≤ op ∧ op ≤ isum l) (hf : 0 ≤ fd ∧ fd ≤ op) :
  acall tabA (aexec tabA Try.prog (N + 500)) 84 [.agg ⟨[.slice a ps.length cap, .slice a' gs.length cap', .int .i64 lots, .map (some mk)] ++ (tv (mx l) ++ [.int .i64 op, .int .i64 fd])⟩] H = some (true, .agg ⟨[.int .i64 (lfLo ps l fd), .int .i64 (lfHi ps l op fd)]⟩, H, H.size) := by
 refine call_quiet (k := 29) (rs := [.cell 2 38]) rfl fn_84 rfl rfl rfl ?_ rfl
 have hsum := h.sum
 have h76 := fun (N : Nat) (H' : AHeap) => h.c76 (N := N) (H' := H')
 have h90 := fun (N : Nat) (H' : AHeap) (f : Fr H H') => (h.fr f).c90 (N := N) (cap := cap) (cap' := cap') (mk := mk)
 obtain ⟨p, q, r, s, hm⟩ := four h.mx4
 rw [hm] at h76 h90
 simp only [tv,List.map_cons,List.map_nil] at h76 h90
 rw [hm]
 simp only [tv,List.map_cons,List.map_nil,List.cons_append,List.nil_append]
 have w1 : w64 (op - fd) = op - fd := w64_of (by omega)
 have w2 : w64 (isum l - (op - fd)) = isum l - (op - fd) := w64_of (by omega)
 have e1 : (if fd > isum (fo true ps l) then fd else isum (fo true ps l)) = lfLo ps l fd := rfl
 have e2 : (if isum l - (op - fd) < isum (fo false ps l) then isum l - (op - fd) else isum (fo false ps l)) = lfHi ps l op fd := rfl
 have q1 : part [Value.slice a ps.length cap, .slice a' gs.length cap', .int .i64 lots, .map (some mk), .int .i64 p, .int .i64 q, .int .i64 r, .int .i64 s, .int .i64 op, .int .i64 fd] 0 5 = some (.agg ⟨[.slice a ps.length cap, .slice a' gs.length cap', .int .i64 lots, .map (some mk)]⟩) := rfl
 have q2 : part [Value.slice a ps.length cap, .slice a' gs.length cap', .int .i64 lots, .map (some mk), .int .i64 p, .int .i64 q, .int .i64 r, .int .i64 s, .int .i64 op, .int .i64 fd] 4 5 = some (.agg ⟨[.int .i64 p, .int .i64 q, .int .i64 r, .int .i64 s]⟩) := rfl
 simp (disch:=first|(simp only [yk,seval];done)|omega|(simp only [yz]<;>omega)|fail) only [↓yp,yq0,yq1,yq2,yq3,yq4,yl,ys0,ys1,seval,fitB,newC,endD,endR,yrg,one_map']
 have h900 := fun (N : Nat) => h90 N ((H.alloc (.rw [.slice a ps.length cap, .slice a' gs.length cap', .int .i64 lots, .map (some mk), .int .i64 p, .int .i64 q, .int .i64 r, .int .i64 s, .int .i64 op, .int .i64 fd] 134 false [])).alloc (.rw [.int .i64 0, .int .i64 0] 38 false [])) (by repeat first|exact Fr.refl _|assumption|refine Fr.allocd ?_ _|refine Fr.put ?_ (by first|omega|(simp only [yz]<;>omega)) _)
 have h901 := fun (N : Nat) => h90 N (((H.alloc (.rw [.slice a ps.length cap, .slice a' gs.length cap', .int .i64 lots, .map (some mk), .int .i64 p, .int .i64 q, .int .i64 r, .int .i64 s, .int .i64 op, .int .i64 fd] 134 false [])).alloc (.rw [.int .i64 0, .int .i64 0] 38 false [])).alloc (.rw [.int .i64 0, .int .i64 0] 38 false [])) (by repeat first|exact Fr.refl _|assumption|refine Fr.allocd ?_ _|refine Fr.put ?_ (by first|omega|(simp only [yz]<;>omega)) _)
 have h902 := fun (N : Nat) (x y : Value) => h90 N ((((H.alloc (.rw [.slice a ps.length cap, .slice a' gs.length cap', .int .i64 lots, .map (some mk), .int .i64 p, .int .i64 q, .int .i64 r, .int .i64 s, .int .i64 op, .int .i64 fd] 134 false [])).alloc (.rw [.int .i64 0, .int .i64 0] 38 false [])).alloc (.rw [.int .i64 0, .int .i64 0] 38 false [])).put (H.size + 1 + 1) (.rw [x, y] 38 false [])) (by repeat first|exact Fr.refl _|assumption|refine Fr.allocd ?_ _|refine Fr.put ?_ (by first|omega|(simp only [yz]<;>omega)) _)
 refine W_draw [10, 11] rfl (by kernel_rfl) (by kernel_rfl) (by first|omega|(simp only [yz]<;>omega)) ?_
 simp (disch:=first|(simp only [yk,seval];done)|omega|(simp only [yz]<;>omega)|fail) only [↓yp,yq0,yq1,yq2,yq3,yq4,yl,ys0,ys1,seval,fitB,newC,endD,endR,yrg,q1,q2,h900,h901,h902,w1,sv_map]
 refine W_draw [14] rfl (by kernel_rfl) (by kernel_rfl) (by first|omega|(simp only [yz]<;>omega)) ?_
 simp (disch:=first|(simp only [yk,seval];done)|omega|(simp only [yz]<;>omega)|fail) only [↓yp,yq0,yq1,yq2,yq3,yq4,yl,ys0,ys1,seval,fitB,newC,endD,endR,yrg,q2,h76,w2,A_min,A_max,mm_min,mm_max,e1,e2,A_build st_bdS_38]
end
end Go.Am.K
namespace Go.Am.K
open Go.Proofs
variable {T : Tab} {P : Program} {N L : Nat} {H H' H'' : AHeap} {Q : Bool → Value → AHeap → Prop}
section
variable {a a' al : Option Addr} {cap cap' cl mk : Nat} {ps : List Pk} {gs : List Gd} {lots : Int} {l m : List Int} {op fd : Int}
theorem part_10 {a0 a1 a2 a3 a4 a5 a6 a7 a8 a9 : Value} : part [a0, a1, a2, a3, a4, a5, a6, a7, a8, a9] 0 11 = some (.agg ⟨[a0, a1, a2, a3, a4, a5, a6, a7, a8, a9]⟩) := nr rfl
theorem part_10_4 {a0 a1 a2 a3 a4 a5 a6 a7 a8 a9 : Value} : part [a0, a1, a2, a3, a4, a5, a6, a7, a8, a9] 4 5 = some (.agg ⟨[a4, a5, a6, a7]⟩) := nr rfl
theorem one_map {p : Option Nat} {l : List Value} : oneCells (.map p :: l) = oneCells l := nr rfl
theorem resK_low {q : Res} {L L' : Nat} {Q : Bool → Value → AHeap → Prop} (_ : L ≤ L) (h : resK q L' Q) (hL : L ≤ L') : resK q L Q := by
 obtain ⟨f, v, H', m, rfl, h1, h2⟩ := resK_elim h
 exact ⟨Nat.le_trans hL h1, h2⟩
def byC (s s' : Value) (lots : Int) (mk : Nat) (l : List Int) (op fd : Int) : List Value := [s, s', .int .i64 lots, .map (some mk)] ++ (tv (mx l) ++ [.int .i64 op, .int .i64 fd])
def by0 : List Value := [.slice none 0 0, .slice none 0 0, .int .i64 0, .map none, .int .i64 0, .int .i64 0, .int .i64 0, .int .i64 0, .int .i64 0, .int .i64 0]
set_option maxHeartbeats 2000000 in
theorem c83a (h : LtR H a a' al ps gs lots l) (ho : 0 ≤ op ∧ op ≤ isum l) (hf : 0 ≤ fd ∧ fd ≤ op) {M : Nat} (hM : 1000 ≤ M)
  (hq : ∀ f v H', (decide (lfHi ps l op fd < lfLo ps l fd) = true → v = .tuple ⟨[.agg ⟨by0⟩, .int .i64 7]⟩) → (decide (lfHi ps l op fd < lfLo ps l fd) = false → ∃ mk, v = .tuple ⟨[.agg ⟨byC (.slice a ps.length cap) (.slice a' gs.length cap') lots mk l op fd⟩, .int .i64 0]⟩) → Fr H H' → Q f v H') :
  resK (acall tabA (aexec tabA Try.prog M) 83 [.agg ⟨[.slice a ps.length cap, .slice a' gs.length cap', .int .i64 lots]⟩, .slice al l.length cl, .int .i64 op, .int .i64 fd] H) H.size Q := by
 obtain ⟨N, rfl⟩ : ∃ N, M = N + 1000 := ⟨M - 1000, by omega⟩
 refine call_keep tabA_fr (k := 46) (rs := [.cell 8 134, .tmp 9]) (R := fun v H' => (decide (lfHi ps l op fd < lfLo ps l fd) = true → v = .tuple ⟨[.agg ⟨by0⟩, .int .i64 7]⟩) ∧ (decide (lfHi ps l op fd < lfLo ps l fd) = false → ∃ mk, v = .tuple ⟨[.agg ⟨byC (.slice a ps.length cap) (.slice a' gs.length cap') lots mk l op fd⟩, .int .i64 0]⟩) ∧ Fr H H') rfl fn_83 rfl rfl rfl (Nat.le_refl _) ?_ (fun v H' ⟨h1, h2, h3⟩ => hq _ _ _ h1 h2 h3) (fun v H' ⟨h1, h2, h3⟩ _ _ => hq _ _ _ h1 h2 (Fr.refl _))
 have fr : Fr H ((H.alloc (.rw [.slice a ps.length cap, .slice a' gs.length cap', .int .i64 lots] 25 false [])).alloc (.rw by0 134 false [])) := by (repeat (first | exact Fr.refl _ | assumption | refine Fr.allocd ?_ _ | refine Fr.put ?_ (by first | omega | (simp only [yz] <;> omega)) _))
 have h74 := fun (N : Nat) => c74 (N := N) (cap := cap) (cap' := cap') (cl := cl) (h.st.fr fr) (h.rl.fr fr) h.lo
 simp only [by0] at h74
 simp (disch:=first|(simp only [yk,seval];done)|omega|(simp only [yz]<;>omega)|fail) only [↓yp,yq0,yq1,yq2,yq3,yq4,yl,ys0,ys1,seval,fitB,newC,endD,endR,yrg,h74]
 refine c77 (by first|omega|(simp only [yz]<;>omega)) (by omega) ?_
 intro mk H1 fr1 k1 k2 k3
 have f1 := fr1.size
 have s1 := fr1.same
 simp only [size_alloc] at f1 s1 k1
 have fra : Fr H H1 := Fr.trans (by repeat first|exact Fr.refl _|assumption|refine Fr.allocd ?_ _|refine Fr.put ?_ (by first|omega|(simp only [yz]<;>omega)) _) fr1
 have hh := h.fr fra
 have h75 := fun (N : Nat) => c75 (N := N) (cl := cl) hh.rl hh.l1 hh.l4
 have h76 := fun (N : Nat) (H' : AHeap) => h.c76 (N := N) (H' := H')
 have h58 := fun (N : Nat) (H : AHeap) => c58 (N := N) (H := H) (n := op) (lo := 0) (hi := isum l)
 have h58' := fun (N : Nat) (H : AHeap) => c58 (N := N) (H := H) (n := fd) (lo := 0) (hi := op)
 have hwi : wi op 0 (isum l) = true := by unfold wi; simp; omega
 have hwi' : wi fd 0 op = true := by unfold wi; simp; omega
 rw [hwi] at h58
 rw [hwi'] at h58'
 obtain ⟨p, q, r, s, hm⟩ := four h.mx4
 have h84 := fun (N : Nat) (H' : AHeap) (f : Fr H H') => c84 (N := N) (cap := cap) (cap' := cap') (mk := mk) (h.fr f) ho hf
 have h65 := fun (N : Nat) (H : AHeap) => c65 (N := N) (H := H) (a := lfLo ps l fd) (b := lfHi ps l op fd)
 simp only [byC]
 rw [hm] at h75 h76 h84 ⊢
 simp only [tv,List.map_cons,List.map_nil,List.cons_append,List.nil_append] at h75 h76 h84 ⊢
 simp (disch:=first|(simp only [yk,seval];done)|omega|(simp only [yz]<;>omega)|fail) only [↓yp,yq0,yq1,yq2,yq3,yq4,yl,ys0,ys1,seval,fitB,newC,endD,endR,yrg,h75,h76,h58,h58',A_build st_bdS_134,one_map',cells_map',part_10_4,part_10]
 rw [h84 _ _ (by repeat first|exact Fr.refl _|assumption|refine Fr.allocd ?_ _|refine Fr.put ?_ (by first|omega|(simp only [yz]<;>omega)) _)]
 simp (disch:=first|(simp only [yk,seval];done)|omega|(simp only [yz]<;>omega)|fail) only [↓yp,yq0,yq1,yq2,yq3,yq4,yl,ys0,ys1,seval,fitB,newC,endD,endR,yrg,h65]
 refine ⟨fun hA => ?_, fun hA => ?_⟩
 ·simp (disch:=first|(simp only [yk,seval];done)|omega|(simp only [yz]<;>omega)|fail) only [↓yp,yq0,yq1,yq2,yq3,yq4,yl,ys0,ys1,seval,fitB,newC,endD,endR,yrg,s1,A_build st_bdS_134,one_map,one_map',cells_map',part_10]
  exact ⟨fun _ => rfl, fun h => (by rw [hA] at h; cases h), by (repeat (first | exact Fr.refl _ | assumption | refine Fr.allocd ?_ _ | refine Fr.put ?_ (by first | omega | (simp only [yz] <;> omega)) _))⟩
 ·simp (disch:=first|(simp only [yk,seval];done)|omega|(simp only [yz]<;>omega)|fail) only [↓yp,yq0,yq1,yq2,yq3,yq4,yl,ys0,ys1,seval,fitB,newC,endD,endR,yrg,s1,A_build st_bdS_134,one_map,one_map',cells_map',part_10]
  exact ⟨fun h => (by rw [hA] at h; cases h), fun _ => ⟨mk, rfl⟩, by (repeat (first | exact Fr.refl _ | assumption | refine Fr.allocd ?_ _ | refine Fr.put ?_ (by first | omega | (simp only [yz] <;> omega)) _))⟩
theorem c27 (h : LtR H a a' al ps gs lots l) (ho : 0 ≤ op ∧ op ≤ isum l) (hf : 0 ≤ fd ∧ fd ≤ op) :
  acall tabA (aexec tabA Try.prog (N + 1100)) 27 [.agg ⟨[.slice a ps.length cap, .slice a' gs.length cap', .int .i64 lots]⟩, .slice al l.length cl, .int .i64 op, .int .i64 fd] H = some (true, bif decide (lfHi ps l op fd < lfLo ps l fd) then .tuple ⟨[.agg ⟨[.int .i64 0, .int .i64 0]⟩, .int .i64 7]⟩ else .tuple ⟨[.agg ⟨[.int .i64 (lfLo ps l fd), .int .i64 (lfHi ps l op fd)]⟩, .int .i64 0]⟩, H, H.size) := by
 refine call_quiet (k := 26) (rs := [.cell 8 38, .tmp 9]) rfl fn_27 rfl rfl rfl ?_ (by cases decide (lfHi ps l op fd < lfLo ps l fd) <;> rfl)
 simp (disch:=first|(simp only [yk,seval];done)|omega|(simp only [yz]<;>omega)|fail) only [↓yp,yq0,yq1,yq2,yq3,yq4,yl,ys0,ys1,seval,fitB,newC,endD,endR,yrg]
 refine resK_low (Nat.le_refl _) (c83a (cap := cap) (cap' := cap') (cl := cl) (h.fr (by repeat first|exact Fr.refl _|assumption|refine Fr.allocd ?_ _|refine Fr.put ?_ (by first|omega|(simp only [yz]<;>omega)) _)) ho hf (by omega) ?_) (by first|omega|(simp only [yz]<;>omega))
 intro f v H1 e1 e2 fr1
 have f1 := fr1.size
 have s1 := fr1.same
 simp only [size_alloc] at f1 s1
 have fra : Fr H H1 := Fr.trans (by repeat first|exact Fr.refl _|assumption|refine Fr.allocd ?_ _|refine Fr.put ?_ (by first|omega|(simp only [yz]<;>omega)) _) fr1
 cases hA : decide (lfHi ps l op fd < lfLo ps l fd)
 ·obtain ⟨mk, rfl⟩ := e2 hA
  have h84 := fun (N : Nat) (H' : AHeap) (f : Fr H H') => c84 (N := N) (cap := cap) (cap' := cap') (mk := mk) (h.fr f) ho hf
  obtain ⟨p, q, r, s, hm⟩ := four h.mx4
  simp only [byC]
  rw [hm] at h84 ⊢
  simp only [tv,List.map_cons,List.map_nil,List.cons_append,List.nil_append] at h84 ⊢
  simp (disch:=first|(simp only [yk,seval];done)|omega|(simp only [yz]<;>omega)|fail) only [↓yp,yq0,yq1,yq2,yq3,yq4,yl,ys0,ys1,seval,fitB,newC,endD,endR,yrg,one_map,one_map',part_10]
  rw [h84 _ _ (by repeat first|exact Fr.refl _|assumption|refine Fr.allocd ?_ _|refine Fr.put ?_ (by first|omega|(simp only [yz]<;>omega)) _)]
  simp (disch:=first|(simp only [yk,seval];done)|omega|(simp only [yz]<;>omega)|fail) only [↓yp,yq0,yq1,yq2,yq3,yq4,yl,ys0,ys1,seval,fitB,newC,endD,endR,yrg,s1]
 ·obtain rfl := e1 hA
  simp only [by0]
  simp (disch:=first|(simp only [yk,seval];done)|omega|(simp only [yz]<;>omega)|fail) only [↓yp,yq0,yq1,yq2,yq3,yq4,yl,ys0,ys1,seval,fitB,newC,endD,endR,yrg,s1,one_map,A_build st_bdS_38]
end
end Go.Am.K
