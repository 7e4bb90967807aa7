import Derived.Test.YtjpcaamfcfkmhaaT45
set_option linter.unusedSimpArgs false
set_option linter.unusedVariables false
namespace Go.Am.K
open Go.Proofs
variable {T : Tab} {P : Program} {N L : Nat} {H H' H'' : AHeap} {Q : Bool → Value → AHeap → Prop}
section
variable {a a' al : Option Addr} {cap cap' cl : Nat} {ps : List Pk} {gs : List Gd} {lots : Int} {l m : List Int}
set_option maxHeartbeats 1000000 in
theorem c90 {g lo mp : Value} (hs : Rw pkE H a ps) (hl : ps.length ≤ 4) (hk : ∀ p ∈ ps, p.Ok) (hm : m.length = 4) (hb : ∀ n ∈ m, 0 ≤ n ∧ n ≤ 6) (hg : sameV 5 g g = true) (ho : sameV 5 lo lo = true) (hp : sameV 5 mp mp = true) :
  acall tabA (aexec tabA Try.prog (N + 400)) 90 [.agg ⟨[.slice a ps.length cap, g, lo, mp]⟩, .agg ⟨tv m⟩] H = some (true, .agg ⟨[.int .i64 (isum (fo true ps m)), .int .i64 (isum (fo false ps m))]⟩, H, H.size) := by
 refine call_quiet (k := 14) (rs := [.cell 4 38]) rfl fn_90 rfl rfl rfl ?_ rfl
 have hmp : part (tv m) 0 5 = some (.agg ⟨tv m⟩) := part_tv hm
 have hst := fun n => sl_tv (n := n) m
 have h118 := fun (N : Nat) (H : AHeap) => c118 (N := N) (H := H)
 have h79 := fun (N : Nat) (H : AHeap) => c79 (N := N) (H := H)
 have h78 := fun (N : Nat) (s : Bool) => c78 (N := N) (s := s) (g := g) (lo := lo) (mp := mp) (cap := cap) (hs.fr (H' := ((H.alloc (.rw [.slice a ps.length cap, g, lo, mp] 124 false [])).alloc (.rw (tv m) 119 false [])).alloc (.rw [.int .i64 0, .int .i64 0] 38 false [])) (by repeat first|exact Fr.refl _|assumption|refine Fr.allocd ?_ _|refine Fr.put ?_ (by first|omega|(simp only [yz]<;>omega)) _)) hl hk hm hb
 have h78' := fun (N : Nat) (s : Bool) (x y : Value) => c78 (N := N) (s := s) (g := g) (lo := lo) (mp := mp) (cap := cap) (hs.fr (H' := (((H.alloc (.rw [.slice a ps.length cap, g, lo, mp] 124 false [])).alloc (.rw (tv m) 119 false [])).alloc (.rw [.int .i64 0, .int .i64 0] 38 false [])).put (H.size + 1 + 1) (.rw [x, y] 38 false [])) (by repeat first|exact Fr.refl _|assumption|refine Fr.allocd ?_ _|refine Fr.put ?_ (by first|omega|(simp only [yz]<;>omega)) _)) hl hk hm hb
 simp (disch:=first|(simp only [yk,seval];done)|omega|(simp only [yz]<;>omega)|fail) only [↓yp,yq0,yq1,yq2,yq3,yq4,yl,ys0,ys1,seval,fitB,newC,endD,endR,yrg]
 refine W_draw [9] rfl (by kernel_rfl) (by kernel_rfl) (by first|omega|(simp only [yz]<;>omega)) ?_
 simp (disch:=first|(simp only [yk,seval];done)|omega|(simp only [yz]<;>omega)|fail) only [↓yp,yq0,yq1,yq2,yq3,yq4,yl,ys0,ys1,seval,fitB,newC,endD,endR,yrg,hmp,h118,h79,h78,h78',A_build st_bdS_38,hst,hg,ho,hp]
structure LtR (H : AHeap) (a a' al : Option Addr) (ps : List Pk) (gs : List Gd) (lots : Int) (l : List Int) : Prop where
 st : StR H a a' ps gs lots
 rl : Rw intE H al l
 lo : LotOk ps l
theorem LtR.fr (h : LtR H a a' al ps gs lots l) (f : Fr H H') : LtR H' a a' al ps gs lots l := ⟨h.st.fr f, h.rl.fr f, h.lo⟩
theorem LtR.l1 (h : LtR H a a' al ps gs lots l) : 1 ≤ l.length := by rw [h.lo.len]; exact h.st.st.l1
theorem LtR.l4 (h : LtR H a a' al ps gs lots l) : l.length ≤ 4 := by rw [h.lo.len]; exact h.st.st.l4
theorem LtR.mx4 (h : LtR H a a' al ps gs lots l) : (mx l).length = 4 := mx_len h.l4
theorem LtR.in_ (h : LtR H a a' al ps gs lots l) : ∀ n ∈ mx l, 0 ≤ n ∧ n ≤ 6 := mx_in (h.lo.in h.st.pk)
theorem LtR.c90 (h : LtR H a a' al ps gs lots l) {mk : Nat} : acall tabA (aexec tabA Try.prog (N + 400)) 90 [.agg ⟨[.slice a ps.length cap, .slice a' gs.length cap', .int .i64 lots, .map (some mk)]⟩, .agg ⟨tv (mx l)⟩] H = some (true, .agg ⟨[.int .i64 (isum (fo true ps l)), .int .i64 (isum (fo false ps l))]⟩, H, H.size) := by
 have := K.c90 (N := N) (cap := cap) (g := .slice a' gs.length cap') (lo := .int .i64 lots) (mp := .map (some mk)) h.st.hs h.st.st.l4 h.st.pk h.mx4 h.in_ sv_slice sv_int sv_map
 rw [fo_pad h.lo.len, fo_pad h.lo.len] at this
 exact this
theorem LtR.c78 (h : LtR H a a' al ps gs lots l) {mk : Nat} : acall tabA (aexec tabA Try.prog (N + 300)) 78 [.agg ⟨[.slice a ps.length cap, .slice a' gs.length cap', .int .i64 lots, .map (some mk)]⟩, .agg ⟨tv (mx l)⟩, .agg ⟨[.func (.func (endF false)) ⟨[]⟩ ⟨[]⟩]⟩] H = some (true, .int .i64 (isum (fo false ps l)), H, H.size) := by
 have := K.c78 (N := N) (s := false) (cap := cap) (g := .slice a' gs.length cap') (lo := .int .i64 lots) (mp := .map (some mk)) h.st.hs h.st.st.l4 h.st.pk h.mx4 h.in_
 rw [fo_pad h.lo.len] at this
 exact this
theorem LtR.c76 (h : LtR H a a' al ps gs lots l) {H' : AHeap} : acall tabA (aexec tabA Try.prog (N + 200)) 76 [.agg ⟨tv (mx l)⟩] H' = some (true, .int .i64 (isum l), H', H'.size) := by
 have := K.c76 (N := N) (H := H') (t := mx l) h.mx4 fun x hx => by have := h.in_ x hx; omega
 rw [mx_sum] at this
 exact this
theorem LtR.sum (h : LtR H a a' al ps gs lots l) : 0 ≤ isum l ∧ isum l ≤ 24 := by
 have := isum_le (l := l) (m := 6) (h.lo.in h.st.pk)
 have := h.l4
 omega
theorem fo_le6 {s : Bool} : ∀ {ps : List Pk} {l : List Int}, (∀ p ∈ ps, p.Ok) → LotOk ps l → ∀ x ∈ fo s ps l, 0 ≤ x ∧ x ≤ 12 := fun hk ho x hx => fo_mem hk (ho.in hk) hx
theorem LtR.fo (h : LtR H a a' al ps gs lots l) {s : Bool} : 0 ≤ isum (fo s ps l) ∧ isum (fo s ps l) ≤ 48 := by
 have := isum_le (l := Go.Am.fo s ps l) (m := 12) (fo_le6 h.st.pk h.lo)
 rw [fo_len (by rw [h.lo.len]; exact Nat.le_refl _)] at this
 have := h.st.st.l4
 omega
theorem c37 (h : LtR H a a' al ps gs lots l) :
  acall tabA (aexec tabA Try.prog (N + 500)) 37 [.agg ⟨[.slice a ps.length cap, .slice a' gs.length cap', .int .i64 lots]⟩, .slice al l.length cl] H = some (true, .tuple ⟨[.agg ⟨[.int .i64 (isum (fo true ps l)), .int .i64 (isum (fo false ps l))]⟩, .int .i64 0]⟩, H, H.size) := by
 refine call_quiet (k := 19) (rs := [.cell 4 38, .tmp 5]) rfl fn_37 rfl rfl rfl ?_ rfl
 have fr : Fr H ((H.alloc (.rw [.slice a ps.length cap, .slice a' gs.length cap', .int .i64 lots] 25 false [])).alloc (.rw [.int .i64 0, .int .i64 0] 38 false [])) := by (repeat (first | exact Fr.refl _ | assumption | refine Fr.allocd ?_ _ | refine Fr.put ?_ (by first | omega | (simp only [yz] <;> omega)) _))
 have h74 := fun (N : Nat) => c74 (N := N) (cap := cap) (cap' := cap') (cl := cl) (h.st.fr fr) (h.rl.fr fr) h.lo
 simp (disch:=first|(simp only [yk,seval];done)|omega|(simp only [yz]<;>omega)|fail) only [↓yp,yq0,yq1,yq2,yq3,yq4,yl,ys0,ys1,seval,fitB,newC,endD,endR,yrg,h74]
 refine c77 (by first|omega|(simp only [yz]<;>omega)) (by omega) ?_
 intro mk H1 fr1 k1 k2 k3
 have f1 := fr1.size
 have s1 := fr1.same
 simp only [size_alloc] at f1 s1 k1
 have hh := (h.fr fr).fr fr1
 have h75 := fun (N : Nat) => c75 (N := N) (cl := cl) hh.rl hh.l1 hh.l4
 have h90 := fun (N : Nat) => hh.c90 (N := N) (cap := cap) (cap' := cap') (mk := mk)
 simp (disch:=first|(simp only [yk,seval];done)|omega|(simp only [yz]<;>omega)|fail) only [↓yp,yq0,yq1,yq2,yq3,yq4,yl,ys0,ys1,seval,fitB,newC,endD,endR,yrg,h75,h90,s1]
end
end Go.Am.K
namespace Go.Am.K
open Go.Proofs
variable {T : Tab} {P : Program} {N L : Nat} {H H' H'' : AHeap} {Q : Bool → Value → AHeap → Prop}
section
variable {a a' al : Option Addr} {cap cap' cl mk : Nat} {ps : List Pk} {gs : List Gd} {lots : Int} {l m : List Int} {op fd : Int}
theorem four (h : m.length = 4) : ∃ p q r s : Int, m = [p, q, r, s] := by
 match m, h with
 | [p, q, r, s], _ => exact ⟨p, q, r, s, rfl⟩
end
end Go.Am.K
namespace Go.Am.K
open Go.Proofs
variable {T : Tab} {P : Program} {N L : Nat} {H H' H'' : AHeap} {Q : Bool → Value → AHeap → Prop}
section
variable {a a' al : Option Addr} {cap cap' cl mk : Nat} {ps : List Pk} {gs : List Gd} {lots : Int} {l m : List Int} {op fd : Int}
end
end Go.Am.K
