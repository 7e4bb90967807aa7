/- What a job asks of its streets, and what its minutes are; leaving, and what is better. -/
import Derived.Test.YtaieoelbpnjoiaaT28
import Derived.Test.YtaieoelbpnjoiaaT27
set_option linter.unusedSimpArgs false
set_option linter.unusedVariables false
namespace Go.Am
open Go.Proofs
variable {T : Tab} {P : Program} {N L : Nat} {H : AHeap} {Q : Bool → Value → AHeap → Prop}

theorem tabA_fr : tabA.MemoFr := by
  intro f args H b v H' m h
  simp only [tabA,Tab.sure] at h
  split at h
  · cases h; exact Fra.refl _ _
  · cases h
theorem c94 {a : Option Addr} {cap i : Nat} {l : List Str} {C w ld : Int} {b : Bool} {s : Str} (hs : Sl H a l) (hi : l[i]? = some s) :
    acall tabA (aexec tabA Try.prog (N + 40)) 94 [jobV C a l.length cap w ld, legV i b] H = some (true, .tuple ⟨[.int .i64 (nearL s b), .int .i64 (farL s b)]⟩, H, H.size) := by
  refine call_quiet (k := 24) (rs := [.tmp 4, .tmp 5]) rfl fn_94 rfl rfl rfl ?_ rfl
  have hlt := (List.getElem?_eq_some_iff.1 hi).1
  obtain ⟨b', o, c, rfl, hb, hc, hp⟩ := hs.get (fun h => by subst h; simp at hi)
  have hpi := hp i s hi
  cases b
  · simp (disch := (first | (simp only [yk,seval]; done) | omega | (simp only [yz] <;> omega) | fail)) only [↓yp,yq0,yq1,yq2,yq3,yq4,yl,ys0,ys1,seval,zed,zee,zfr,zhw,ysu,yrg,jobV,legV,A_indexSlice zio,hc,hpi,Str.enc]
    refine W_draw [] rfl (by kernel_rfl) (by kernel_rfl) (by (first | omega | (simp only [yz] <;> omega))) ?_
    simp (disch := (first | (simp only [yk,seval]; done) | omega | (simp only [yz] <;> omega) | fail)) only [↓yp,yq0,yq1,yq2,yq3,yq4,yl,ys0,ys1,seval,zed,zee,zfr,zhw,ysu,yrg,nearL,farL]
  · simp (disch := (first | (simp only [yk,seval]; done) | omega | (simp only [yz] <;> omega) | fail)) only [↓yp,yq0,yq1,yq2,yq3,yq4,yl,ys0,ys1,seval,zed,zee,zfr,zhw,ysu,yrg,jobV,legV,A_indexSlice zio,hc,hpi,Str.enc]
    refine W_draw [] rfl (by kernel_rfl) (by kernel_rfl) (by (first | omega | (simp only [yz] <;> omega))) ?_
    simp (disch := (first | (simp only [yk,seval]; done) | omega | (simp only [yz] <;> omega) | fail)) only [↓yp,yq0,yq1,yq2,yq3,yq4,yl,ys0,ys1,seval,zed,zee,zfr,zhw,ysu,yrg,nearL,farL]
theorem fit_w64 {s : Str} {ld : Int} (hf : Fit s ld) : w64 (s.up * ld) = s.up * ld ∧ w64 (s.mi + s.up * ld) = s.mi + s.up * ld ∧ w64 (s.hi + 1) = s.hi + 1 ∧ ∀ b, w64 (s.hi + 1 + takes s b ld) = s.hi + 1 + takes s b ld := by
  have h1 := hf.mi
  have h2 := hf.ul
  have h3 := hf.hi
  refine ⟨w64_of (by omega), w64_of (by omega), w64_of (by omega), fun b => w64_of ?_⟩
  have := hf.takes b
  omega
/-- arrive, from a minute or from none. -/
theorem c117m {a : Option Addr} {cap i : Nat} {l : List Str} {C w ld m : Int} {b : Bool} {s : Str} (hs : Sl H a l) (hi : l[i]? = some s) (hf : Fit s ld) (hm : okM m) :
    acall tabA (aexec tabA Try.prog (N + 160)) 117 [jobV C a l.length cap w ld, legV i b, .int .i64 m] H = some (true, .int .i64 (arrL s b ld m), H, H.size) := by
  have ht := hf.takes b
  have hm1 := hm.1
  have hm2 := hm.2
  unfold arrL
  split
  · rename_i e
    subst e
    refine call_quiet (k := 36) (rs := [.tmp 6]) rfl fn_117 rfl rfl rfl ?_ rfl
    have e4 : decide ((-1 : Int) = -1) = true := by decide
    simp (disch := (first | (simp only [yk,seval]; done) | omega | (simp only [yz] <;> omega) | fail)) only [↓yp,yq0,yq1,yq2,yq3,yq4,yl,ys0,ys1,seval,zed,zee,zfr,zhw,ysu,yrg,jobV,legV,e4]
  · rename_i e
    obtain ⟨w1, w2, w3, w4⟩ := fit_w64 hf
    exact c117 hs hi w1 w2 (w64_of (by omega)) w3 (w4 b) e
end Go.Am
/- The legs that lead away from a corner, one after the other. -/
namespace Go.Am
open Go.Proofs
variable {T : Tab} {P : Program} {N L : Nat} {H : AHeap} {Q : Bool → Value → AHeap → Prop}

theorem st_baS_171 : baS tabA 171 = some ([.int .i64 0, .bool false, .int .i64 0, .bool false], 2) := by kernel_rfl
/-- A town at work, with a law that is lifted. -/
def jobG (C : Int) (a : Option Addr) (n cap : Nat) (w ld lf : Int) : Value := .agg ⟨[.int .i64 C, .slice a n cap, .int .i64 w, .int .i64 ld, .int .i64 lf]⟩
theorem c106 {C w ld lf x : Int} {a : Option Addr} {n cap : Nat} {u : Value} (hu : u.cells.toList = [u]) (hL : L ≤ H.size) : resK (acall tabA (aexec tabA Try.prog (N + 40)) 106 [jobG C a n cap w ld lf, .int .i64 x, u] H) L Q =
    Q false (.func (.func 123) ⟨[]⟩ ⟨[.pointer (some ⟨H.size, 0, none⟩), .pointer (some ⟨H.size + 1, 0, none⟩), .pointer (some ⟨H.size + 1 + 1, 0, none⟩)]⟩) (((H.alloc (.rw [.int .i64 C, .slice a n cap, .int .i64 w, .int .i64 ld, .int .i64 lf] 124 false [])).alloc (.rw [.int .i64 x] 3 false [])).alloc (.rw [u] 113 false [])) := by
  refine call_res (k := 8) (rs := [.tmp 6]) rfl fn_106 rfl rfl rfl ?_ rfl hL
  simp (disch := (first | (simp only [yk,seval]; done) | omega | (simp only [yz] <;> omega) | fail)) only [↓yp,yq0,yq1,yq2,yq3,yq4,yl,ys0,ys1,seval,zed,zee,zfr,zhw,ysu,yrg,jobG,hu]

section
variable {σ : Type} {f : σ → Nat → Str → Bool → σ} {I : σ → AHeap → Prop} {l : List Str} {C w ld lf x : Int} {a : Option Addr} {cap b1 b2 b3 lb : Nat} {st₀ : σ} {K₀ base : Nat}
def inn (f : σ → Nat → Str → Bool → σ) (w ld x : Int) (i : Nat) (s : Str) (st : σ) : Nat → σ
  | 0 => st
  | 1 => visit f w ld x i s false st
  | _ => visit f w ld x i s true (visit f w ld x i s false st)
theorem inn_next {i : Nat} {s : Str} {st : σ} {j : Nat} (hj : j < 2) : inn f w ld x i s st (j + 1) = visit f w ld x i s (j == 1) (inn f w ld x i s st j) := by
  have : j = 0 ∨ j = 1 := by omega
  rcases this with rfl | rfl <;> rfl
theorem part_legs {i : Int} {j : Nat} (hj : j < 2) : part [.int .i64 i, .bool false, .int .i64 i, .bool true] ((j : Int).toNat * 2) 3 = some (.agg ⟨[.int .i64 i, .bool (j == 1)]⟩) := by
  have : j = 0 ∨ j = 1 := by omega
  rcases this with rfl | rfl <;> rfl
/-- What a round comes to: the loop and its deferred block are as before. -/
def roundQ (lb : Nat) (blk : ABlk) (J : σ → AHeap → Prop) (st : σ) (_ : Bool) (v : Value) (H' : AHeap) : Prop := v = .bool true ∧ H'.get (lb + 1) = blk ∧ H'.get lb = .defer ∧ J st H'
end
end Go.Am
