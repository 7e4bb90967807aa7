import Derived.Test.YtaieoelbpnjoiaaT24
set_option linter.unusedSimpArgs false
set_option linter.unusedVariables false
namespace Go.Am
open Go.Proofs
variable {T : Tab} {P : Program} {N L : Nat} {H : AHeap} {Q : Bool → Value → AHeap → Prop}
theorem asked_ok {C w ld : Int} {l : List Str} {cs ss ms : List Int} (h : asked C l w ld cs ss ms = 0) : chk C l = 0 ∧ off w 1 9 = false ∧ off ld 0 9 = false ∧ (∀ n ∈ cs, 0 ≤ n ∧ n ≤ C - 1) ∧ (∀ n ∈ ss, 0 ≤ n ∧ n ≤ (l.length : Int) - 1) ∧ (∀ n ∈ ms, 0 ≤ n ∧ n ≤ 240) := by
 unfold asked at h
 have any : ∀ {p : Int → Bool} {l : List Int}, ¬ l.any p = true → ∀ n ∈ l, p n = false := fun {p l} h n hn => by
  cases hp : p n with
  | false => rfl
  | true => exact absurd (List.any_eq_true.2 ⟨n, hn, hp⟩) h
 split at h
 ·rename_i h1; exact absurd h h1
 ·split at h
  ·cases h
  ·split at h
   ·cases h
   ·split at h
    ·cases h
    ·split at h
     ·cases h
     ·rename_i h1 h2 h3 h4 h5
      simp only [Bool.or_eq_true,not_or,Bool.not_eq_true] at h2
      exact ⟨Classical.byContradiction h1, h2.1, h2.2, fun n hn => off_iff.1 (any h3 n hn), fun n hn => off_iff.1 (any h4 n hn), fun n hn => off_iff.1 (any h5 n hn)⟩
theorem fit_of {C ld : Int} {l : List Str} {s : Str} (h : chk C l = 0) (hs : s ∈ l) (hd : off ld 0 9 = false) : Fit s ld := by
 have hb := (chk_ok h).2.2.2 s hs
 have h1 := bad2_span hb
 unfold bad2 at hb
 simp only [Bool.or_eq_false_iff] at hb
 have h2 := off_iff.1 hb.1
 have h3 := off_iff.1 hb.2.1
 have h4 := off_iff.1 hd
 refine ⟨h2, ⟨Int.mul_nonneg h3.1 h4.1, ?_⟩, h1.1, h1.2⟩
 have := Int.mul_le_mul h3.2 h4.2 h4.1 (by omega)
 omega
def passV (C : Int) (l : List Str) (w ld li : Int) (b : Bool) (m : Int) : Int × Int :=
 if asked C l w ld [] [li] [m] ≠ 0 then (0, asked C l w ld [] [li] [m]) else match l[li.toNat]? with
 | some s => if (bif mayL s b w ld then arriveL s b ld m else -1) = -1 then (0, 1) else (arriveL s b ld m, 0)
 | none => (0, 1)
theorem st_brS_52_1 : brS tabA 52 1 = some (1, 3, [.int .i64 0]) := by kernel_rfl
theorem c82q {a : Option Addr} {cap b₁ b₂ : Nat} {l : List Str} {C w ld li m : Int} (hs : Sl H a l) (hl : l.length ≤ 18) (k₁ : b₁ < H.size) (h₁ : cellsOf (H.get b₁) = some [.int .i64 li]) (k₂ : b₂ < H.size) (h₂ : cellsOf (H.get b₂) = some [.int .i64 m]) :
  acall tabA (aexec tabA Try.prog (N + 400)) 82 [.agg ⟨[.int .i64 C, .slice a l.length cap]⟩, .agg ⟨[.int .i64 w, .int .i64 ld]⟩, .slice none 0 0, .slice (some ⟨b₁, 0, none⟩) 1 1, .slice (some ⟨b₂, 0, none⟩) 1 1] H = some (true, .int .i64 (asked C l w ld [] [li] [m]), H, H.size) :=
 c82 (cs := []) (ss := [li]) (ms := [m]) (ac := none) (kc := 0) hs hl Il.nil (by simp) (Il.one k₁ h₁) (by simp) (Il.one k₂ h₂) (by simp)
set_option maxHeartbeats 1000000 in
theorem c25 {a : Option Addr} {cap : Nat} {l : List Str} {C w ld li m : Int} {b : Bool} (hs : Sl H a l) (hl : l.length ≤ 18) :
  acall tabA (aexec tabA Try.prog (N + 500)) 25 [.agg ⟨[.int .i64 C, .slice a l.length cap]⟩, .agg ⟨[.int .i64 w, .int .i64 ld]⟩, legV li b, .int .i64 m] H = some (true, .tuple ⟨[.int .i64 (passV C l w ld li b m).1, .int .i64 (passV C l w ld li b m).2]⟩, H, H.size) := by
 refine call_quiet (k := 32) (rs := [.tmp 8, .tmp 9]) rfl fn_25 rfl rfl rfl ?_ rfl
 simp (disch:=first|(simp only [yk,seval];done)|omega|(simp only [yz]<;>omega)|fail) only [↓yp,yq0,yq1,yq2,yq3,yq4,yl,ys0,ys1,seval,zed,zee,zfr,zhw,legV,A_buildSlice st_brS_52_1]
 rw [c82q (li := li) (m := m) (hs.fr (by repeat first|exact Fr.refl _|assumption|refine Fr.allocd ?_ _|refine Fr.put ?_ (by first|omega|(simp only [yz]<;>omega)) _)) hl (by first|omega|(simp only [yz]<;>omega)) (by simp (disch:=first|(simp only [yk,seval];done)|omega|(simp only [yz]<;>omega)|fail) only [yg,seval]) (by first|omega|(simp only [yz]<;>omega)) (by simp (disch:=first|(simp only [yk,seval];done)|omega|(simp only [yz]<;>omega)|fail) only [yg,seval])]
 simp (disch:=first|(simp only [yk,seval];done)|omega|(simp only [yz]<;>omega)|fail) only [↓yp,yq0,yq1,yq2,yq3,yq4,yl,ys0,ys1,seval,zed,zee,zfr,zhw]
 by_cases h0 : asked C l w ld [] [li] [m] = 0
 rotate_left
 ·have h0' : decide (asked C l w ld [] [li] [m] = 0) = false := by simpa using h0
  simp (disch:=first|(simp only [yk,seval];done)|omega|(simp only [yz]<;>omega)|fail) only [↓yp,yq0,yq1,yq2,yq3,yq4,yl,ys0,ys1,seval,zed,zee,zfr,zhw,h0',passV]
  simp [h0]
 have h0' : decide (asked C l w ld [] [li] [m] = 0) = true := by simpa using h0
 obtain ⟨hc, hw, hd, -, hli, hm⟩ := asked_ok h0
 have hli := hli li (by simp)
 have hm := hm m (by simp)
 obtain ⟨i, rfl⟩ : ∃ i : Nat, li = i := ⟨li.toNat, by omega⟩
 have hilt : i < l.length := by omega
 obtain ⟨s, hi⟩ : ∃ s, l[i]? = some s := ⟨l[i], by simp [hilt]⟩
 have hf := fit_of hc (List.mem_of_getElem? hi) hd
 have ht := hf.takes b
 have hpv : passV C l w ld i b m = if (bif mayL s b w ld then arriveL s b ld m else -1) = -1 then (0, 1) else (arriveL s b ld m, 0) := by
  unfold passV
  rw [if_neg (by simpa using h0)]
  simp only [Int.toNat_natCast,hi]
 obtain ⟨bb, o, c, rfl, hb, hcc, hp⟩ := hs.get (fun h => by subst h; simp at hi)
 have k1 := hf.mi
 have k2 := hf.ul
 have k3 := hf.hi
 have h84 := fun (H' : AHeap) (f : Fr H H') (N : Nat) => c84 (N := N) (C := C) (w := w) (ld := ld) (m := m) (cap := cap) (b := b) (hs.fr f) hi (fun N' H'' f' => c117 (N := N') (C := C) (w := w) (cap := cap) (b := b) ((hs.fr f).fr f') hi (w64_of (by omega)) (w64_of (by omega)) (w64_of (by omega)) (w64_of (by omega)) (w64_of (by omega)) (by omega))
 simp only [jobV,legV] at h84
 simp (disch:=first|(simp only [yk,seval];done)|omega|(simp only [yz]<;>omega)|fail) only [↓yp,yq0,yq1,yq2,yq3,yq4,yl,ys0,ys1,seval,zed,zee,zfr,zhw,h0']
 refine W_draw [2] rfl (by kernel_rfl) (by kernel_rfl) (by first|omega|(simp only [yz]<;>omega)) ?_
 simp (disch:=first|(simp only [yk,seval];done)|omega|(simp only [yz]<;>omega)|fail) only [↓yp,yq0,yq1,yq2,yq3,yq4,yl,ys0,ys1,seval,zed,zee,zfr,zhw,c83,jobV]
 rw [h84 _ (by repeat first|exact Fr.refl _|assumption|refine Fr.allocd ?_ _|refine Fr.put ?_ (by first|omega|(simp only [yz]<;>omega)) _)]
 simp (disch:=first|(simp only [yk,seval];done)|omega|(simp only [yz]<;>omega)|fail) only [↓yp,yq0,yq1,yq2,yq3,yq4,yl,ys0,ys1,seval,zed,zee,zfr,zhw,c83,jobV]
 rw [h84 _ (by repeat first|exact Fr.refl _|assumption|refine Fr.allocd ?_ _|refine Fr.put ?_ (by first|omega|(simp only [yz]<;>omega)) _)]
 simp (disch:=first|(simp only [yk,seval];done)|omega|(simp only [yz]<;>omega)|fail) only [↓yp,yq0,yq1,yq2,yq3,yq4,yl,ys0,ys1,seval,zed,zee,zfr,zhw,c83,jobV]
 rw [h84 _ (by repeat first|exact Fr.refl _|assumption|refine Fr.allocd ?_ _|refine Fr.put ?_ (by first|omega|(simp only [yz]<;>omega)) _)]
 simp (disch:=first|(simp only [yk,seval];done)|omega|(simp only [yz]<;>omega)|fail) only [↓yp,yq0,yq1,yq2,yq3,yq4,yl,ys0,ys1,seval,zed,zee,zfr,zhw,c83,jobV]
 rw [hpv]
 refine ⟨fun hA => ?_, fun hA => ?_⟩
 ·have hA' := of_decide_eq_true hA
  simp (disch:=first|(simp only [yk,seval];done)|omega|(simp only [yz]<;>omega)|fail) only [↓yp,yq0,yq1,yq2,yq3,yq4,yl,ys0,ys1,seval,zed,zee,zfr,zhw,hA']
 ·have hA' := of_decide_eq_false hA
  have hmy : mayL s b w ld = true := by
   cases h : mayL s b w ld with
   | true => rfl
   | false => rw [h] at hA'; exact absurd rfl hA'
  rw [hmy] at hA'
  simp (disch:=first|(simp only [yk,seval];done)|omega|(simp only [yz]<;>omega)|fail) only [↓yp,yq0,yq1,yq2,yq3,yq4,yl,ys0,ys1,seval,zed,zee,zfr,zhw,hmy]
  simp only [cond_true] at hA'
  rw [if_neg hA']
end Go.Am
namespace Go.Am
open Go.Proofs
variable {T : Tab} {P : Program} {N L : Nat} {H : AHeap} {Q : Bool → Value → AHeap → Prop}
theorem W_gen {r : Option Nat} {c : Code} {n : Nat} {e : VT} {ds : List Nat} {Q : Exit → ES → Prop} (I : VT → AHeap → Prop) (hi : I e H) (h : ∀ e H, I e H → W T P N r c L ⟨n, e, H, ds⟩ Q) : W T P N r c L ⟨n, e, H, ds⟩ Q := h e H hi
theorem okI_of {n : Int} (h : 0 ≤ n ∧ n ≤ 1000) : okI n := by
 unfold okI Lit.wf
 simp only [Bool.and_eq_true,decide_eq_true_eq]
 have h1 : IntKind.min .i64 = -9223372036854775808 := by kernel_rfl
 have h2 : IntKind.max .i64 = 9223372036854775807 := by kernel_rfl
 rw [h1, h2]
 omega
end Go.Am
namespace Go.Am
open Go.Proofs
variable {T : Tab} {P : Program} {N L : Nat} {H : AHeap} {Q : Bool → Value → AHeap → Prop}
theorem awake_r {ex : Exec} : acall tabA ex 18 [] H = some (true, .bool true, H, H.size) := nr rfl
end Go.Am
