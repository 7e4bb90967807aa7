import Derived.Test.YtaieoelbpnjoiaaT22
set_option linter.unusedSimpArgs false
set_option linter.unusedVariables false
namespace Go.Am
open Go.Proofs
variable {T : Tab} {P : Program} {N L : Nat} {H : AHeap} {Q : Bool → Value → AHeap → Prop}
structure Il (H : AHeap) (a : Option Addr) (l : List Int) : Prop where
 get : l ≠ [] → ∃ b o c, a = some ⟨b, o, none⟩ ∧ b < H.size ∧ cellsOf (H.get b) = some c ∧ ∀ i n, l[i]? = some n → c[o + i]? = some (.int .i64 n)
theorem Il.fr {H H' : AHeap} {a : Option Addr} {l : List Int} (h : Il H a l) (f : Fr H H') : Il H' a l := ⟨fun hl => by
 obtain ⟨b, o, c, h1, h2, h3, h4⟩ := h.get hl
 exact ⟨b, o, c, h1, Nat.lt_of_lt_of_le h2 f.size, by rw [f.same b h2]; exact h3, h4⟩⟩
theorem Il.nil {H : AHeap} {a : Option Addr} : Il H a [] := ⟨fun h => absurd rfl h⟩
theorem Il.one {H : AHeap} {k : Nat} {n : Int} (hk : k < H.size) (h : cellsOf (H.get k) = some [.int .i64 n]) : Il H (some ⟨k, 0, none⟩) [n] := ⟨fun _ => ⟨k, 0, [.int .i64 n], rfl, hk, h, fun i m hi => by
 cases i with
 | zero => simp at hi; subst hi; rfl
 | succ i => simp at hi⟩⟩
theorem c100 {a : Int} : acall tabA (aexec tabA Try.prog (N + 40)) 100 [.int .i64 a] H = some (true, .bool (wi a 0 240), H, H.size) := by
 refine call_quiet (k := 5) (rs := [.tmp 2]) rfl fn_100 rfl rfl rfl ?_ rfl
 simp (disch:=first|(simp only [yk,seval];done)|omega|(simp only [yz]<;>omega)|fail) only [↓yp,yq0,yq1,yq2,yq3,yq4,yl,ys0,ys1,seval,zed,zee,zfr,zhw,c78]
theorem c98 {a : Option Addr} {cap g : Nat} {l : List Int} {caps : List Value} {p : Int → Bool} (hs : Il H a l) (hl : l.length ≤ 18) (hp : ∀ (N : Nat) (H' : AHeap) (n : Int), Fr H H' → acall tabA (aexec tabA Try.prog (N + 60)) g (.int .i64 n :: caps) H' = some (true, .bool (p n), H', H'.size)) :
  acall tabA (aexec tabA Try.prog (N + 120)) 98 [.slice a l.length cap, .func (.func g) ⟨[]⟩ ⟨caps⟩] H = some (true, .bool (l.all p), H, H.size) := by
 refine call_quiet (k := 18) (rs := [.tmp 4]) rfl fn_98 rfl rfl rfl ?_ rfl
 simp (disch:=first|(simp only [yk,seval];done)|omega|(simp only [yz]<;>omega)|fail) only [↓yp,yq0,yq1,yq2,yq3,yq4,yl,ys0,ys1,seval,zed,zee,zfr,zhw,lenV_slice zir]
 refine W_while (n := 18) 70 (fun k e H' => ∃ i, k = l.length - i ∧ i ≤ l.length ∧ gt 18 e 9 = .int .i64 (i : Nat) ∧ gt 18 e 8 = .int .i64 l.length ∧ gt 18 e 7 = .slice a l.length cap ∧ gt 18 e 1 = .func (.func g) ⟨[]⟩ ⟨caps⟩ ∧ Fr H H' ∧ ∀ j s, j < i → l[j]? = some s → p s = true)
  ?_ 18 l.length ⟨0, by omega, by omega, by simp (disch:=first|(simp only [yk,seval];done)|omega|(simp only [yz]<;>omega)|fail) only [yg,seval] <;> rfl, by simp (disch:=first|(simp only [yk,seval];done)|omega|(simp only [yz]<;>omega)|fail) only [yg,seval], by simp (disch:=first|(simp only [yk,seval];done)|omega|(simp only [yz]<;>omega)|fail) only [yg,seval], by simp (disch:=first|(simp only [yk,seval];done)|omega|(simp only [yz]<;>omega)|fail) only [yg,seval], Fr.refl _, fun j s hj => by omega⟩ (by omega) (by omega)
 rintro M k e H' ⟨i, rfl, hi, g9, g8, g7, g1, fr, hj⟩
 have f0 := fr.size
 have fs := fr.same
 simp (disch:=first|(simp only [yk,seval];done)|omega|(simp only [yz]<;>omega)|fail) only [↓yp,yq0,yq1,yq2,yq3,yq4,yl,ys0,ys1,seval,zed,zee,zfr,zhw,g9,g8,g7,g1]
 refine ⟨fun hlt => ?_, fun hlt => ?_⟩
 ·have hi' : i < l.length := by simpa using hlt
  obtain ⟨b, o, c, rfl, hb, hc, hq⟩ := hs.get (by intro h; subst h; simp at hi')
  obtain ⟨s, his⟩ : ∃ s, l[i]? = some s := ⟨l[i], by simp [hi']⟩
  have hpi := hq i s his
  have hps := fun (N : Nat) => hp N H' s fr
  simp (disch:=first|(simp only [yk,seval];done)|omega|(simp only [yz]<;>omega)|fail) only [↓yp,yq0,yq1,yq2,yq3,yq4,yl,ys0,ys1,seval,zed,zee,zfr,zhw,g9,g8,g7,g1,fs,A_indexSlice zir,hc,hpi,hps]
  refine ⟨fun hA => ?_, fun hA => ?_⟩
  rotate_left
  ·have : l.all p = false := by rw [List.all_eq_false]; exact ⟨s, List.mem_of_getElem? his, by rw [hA]; simp⟩
   simp (disch:=first|(simp only [yk,seval];done)|omega|(simp only [yz]<;>omega)|fail) only [↓yp,yq0,yq1,yq2,yq3,yq4,yl,ys0,ys1,seval,zed,zee,zfr,zhw,hA,this]
  have hw2 : w64 ((i : Int) + 1) = ((i + 1 : Nat) : Int) := by rw [w64_of (by omega)]; omega
  simp (disch:=first|(simp only [yk,seval];done)|omega|(simp only [yz]<;>omega)|fail) only [↓yp,yq0,yq1,yq2,yq3,yq4,yl,ys0,ys1,seval,zed,zee,zfr,zhw,hA,g9,g8,g7,g1,hw2]
  refine ⟨l.length - (i + 1), by omega, i + 1, rfl, by omega, ?_, ?_, ?_, ?_, fr, ?_⟩
  ·simp (disch:=first|(simp only [yk,seval];done)|omega|(simp only [yz]<;>omega)|fail) only [yg,seval]
  ·simp (disch:=first|(simp only [yk,seval];done)|omega|(simp only [yz]<;>omega)|fail) only [yg,seval,g8]
  ·simp (disch:=first|(simp only [yk,seval];done)|omega|(simp only [yz]<;>omega)|fail) only [yg,seval,g7]
  ·simp (disch:=first|(simp only [yk,seval];done)|omega|(simp only [yz]<;>omega)|fail) only [yg,seval,g1]
  ·intro j t hj' ht
   by_cases e : j = i
   ·subst e; rw [his] at ht; cases ht; exact hA
   ·exact hj j t (by omega) ht
 ·have hi' : ¬ i < l.length := by simpa using hlt
  have : l.all p = true := by
   rw [List.all_eq_true]
   intro s hs'
   obtain ⟨j, hj'⟩ := List.getElem?_of_mem hs'
   have := (List.getElem?_eq_some_iff.1 hj').1
   exact hj j s (by omega) hj'
  simp (disch:=first|(simp only [yk,seval];done)|omega|(simp only [yz]<;>omega)|fail) only [↓yp,yq0,yq1,yq2,yq3,yq4,yl,ys0,ys1,seval,zed,zee,zfr,zhw,this]
theorem c98r {a : Option Addr} {cap g : Nat} {l : List Int} {caps : List Value} (p : Int → Bool) (hs : Il H a l) (hl : l.length ≤ 18) (hp : ∀ (N : Nat) (H' : AHeap) (n : Int), Fr H H' → acall tabA (aexec tabA Try.prog (N + 60)) g (.int .i64 n :: caps) H' = some (true, .bool (p n), H', H'.size))
  {M : Nat} (hM : 120 ≤ M) (hq : andK (L ≤ H.size) (Q true (.bool (l.all p)) H)) : resK (acall tabA (aexec tabA Try.prog M) 98 [.slice a l.length cap, .func (.func g) ⟨[]⟩ ⟨caps⟩] H) L Q := by
 obtain ⟨N, rfl⟩ : ∃ N, M = N + 120 := ⟨M - 120, by omega⟩
 rw [c98 hs hl hp]; exact hq
def asked (C : Int) (l : List Str) (w ld : Int) (cs ss ms : List Int) : Int :=
 if chk C l ≠ 0 then chk C l else if (off w 1 9 || off ld 0 9) = true then 4 else if (cs.any fun n => off n 0 (C - 1)) = true then 2 else if (ss.any fun n => off n 0 ((l.length : Int) - 1)) = true then 2 else if (ms.any fun n => off n 0 240) = true then 4 else 0
theorem c82 {a ac as' am : Option Addr} {cap kc ks km : Nat} {l : List Str} {cs ss ms : List Int} {C w ld : Int} (hs : Sl H a l) (hl : l.length ≤ 18) (hc : Il H ac cs) (hcl : cs.length ≤ 18) (hss : Il H as' ss) (hsl : ss.length ≤ 18) (hm : Il H am ms) (hml : ms.length ≤ 18) :
  acall tabA (aexec tabA Try.prog (N + 400)) 82 [.agg ⟨[.int .i64 C, .slice a l.length cap]⟩, .agg ⟨[.int .i64 w, .int .i64 ld]⟩, .slice ac cs.length kc, .slice as' ss.length ks, .slice am ms.length km] H = some (true, .int .i64 (asked C l w ld cs ss ms), H, H.size) := by
 refine call_quiet (k := 48) (rs := [.tmp 10]) rfl fn_82 rfl rfl rfl ?_ rfl
 simp (disch:=first|(simp only [yk,seval];done)|omega|(simp only [yz]<;>omega)|fail) only [↓yp,yq0,yq1,yq2,yq3,yq4,yl,ys0,ys1,seval,zed,zee,zfr,zhw]
 rw [c22 (hs.fr (by repeat first|exact Fr.refl _|assumption|refine Fr.allocd ?_ _|refine Fr.put ?_ (by first|omega|(simp only [yz]<;>omega)) _)) hl]
 simp (disch:=first|(simp only [yk,seval];done)|omega|(simp only [yz]<;>omega)|fail) only [↓yp,yq0,yq1,yq2,yq3,yq4,yl,ys0,ys1,seval,zed,zee,zfr,zhw]
 by_cases h0 : chk C l = 0
 rotate_left
 ·have h0' : decide (chk C l = 0) = false := by simpa using h0
  simp (disch:=first|(simp only [yk,seval];done)|omega|(simp only [yz]<;>omega)|fail) only [↓yp,yq0,yq1,yq2,yq3,yq4,yl,ys0,ys1,seval,zed,zee,zfr,zhw,h0',asked,h0,ne_eq,not_false_eq_true]
 have h0' : decide (chk C l = 0) = true := by simpa using h0
 simp (disch:=first|(simp only [yk,seval];done)|omega|(simp only [yz]<;>omega)|fail) only [↓yp,yq0,yq1,yq2,yq3,yq4,yl,ys0,ys1,seval,zed,zee,zfr,zhw,h0',c78]
 refine ⟨fun hA => ?_, fun hA => ?_⟩
 rotate_left
 ·have : off w 1 9 = true := by rw [wi_off] at hA; simpa using hA
  simp (disch:=first|(simp only [yk,seval];done)|omega|(simp only [yz]<;>omega)|fail) only [↓yp,yq0,yq1,yq2,yq3,yq4,yl,ys0,ys1,seval,zed,zee,zfr,zhw,hA,asked,h0,this,ne_eq,not_true_eq_false]
 have hA' : off w 1 9 = false := by rw [wi_off] at hA; simpa using hA
 simp (disch:=first|(simp only [yk,seval];done)|omega|(simp only [yz]<;>omega)|fail) only [↓yp,yq0,yq1,yq2,yq3,yq4,yl,ys0,ys1,seval,zed,zee,zfr,zhw,hA,c78]
 refine ⟨fun hB => ?_, fun hB => ?_⟩
 rotate_left
 ·have : off ld 0 9 = true := by rw [wi_off] at hB; simpa using hB
  simp (disch:=first|(simp only [yk,seval];done)|omega|(simp only [yz]<;>omega)|fail) only [↓yp,yq0,yq1,yq2,yq3,yq4,yl,ys0,ys1,seval,zed,zee,zfr,zhw,hA,hB,asked,h0,hA',this,ne_eq,not_true_eq_false]
 have hB' : off ld 0 9 = false := by rw [wi_off] at hB; simpa using hB
 simp (disch:=first|(simp only [yk,seval];done)|omega|(simp only [yz]<;>omega)|fail) only [↓yp,yq0,yq1,yq2,yq3,yq4,yl,ys0,ys1,seval,zed,zee,zfr,zhw,hA,hB,c76]
 have hC := off_iff.1 (chk_ok h0).1
 have hwC : w64 (C - 1) = C - 1 := w64_of (by omega)
 have hwl : w64 ((l.length : Int) - 1) = (l.length : Int) - 1 := w64_of (by omega)
 have hnn : ¬ (off w 1 9 || off ld 0 9) = true := by rw [hA', hB']; simp
 refine c98r (fun n => wi n 0 (w64 (C - 1))) (hc.fr (by repeat first|exact Fr.refl _|assumption|refine Fr.allocd ?_ _|refine Fr.put ?_ (by first|omega|(simp only [yz]<;>omega)) _)) hcl (fun N' H' n hf => ?_) (by omega) ?_
 ·exact c116 (by rw [hf.same _ (by first|omega|(simp only [yz]<;>omega))]; simp (disch:=first|(simp only [yk,seval];done)|omega|(simp only [yz]<;>omega)|fail) only [↓yp,yq0,yq1,yq2,yq3,yq4,yl,ys0,ys1,seval,zed,zee,zfr,zhw])
 rw [all_any (q := fun n => off n 0 (C - 1)) (fun n => by rw [hwC, wi_off])]
 simp (disch:=first|(simp only [yk,seval];done)|omega|(simp only [yz]<;>omega)|fail) only [↓yp,yq0,yq1,yq2,yq3,yq4,yl,ys0,ys1,seval,zed,zee,zfr,zhw]
 refine ⟨fun hD => ?_, fun hD => ?_⟩
 ·simp (disch:=first|(simp only [yk,seval];done)|omega|(simp only [yz]<;>omega)|fail) only [↓yp,yq0,yq1,yq2,yq3,yq4,yl,ys0,ys1,seval,zed,zee,zfr,zhw,hD]
  unfold asked
  rw [if_neg (by simpa using h0), if_neg hnn, if_pos hD]
 simp (disch:=first|(simp only [yk,seval];done)|omega|(simp only [yz]<;>omega)|fail) only [↓yp,yq0,yq1,yq2,yq3,yq4,yl,ys0,ys1,seval,zed,zee,zfr,zhw,hD,lenV_slice zio,c76]
 refine c98r (fun n => wi n 0 (w64 ((l.length : Int) - 1))) (hss.fr (by repeat first|exact Fr.refl _|assumption|refine Fr.allocd ?_ _|refine Fr.put ?_ (by first|omega|(simp only [yz]<;>omega)) _)) hsl (fun N' H' n hf => ?_) (by omega) ?_
 ·exact c116 (by rw [hf.same _ (by first|omega|(simp only [yz]<;>omega))]; simp (disch:=first|(simp only [yk,seval];done)|omega|(simp only [yz]<;>omega)|fail) only [↓yp,yq0,yq1,yq2,yq3,yq4,yl,ys0,ys1,seval,zed,zee,zfr,zhw])
 rw [all_any (q := fun n => off n 0 ((l.length : Int) - 1)) (fun n => by rw [hwl, wi_off])]
 simp (disch:=first|(simp only [yk,seval];done)|omega|(simp only [yz]<;>omega)|fail) only [↓yp,yq0,yq1,yq2,yq3,yq4,yl,ys0,ys1,seval,zed,zee,zfr,zhw,hD]
 have hD' : ¬ (cs.any fun n => off n 0 (C - 1)) = true := by rw [hD]; simp
 refine ⟨fun hE => ?_, fun hE => ?_⟩
 ·simp (disch:=first|(simp only [yk,seval];done)|omega|(simp only [yz]<;>omega)|fail) only [↓yp,yq0,yq1,yq2,yq3,yq4,yl,ys0,ys1,seval,zed,zee,zfr,zhw,hD,hE]
  unfold asked
  rw [if_neg (by simpa using h0), if_neg hnn, if_neg hD', if_pos hE]
 simp (disch:=first|(simp only [yk,seval];done)|omega|(simp only [yz]<;>omega)|fail) only [↓yp,yq0,yq1,yq2,yq3,yq4,yl,ys0,ys1,seval,zed,zee,zfr,zhw,hD,hE]
 refine c98r (fun n => wi n 0 240) (hm.fr (by repeat first|exact Fr.refl _|assumption|refine Fr.allocd ?_ _|refine Fr.put ?_ (by first|omega|(simp only [yz]<;>omega)) _)) hml (fun N' H' n hf => c100) (by omega) ?_
 rw [all_any (q := fun n => off n 0 240) (fun n => by rw [wi_off])]
 simp (disch:=first|(simp only [yk,seval];done)|omega|(simp only [yz]<;>omega)|fail) only [↓yp,yq0,yq1,yq2,yq3,yq4,yl,ys0,ys1,seval,zed,zee,zfr,zhw,hD,hE]
 have hE' : ¬ (ss.any fun n => off n 0 ((l.length : Int) - 1)) = true := by rw [hE]; simp
 refine ⟨fun hF => ?_, fun hF => ?_⟩
 ·simp (disch:=first|(simp only [yk,seval];done)|omega|(simp only [yz]<;>omega)|fail) only [↓yp,yq0,yq1,yq2,yq3,yq4,yl,ys0,ys1,seval,zed,zee,zfr,zhw,hF]
  unfold asked
  rw [if_neg (by simpa using h0), if_neg hnn, if_neg hD', if_neg hE', if_pos hF]
 ·simp (disch:=first|(simp only [yk,seval];done)|omega|(simp only [yz]<;>omega)|fail) only [↓yp,yq0,yq1,yq2,yq3,yq4,yl,ys0,ys1,seval,zed,zee,zfr,zhw,hF]
  unfold asked
  rw [if_neg (by simpa using h0), if_neg hnn, if_neg hD', if_neg hE', if_neg (by rw [hF]; simp)]
end Go.Am
namespace Go.Am
open Go.Proofs
variable {T : Tab} {P : Program} {N L : Nat} {H : AHeap} {Q : Bool → Value → AHeap → Prop}
end Go.Am
