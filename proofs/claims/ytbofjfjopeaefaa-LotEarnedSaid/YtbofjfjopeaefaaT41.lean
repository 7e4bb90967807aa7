import Derived.Test.YtbofjfjopeaefaaT38
import Derived.Test.YtbofjfjopeaefaaT40
import Derived.Test.YtbofjfjopeaefaaT39
set_option linter.unusedSimpArgs false
set_option linter.unusedVariables false
namespace Go.Am.K
open Go.Proofs
variable {T : Tab} {P : Program} {N L : Nat} {H H' H'' : AHeap} {Q : Bool → Value → AHeap → Prop}
def roundL (lb : Nat) (blk : ABlk) (H' : AHeap) (J : Nat → AHeap → Prop) (k : Nat) (_ : Bool) (v : Value) (H'' : AHeap) : Prop := v = .bool true ∧ (H''.get (lb + 1) = blk ∧ H''.get lb = .defer ∧ J k H'') ∧ H'.size ≤ H''.size ∧ ∀ j, lb + 2 ≤ j → j < H'.size → H''.get j = H'.get j
section
variable {m0 m1 m2 m3 : Int} {b1 K₀ : Nat}
theorem W_lots {n g p : Nat} {e : VT} {ds : List Nat} {assign body : Code} {J : Nat → AHeap → Prop} (hm : (0 ≤ m0 ∧ m0 ≤ 6) ∧ (0 ≤ m1 ∧ m1 ≤ 6) ∧ (0 ≤ m2 ∧ m2 ≤ 6) ∧ (0 ≤ m3 ∧ m3 ≤ 6))
  (up : ∀ k H' H'', J k H' → Fr H' H'' → J k H'') (pt : ∀ k H' H'' j, J k H' → H.size + 1 ≤ j → H''.size = H'.size → (∀ i, i ≠ j → H''.get i = H'.get i) → J k H'') (sz : ∀ k H', J k H' → H.size + 2 ≤ H'.size)
  (mb : ∀ k H', J k H' → H'.get b1 = .rw [.int .i64 m0, .int .i64 m1, .int .i64 m2, .int .i64 m3] 119 false []) (hb1 : b1 < H.size) (hdn : ∀ k Ha Hb, J 0 Ha → J k Hb → Fr Ha Hb → J k Ha) (hL : L ≤ H.size) (hp : p < n)
  (hg : gt n e g = .func (.func 131) ⟨[]⟩ ⟨[.pointer (some ⟨b1, 0, none⟩)]⟩)
  (h₀ : ∀ blk, J 0 ((H.alloc .defer).alloc blk))
  (hy : ∀ M, K₀ ≤ M → ∀ (k : Nat) H' (l : List Int) e', J k H' → LV [m0, m1, m2, m3] l → vl [m0, m1, m2, m3] l = k → H'.get (H.size + 1) = .loop .ready none (lst n e) #[p] assign body H.size → H'.get H.size = .defer → gt n e' p = .agg ⟨tv l⟩ → (∀ j, j ≠ p → gt n e' j = gt n e j) →
   W tabA Try.prog M (some (H.size + 1)) assign L ⟨n, e', H', []⟩ (midY tabA Try.prog M (H.size + 1) L body (roundL H.size (.loop .ready none (lst n e) #[p] assign body H.size) H' J (k + 1))))
  {M : Nat} (hM : K₀ + 2801 ≤ M) {Q : Exit → ES → Prop} (hq : ∀ H'' blk, J (pn [m0, m1, m2, m3]).toNat H'' → H''.get H.size = .defer → Q .normal ⟨n, e, H''.put (H.size + 1) blk, H.size :: ds⟩) :
  W tabA Try.prog M none (.rangeFunc (.tmp g) #[p] assign body) L ⟨n, e, H, ds⟩ Q := by
 obtain ⟨M, rfl⟩ : ∃ M', M = M' + 1 := ⟨M - 1, by omega⟩
 refine W_range (f := 131) (first := []) (cap := [.pointer (some ⟨b1, 0, none⟩)]) (by rw [aenv_tmp, hg]) hL ?_
 have hsz : ((H.alloc .defer).alloc (.loop .ready none (lst n e) #[p] assign body H.size)).size = H.size + 2 := by rw [size_alloc, size_alloc]
 refine c131 (I := fun k H' => H'.get (H.size + 1) = .loop .ready none (lst n e) #[p] assign body H.size ∧ H'.get H.size = .defer ∧ J k H') (base := H.size + 2) (K₀ := K₀) (lb := H.size + 1) (b1 := b1) hm ?_ ?_ (fun k H' h => sz _ _ h.2.2) (fun k H' h => mb _ _ h.2.2) (by omega) ?_ (by omega) (by omega) ?_ ?_ (by omega) ?_
 ·rintro k H' H'' ⟨h1, h2, h3⟩ fr
  have := sz _ _ h3
  exact ⟨by rw [fr.same _ (by omega)]; exact h1, by rw [fr.same _ (by omega)]; exact h2, up _ _ _ h3 fr⟩
 ·rintro k H' H'' j ⟨h1, h2, h3⟩ hj hs ho
  exact ⟨by rw [ho _ (by omega)]; exact h1, by rw [ho _ (by omega)]; exact h2, pt _ _ _ j h3 (by omega) hs ho⟩
 ·rintro k H'' ⟨h1, h2, h3⟩ fr
  exact ⟨by rw [← fr.same _ (by omega)]; exact h1, by rw [← fr.same _ (by omega)]; exact h2, hdn _ _ _ (h₀ _) h3 fr⟩
 ·rintro M' hM' k H' l ⟨h1, h2, h3⟩ hv hk
  refine resK_mono (yield_run1 (Q := roundL H.size (.loop .ready none (lst n e) #[p] assign body H.size) H' J (k + 1)) h1 hp (by omega) fun e' he he' => hy M' hM' k H' l e' h3 hv hk h1 h2 he he') ?_
  rintro q v H'' ⟨k1, k2, k3, k4⟩
  exact ⟨k1, k2, k3, k4⟩
 ·refine ⟨?_, ?_, h₀ _⟩
  ·rw [get_alloc_eq (by rw [size_alloc])]
  ·rw [get_alloc_lt (by rw [size_alloc]; omega), get_alloc_same]
 ·rintro q v H'' ⟨h1, h2, h3⟩
  refine ⟨.ready, _, _, _, _, _, (fun h => by cases h), h1, hq _ _ h3 h2⟩
end
section
variable {a a' : Option Addr} {cap cap' : Nat} {ps : List Pk} {gs : List Gd} {lots : Int} {g lo mp : Value}
def stk (ps : List Pk) : List Int := pt (ps.map Pk.s) ps.length
theorem stk_len (h : ps.length ≤ 4) : (stk ps).length = 4 := pt_len (by rw [List.length_map]; omega) (by rw [List.length_map]; omega)
set_option maxHeartbeats 2000000 in
theorem c102 (hs : Rw pkE H a ps) (hl : ps.length ≤ 4) : acall tabA (aexec tabA Try.prog (N + 150)) 102 [.agg ⟨[.slice a ps.length cap, g, lo, mp]⟩] H = some (true, .agg ⟨tv (stk ps)⟩, H, H.size) := by
 refine call_quiet (k := 21) (rs := [.cell 2 119]) rfl fn_102 rfl rfl rfl ?_ (gr_tv _)
 have hf0 : [.int .i64 0, .int .i64 0, .int .i64 0, .int .i64 0] = tv (pt (ps.map Pk.s) 0) := rfl
 have hml : (ps.map Pk.s).length = ps.length := List.length_map ..
 simp (disch:=first|(simp only [yk,seval];done)|omega|(simp only [yz]<;>omega)|fail) only [↓yp,yA,ys0,ys1,seval,fitB,newC,endD,endR,yrg,lenV_slice st_esS_22]
 refine W_while (n := 21) 100 (fun k e H' => ∃ i : Nat, k = ps.length - i ∧ i ≤ ps.length ∧ gt 21 e 10 = .int .i64 (i : Nat) ∧ gt 21 e 9 = .int .i64 ps.length ∧ gt 21 e 8 = .slice a ps.length cap ∧ gt 21 e 2 = .pointer (some ⟨H.size + 1, 0, none⟩) ∧ gt 21 e 3 = .pointer (some ⟨H.size + 1 + 1, 0, none⟩) ∧ Fr H H' ∧ H.size + 1 + 1 < H'.size ∧
   H'.get (H.size + 1) = .rw [.int .i64 0, .int .i64 0, .int .i64 0, .int .i64 0] 119 false [] ∧ H'.get (H.size + 1 + 1) = .rw (tv (pt (ps.map Pk.s) i)) 119 false [])
  ?_ 4 ps.length ⟨0, by omega, by omega, by simp (disch:=first|(simp only [yk,seval];done)|omega|(simp only [yz]<;>omega)|fail) only [yg,seval] <;> rfl, by simp (disch:=first|(simp only [yk,seval];done)|omega|(simp only [yz]<;>omega)|fail) only [yg,seval], by simp (disch:=first|(simp only [yk,seval];done)|omega|(simp only [yz]<;>omega)|fail) only [yg,seval], by simp (disch:=first|(simp only [yk,seval];done)|omega|(simp only [yz]<;>omega)|fail) only [yg,seval], by simp (disch:=first|(simp only [yk,seval];done)|omega|(simp only [yz]<;>omega)|fail) only [yg,seval], by (repeat (first | exact Fr.refl _ | assumption | refine Fr.allocd ?_ _ | refine Fr.put ?_ (by first | omega | (simp only [yz] <;> omega)) _)), by (first | omega | (simp only [yz] <;> omega)), by simp (disch:=first|(simp only [yk,seval];done)|omega|(simp only [yz]<;>omega)|fail) only [yg,seval], by simp (disch:=first|(simp only [yk,seval];done)|omega|(simp only [yz]<;>omega)|fail) only [yg,seval] <;> rfl⟩ (by omega) (by omega)
 rintro M k e H' ⟨i, rfl, hi, g10, g9, g8, g2, g3, fr, hlt, b2, b3⟩
 have f0 := fr.size
 have fs := fr.same
 simp (disch:=first|(simp only [yk,seval];done)|omega|(simp only [yz]<;>omega)|fail) only [↓yp,yA,ys0,ys1,seval,fitB,newC,endD,endR,yrg,g10,g9]
 refine ⟨fun hA => ?_, fun hA => ?_⟩
 ·have hi' : i < ps.length := by simpa using hA
  obtain ⟨p, hp⟩ : ∃ p, ps[i]? = some p := ⟨ps[i], by simp [hi']⟩
  obtain ⟨b, o, c, rfl, hb1, hc, hq⟩ := hs.at_ hp
  have q : part c (o + i * 4) 5 = some (.agg ⟨Pk.enc p⟩) := part_of hq rfl
  have hc' : cellsOf (H'.get b) = some c := by rw [fs b hb1]; exact hc
  have hpi : (ps.map Pk.s)[i]? = some p.s := by rw [List.getElem?_map, hp]; rfl
  have hnx := pt_next hpi (by omega)
  have hpl : (tv (pt (ps.map Pk.s) i)).length = 4 := by rw [tv_len, pt_len (by omega) (by omega)]
  have hfit : decide (i ≤ 3) = true := by simp; omega
  have hset : newC i [.int .i64 p.s] (tv (pt (ps.map Pk.s) i)) = tv (pt (ps.map Pk.s) (i + 1)) := by
   rw [newC_tv (by rw [pt_len (by omega) (by omega)]; omega), ← hnx]
  have hw2 : w64 ((i : Int) + 1) = ((i + 1 : Nat) : Int) := by rw [w64_of (by omega)]; omega
  simp only [Pk.enc] at q
  simp (disch:=first|(simp only [yk,seval];done)|omega|(simp only [yz]<;>omega)|fail) only [↓yp,yA,ys0,ys1,seval,fitB,newC,endD,endR,yrg,g10,g9,g8,g3,A_indexSlice st_esS_22,hc',q,A_indexArr st_arS_119,b3,hpl,hfit,hset,hw2]
  refine ⟨ps.length - (i + 1), by omega, i + 1, rfl, by omega, ?_, ?_, ?_, ?_, ?_, by (repeat (first | exact Fr.refl _ | assumption | refine Fr.allocd ?_ _ | refine Fr.put ?_ (by first | omega | (simp only [yz] <;> omega)) _)), by (first | omega | (simp only [yz] <;> omega)), ?_, ?_⟩
  ·simp (disch:=first|(simp only [yk,seval];done)|omega|(simp only [yz]<;>omega)|fail) only [yg,seval]
  ·simp (disch:=first|(simp only [yk,seval];done)|omega|(simp only [yz]<;>omega)|fail) only [yg,seval,g9]
  ·simp (disch:=first|(simp only [yk,seval];done)|omega|(simp only [yz]<;>omega)|fail) only [yg,seval,g8]
  ·simp (disch:=first|(simp only [yk,seval];done)|omega|(simp only [yz]<;>omega)|fail) only [yg,seval,g2]
  ·simp (disch:=first|(simp only [yk,seval];done)|omega|(simp only [yz]<;>omega)|fail) only [yg,seval,g3]
  ·simp (disch:=first|(simp only [yk,seval];done)|omega|(simp only [yz]<;>omega)|fail) only [yg,seval,b2]
  ·simp (disch:=first|(simp only [yk,seval];done)|omega|(simp only [yz]<;>omega)|fail) only [yg,seval]
   rw [← hset]; rfl
 ·have hi' : i = ps.length := by have := of_decide_eq_false hA; omega
  subst hi'
  have hl4 : (tv (stk ps)).length = 4 := by rw [tv_len, stk_len hl]
  have hpart : part (tv (stk ps)) 0 5 = some (.agg ⟨tv (stk ps)⟩) := part_tv (stk_len hl)
  have h0 : newC 0 (tv (stk ps)) [Value.int .i64 0, .int .i64 0, .int .i64 0, .int .i64 0] = tv (stk ps) := by
   unfold newC
   rw [hl4]
   simp
  have ho := one_tv (stk ps)
  obtain ⟨t, ht⟩ : ∃ t, tv (stk ps) = t := ⟨_, rfl⟩
  rw [show tv (pt (ps.map Pk.s) ps.length) = t from ht] at b3
  rw [ht] at hl4 hpart h0 ho ⊢
  simp (disch:=first|(simp only [yk,seval];done)|omega|(simp only [yz]<;>omega)|fail) only [↓yp,yA,ys0,ys1,seval,fitB,newC,endD,endR,yrg,g2,g3,b2,b3,hl4,hpart,h0,ho]
theorem c123 {m : List Int} (hm : m.length = 4) (hL : L ≤ H.size) : resK (acall tabA (aexec tabA Try.prog (N + 40)) 123 [.agg ⟨tv m⟩] H) L Q = Q false (.func (.func 131) ⟨[]⟩ ⟨[.pointer (some ⟨H.size, 0, none⟩)]⟩) (H.alloc (.rw (tv m) 119 false [])) := by
 refine call_res (k := 4) (rs := [.tmp 2]) rfl fn_123 rfl rfl rfl ?_ rfl hL
 have hl4 : (tv m).length = 4 := by rw [tv_len, hm]
 simp (disch:=first|(simp only [yk,seval];done)|omega|(simp only [yz]<;>omega)|fail) only [↓yp,yA,ys0,ys1,seval,fitB,newC,endD,endR,yrg]
end
end Go.Am.K
namespace Go.Am.K
open Go.Proofs
variable {T : Tab} {P : Program} {N L : Nat} {H H' H'' : AHeap} {Q : Bool → Value → AHeap → Prop}
section
variable {a a' : Option Addr} {cap cap' mk : Nat} {ps : List Pk} {gs : List Gd} {lots : Int} {g : Gd} {l x : List Int} {k : Nat}
theorem stk_in (hk : ∀ p ∈ ps, p.Ok) : ∀ n ∈ stk ps, 0 ≤ n ∧ n ≤ 6 := fun n hn => by
 unfold stk pt at hn
 rcases List.mem_append.1 hn with hn | hn
 ·obtain ⟨p, hp, rfl⟩ := List.mem_map.1 (List.mem_of_mem_take hn)
  have := (hk p hp).s
  omega
 ·have := List.eq_of_mem_replicate hn; omega
theorem LV_in : ∀ {m l : List Int}, LV m l → (∀ n ∈ m, n ≤ 6) → ∀ n ∈ l, 0 ≤ n ∧ n ≤ 6
 | [], [], _, _ => fun n hn => by simp at hn
 | m :: ms, y :: ys, h, hm => fun n hn => by
  rcases List.mem_cons.1 hn with rfl | hn
  ·have := hm m (by simp)
   have := h.1
   omega
  ·exact LV_in h.2 (fun n hn => hm n (by simp [hn])) n hn
 | [], _ :: _, h, _ => h.elim
 | _ :: _, [], h, _ => h.elim
end
end Go.Am.K
namespace Go.Am.K
open Go.Proofs
variable {T : Tab} {P : Program} {N L : Nat} {H H' H'' : AHeap} {Q : Bool → Value → AHeap → Prop}
theorem binV_nil_some {ty : TypeId} {x y : Operand} {l c z : Nat} {a : Addr} (h : esS T ty = some z) : binV T P .eql ty x y (.slice (some a) l c) (.slice none 0 0) = some (.bool false) := by
 unfold esS at h
 unfold binV nilV
 rw [show gr (.slice (some a) l c) = false from rfl]
 simp only [Bool.false_and,cond_false]
 cases hu : T.und ty with
 | none => rw [hu] at h; cases h
 | some d => cases d <;> first | rfl | (rw [hu] at h; cases h)
section
variable {a a' : Option Addr} {cap cap' : Nat} {ps : List Pk} {gs : List Gd} {lots : Int}
def kn (p : Pk) (n : Int) : Pk := ⟨p.s, p.s, p.s, n⟩
end
end Go.Am.K
