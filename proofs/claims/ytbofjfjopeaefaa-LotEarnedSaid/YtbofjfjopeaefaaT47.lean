import Derived.Test.YtbofjfjopeaefaaT45
import Derived.Test.YtbofjfjopeaefaaT46
import Derived.Test.YtbofjfjopeaefaaT41
set_option linter.unusedSimpArgs false
set_option linter.unusedVariables false
namespace Go.Am.K
open Go.Proofs
variable {T : Tab} {P : Program} {N L : Nat} {H H' H'' : AHeap} {Q : Bool → Value → AHeap → Prop}
def rowE : Enc (Option Addr × Nat × Nat) := ⟨fun r => [.slice r.1 r.2.1 r.2.2], 1, fun _ => rfl, fun _ => rfl⟩
def PlnR (H : AHeap) (pa : Option Addr) (xs : List (List Int)) : Prop := ∃ rs : List (Option Addr × Nat × Nat), rs.length = xs.length ∧ Rw rowE H pa rs ∧ ∀ (j : Nat) (r : Option Addr × Nat × Nat) (x : List Int), rs[j]? = some r → xs[j]? = some x → r.2.1 = x.length ∧ Rw intE H r.1 x
theorem PlnR.fr {pa : Option Addr} {xs : List (List Int)} (h : PlnR H pa xs) (f : Fr H H') : PlnR H' pa xs := by
 obtain ⟨rs, h1, h2, h3⟩ := h
 exact ⟨rs, h1, h2.fr f, fun j r x hr hx => ⟨(h3 j r x hr hx).1, (h3 j r x hr hx).2.fr f⟩⟩
theorem PlnR.at_ {pa : Option Addr} {xs : List (List Int)} {j : Nat} {x : List Int} (h : PlnR H pa xs) (hx : xs[j]? = some x) : ∃ b o c ra rc, pa = some ⟨b, o, none⟩ ∧ b < H.size ∧ cellsOf (H.get b) = some c ∧ c[o + j]? = some (.slice ra x.length rc) ∧ Rw intE H ra x := by
 obtain ⟨rs, h1, h2, h3⟩ := h
 have hj := (List.getElem?_eq_some_iff.1 hx).1
 obtain ⟨r, hr⟩ : ∃ r, rs[j]? = some r := ⟨rs[j]'(by omega), List.getElem?_eq_getElem _⟩
 obtain ⟨e1, e2⟩ := h3 j r x hr hx
 obtain ⟨b, o, c, e, hb, hc, hq⟩ := h2.at_ hr
 have := cell_of (k := o + j * 1) hq
 rw [Nat.mul_one, e1] at this
 exact ⟨b, o, c, r.1, r.2.2, e, hb, hc, this, e2⟩
def k4of (x : List Int) : K4 := ((mx x)[0]?.getD 0, (mx x)[1]?.getD 0, (mx x)[2]?.getD 0, (mx x)[3]?.getD 0)
theorem k4of_l4 {x : List Int} (h : x.length ≤ 4) : l4 (k4of x) = mx x := by
 obtain ⟨a, b, c, d, e⟩ := four (mx_len h)
 unfold k4of l4
 rw [e]; rfl
structure ER (ps : List Pk) (gs : List Gd) (mk i7 : Nat) (H2 H' : AHeap) (xs : List (List Int)) (j : Nat) (v8 v9 : Value) (S1 S2 : Nat → Prop) : Prop where
 r1 : Gw H' i7 S1 v8 j (k4E.fl ((xs.take j).map k4of)) 119 4
 r2 : Gw H' i7 S2 v9 j (intE.fl ((xs.take j).map fun x => brg ps gs (mx x))) 3 1
 dj : ∀ q, S1 q → ¬ S2 q
 br : BrI ps gs (H'.get mk)
 same : ∀ q, q ≤ i7 → q ≠ mk → H'.get q = H2.get q
 sz : i7 < H'.size
theorem isum_totL {b : List Int → Int} {xs : List (List Int)} {f : List Int → List Int} : isum (xs.map fun x => b (f x)) = totL b (xs.map f) := by
 induction xs with
 | nil => rfl
 | cons x xs ih => show b (f x) + isum _ = b (f x) + totL b _; rw [ih]
theorem Gw.sl {α : Type} {E : Enc α} {l : List α} {tb n el : Nat} {S : Nat → Prop} {v : Value} (g : Gw H tb S v n (E.fl l) el E.z) (hl : l.length = n) : ∃ x c, v = .slice x n c ∧ Rw E H x l := by
 by_cases hi : n = 0
 ·have : l = [] := List.length_eq_zero_iff.1 (by omega)
  subst this
  exact ⟨Option.none, 0, by rw [g.nil hi, hi], Rw.nil⟩
 ·obtain ⟨b, al, rfl, s1, h2, -⟩ := g.cons hi
  exact ⟨_, _, rfl, Rw.of (r := []) (g.own _ s1).2 (by rw [h2]; rfl) (by rw [List.append_nil])⟩
section
variable {a a' pa : Option Addr} {cap cap' pc k : Nat} {ps : List Pk} {gs : List Gd} {xs : List (List Int)}
set_option maxHeartbeats 8000000 in
set_option maxRecDepth 10000 in
theorem c46 (h : StR H a a' ps gs (k : Int)) (hx : PlnR H pa xs) (hxl : xs.length ≤ k) (hlo : ∀ x ∈ xs, LotOk ps x) (hpl : Pl (stk ps) k (xs.map mx)) (hL : L ≤ H.size) {M : Nat} (hM : 3000 ≤ M)
  (hq : ∀ f H', Fr H H' → Q f (.tuple ⟨[.int .i64 (totL (brg ps gs) (xs.map mx)), .int .i64 0]⟩) H') :
  resK (acall tabA (aexec tabA Try.prog M) 46 [.agg ⟨[.slice a ps.length cap, .slice a' gs.length cap', .int .i64 (k : Int)]⟩, .slice pa xs.length pc] H) L Q := by
 obtain ⟨N, rfl⟩ : ∃ N, M = N + 3000 := ⟨M - 3000, by omega⟩
 refine call_keep tabA_fr (k := 58) (rs := [.tmp 4, .tmp 5]) (R := fun v H' => v = .tuple ⟨[.int .i64 (totL (brg ps gs) (xs.map mx)), .int .i64 0]⟩ ∧ Fr H H') rfl fn_46 rfl rfl rfl hL ?_ ?_ ?_
 rotate_left
 ·rintro v H' ⟨rfl, h1⟩; exact hq _ _ h1
 ·rintro v H' ⟨rfl, h1⟩ _ _; exact hq _ _ (Fr.refl _)
 have hst := h.st
 have hl1 := hst.l1
 have hl4 := hst.l4
 have hk3 := hst.lo
 have fr0 : Fr H (H.alloc (.rw [.slice a ps.length cap, .slice a' gs.length cap', .int .i64 (k : Int)] 25 false [])) := by (repeat (first | exact Fr.refl _ | assumption | refine Fr.allocd ?_ _ | refine Fr.put ?_ (by first | omega | (simp only [yz] <;> omega)) _))
 have h16 := fun (N : Nat) => c16 (N := N) (cap := cap) (cap' := cap') (lots := (k : Int)) (h.hs.fr fr0) (h.hg.fr fr0)
 rw [h.ok] at h16
 have d00 : decide ((0 : Int) = 0) = true := rfl
 have dlk : decide ((k : Int) < (xs.length : Int)) = false := by simp; omega
 simp (disch:=first|(simp only [yk,seval];done)|omega|(simp only [yz]<;>omega)|fail) only [↓yp,yA,ys0,ys1,seval,fitB,newC,endD,endR,yrg,h16,d00,lenV_slice st_esS_82,dlk]
 refine c77 (by first|omega|(simp only [yz]<;>omega)) (by omega) ?_
 intro mk H1 fr1 k1 k2 k3
 have s1 := fr1.size
 have o1 := fr1.same
 simp only [size_alloc] at s1 k1 o1
 have frA : Fr H H1 := fr0.trans fr1
 have b2 : H1.get H.size = .rw [.slice a ps.length cap, .slice a' gs.length cap', .int .i64 (k : Int)] 25 false [] := by rw [o1 _ (by omega)]; exact get_alloc_same
 simp (disch:=first|(simp only [yk,seval];done)|omega|(simp only [yz]<;>omega)|fail) only [↓yp,yA,ys0,ys1,seval,fitB,newC,endD,endR,yrg,one_map,one_map',lenV_slice st_esS_82,b2]
 obtain ⟨G, hG⟩ : ∃ G, (H1.alloc (.rw [.slice none 0 0, .slice none 0 0, .int .i64 0, .map none] 124 false [])).put H1.size (.rw [.slice a ps.length cap, .slice a' gs.length cap', .int .i64 (k : Int), .map (some mk)] 124 false []) = G := ⟨_, rfl⟩
 have f1G : Fr H1 G := by rw [← hG]; (repeat (first | exact Fr.refl _ | assumption | refine Fr.allocd ?_ _ | refine Fr.put ?_ (by first | omega | (simp only [yz] <;> omega)) _))
 have fG : Fr H G := frA.trans f1G
 have sG : G.size = H1.size + 1 := by rw [← hG]; (first | omega | (simp only [yz] <;> omega))
 have b7G : G.get H1.size = .rw [.slice a ps.length cap, .slice a' gs.length cap', .int .i64 (k : Int), .map (some mk)] 124 false [] := by rw [← hG]; exact get_put_same (by first|omega|(simp only [yz]<;>omega))
 have b2G : G.get H.size = .rw [.slice a ps.length cap, .slice a' gs.length cap', .int .i64 (k : Int)] 25 false [] := (f1G.same _ (by omega)).trans b2
 have bmG : BrI ps gs (G.get mk) := by rw [f1G.same _ k2, k3]; exact BrI.nil
 rw [hG]
 have pad := st_apS_152
 refine W_while (n := 58) 2500 (fun q e' H' => ∃ (j : Nat) (v8 v9 : Value) (S1 S2 : Nat → Prop), q = xs.length - j ∧ j ≤ xs.length ∧ gt 58 e' 27 = .int .i64 (j : Nat) ∧ gt 58 e' 26 = .int .i64 (xs.length : Nat) ∧ gt 58 e' 25 = .slice pa xs.length pc ∧ gt 58 e' 2 = .pointer (some ⟨H.size, 0, none⟩) ∧ gt 58 e' 7 = .pointer (some ⟨H1.size, 0, none⟩) ∧ gt 58 e' 8 = v8 ∧ gt 58 e' 9 = v9 ∧ ER ps gs mk H1.size G H' xs j v8 v9 S1 S2)
  ?_ 9 xs.length ⟨0, .slice none 0 0, .slice none 0 0, fun _ => False, fun _ => False, by omega, by omega, ?_, ?_, ?_, ?_, ?_, ?_, ?_, ⟨Gw.none, Gw.none, fun _ h => h.elim, bmG, fun _ _ _ => rfl, by omega⟩⟩ (by omega) (by omega)
 rotate_left
 ·simp (disch:=first|(simp only [yk,seval];done)|omega|(simp only [yz]<;>omega)|fail) only [yg,seval] <;> rfl
 ·simp (disch:=first|(simp only [yk,seval];done)|omega|(simp only [yz]<;>omega)|fail) only [yg,seval]
 ·simp (disch:=first|(simp only [yk,seval];done)|omega|(simp only [yz]<;>omega)|fail) only [yg,seval]
 ·simp (disch:=first|(simp only [yk,seval];done)|omega|(simp only [yz]<;>omega)|fail) only [yg,seval]
 ·simp (disch:=first|(simp only [yk,seval];done)|omega|(simp only [yz]<;>omega)|fail) only [yg,seval]
 ·simp (disch:=first|(simp only [yk,seval];done)|omega|(simp only [yz]<;>omega)|fail) only [yg,seval]
 ·simp (disch:=first|(simp only [yk,seval];done)|omega|(simp only [yz]<;>omega)|fail) only [yg,seval]
 rintro M1 q e Ha ⟨j, v8, v9, S1, S2, rfl, hj, g27, g26, g25, g2, g7, g8, g9, I⟩
 have Is := I.same
 have Iz := I.sz
 have b2a := (Is H.size (by omega) (by omega)).trans b2G
 have b7a := (Is H1.size (by omega) (by omega)).trans b7G
 have frH : Fr H Ha := ⟨by omega, fun q hq => by rw [Is q (by omega) (by omega)]; exact fG.same q hq⟩
 simp (disch:=first|(simp only [yk,seval];done)|omega|(simp only [yz]<;>omega)|fail) only [↓yp,yA,ys0,ys1,seval,fitB,newC,endD,endR,yrg,g27,g26]
 refine ⟨fun hT => ?_, fun hT => ?_⟩
 rotate_left
 ·have hje : j = xs.length := by have := of_decide_eq_false hT; omega
  subst hje
  have htk : xs.take xs.length = xs := List.take_length
  have r1 := I.r1
  have r2 := I.r2
  rw [htk] at r1 r2
  obtain ⟨x8, c8, e8, rw8⟩ := r1.sl (by rw [List.length_map])
  obtain ⟨x9, c9, e9, rw9⟩ := r2.sl (by rw [List.length_map])
  subst e8 e9
  have hmm : (xs.map k4of).map l4 = xs.map mx := by
   rw [List.map_map]
   exact List.map_congr_left fun x hx => k4of_l4 (by rw [(hlo x hx).len]; exact hl4)
  have hb8 : ∀ s ∈ xs.map k4of, ∀ n ∈ l4 s, 0 ≤ n ∧ n ≤ 6 := fun s hs => by
   obtain ⟨x, hx, rfl⟩ := List.mem_map.1 hs
   rw [k4of_l4 (by rw [(hlo x hx).len]; exact hl4)]
   exact mx_in ((hlo x hx).in h.pk)
  have h100 := fun (N : Nat) => c100 (N := N) (pc := c8) rw8 (by rw [List.length_map]; omega) hb8
  have hb9 : ∀ v ∈ xs.map (fun x => brg ps gs (mx x)), 0 ≤ v ∧ v ≤ 1000000 := fun v hv => by
   obtain ⟨x, hx, rfl⟩ := List.mem_map.1 hv
   have := brg_in (ps := ps) h.gd (stk_len hl4) (stk_in h.pk) (Pl_mem hpl (List.mem_map.2 ⟨x, hx, rfl⟩))
   omega
  have h103 := fun (N : Nat) => c103 (N := N) (cap := c9) rw9 (by rw [List.length_map]; omega) hb9
  simp only [List.length_map] at h100 h103
  rw [isum_totL] at h103
  have h102 := fun (N : Nat) => c102 (N := N) (cap := cap) (g := .slice a' gs.length cap') (lo := .int .i64 (k : Int)) (mp := .map (some mk)) (h.fr frH).hs hl4
  obtain ⟨t0, t1, t2, t3, ht⟩ := four (stk_len hl4)
  rw [ht] at h102
  have hin := stk_in h.pk
  rw [ht] at hin
  have hps := Pl_sum (Ls := xs.map k4of) (r0 := t0) (r1 := t1) (r2 := t2) (r3 := t3) (k := k) (by rw [hmm, ← ht]; exact hpl) (hin t0 (by simp)).1 (hin t1 (by simp)).1 (hin t2 (by simp)).1 (hin t3 (by simp)).1
  have h101 := fun (N : Nat) (H : AHeap) => c101 (N := N) (H := H) hps.1 hps.2.1 hps.2.2.1 hps.2.2.2
  obtain ⟨u0, hu0⟩ : ∃ u, isum ((xs.map k4of).map (·.1)) = u := ⟨_, rfl⟩
  obtain ⟨u1, hu1⟩ : ∃ u, isum ((xs.map k4of).map (·.2.1)) = u := ⟨_, rfl⟩
  obtain ⟨u2, hu2⟩ : ∃ u, isum ((xs.map k4of).map (·.2.2.1)) = u := ⟨_, rfl⟩
  obtain ⟨u3, hu3⟩ : ∃ u, isum ((xs.map k4of).map (·.2.2.2)) = u := ⟨_, rfl⟩
  unfold sum4 at h100
  rw [hu0, hu1, hu2, hu3] at h100 h101
  simp only [tv,List.map_cons,List.map_nil] at h100 h102
  simp (disch:=first|(simp only [yk,seval];done)|omega|(simp only [yz]<;>omega)|fail) only [↓yp,yA,ys0,ys1,seval,fitB,newC,endD,endR,yrg]
  refine W_draw [] rfl (by kernel_rfl) (by kernel_rfl) (by first|omega|(simp only [yz]<;>omega)) ?_
  simp (disch:=first|(simp only [yk,seval];done)|omega|(simp only [yz]<;>omega)|fail) only [↓yp,yA,ys0,ys1,seval,fitB,newC,endD,endR,yrg,g7,g8,g9,b7a,h100,h101,h102,h103,sv_map]
  exact frH
 have hlt : j < xs.length := by have := of_decide_eq_true hT; omega
 have hw2 : w64 ((j : Int) + 1) = ((j + 1 : Nat) : Int) := by rw [w64_of (by omega)]; omega
 obtain ⟨x, hxj⟩ : ∃ x, xs[j]? = some x := ⟨xs[j], by simp [hlt]⟩
 have hlx := hlo x (List.mem_of_getElem? hxj)
 have hx4 := hlx.len
 obtain ⟨bp, op, cp, ra, rc, rfl, hbp, hcpH, hp1, hrx⟩ := hx.at_ hxj
 have hcp : cellsOf (Ha.get bp) = some cp := by rw [frH.same bp hbp]; exact hcpH
 have h99 := fun (N : Nat) => c99 (N := N) (cap := cap) (cl := rc) (x := .slice a' gs.length cap') (y := .int .i64 (k : Int)) ((h.fr frH).hs) (hrx.fr frH) hlx hl4
 have h75g := fun (N : Nat) (H' : AHeap) (f : Fr H H') => c75 (N := N) (cl := rc) (hrx.fr f) (by omega) (by omega)
 have hmx := k4of_l4 (x := x) (by omega)
 rw [← hmx] at h75g
 have hmi : ∀ n ∈ l4 (k4of x), 0 ≤ n ∧ n ≤ 6 := by rw [hmx]; exact mx_in (hlx.in h.pk)
 have hbrx : brg ps gs (l4 (k4of x)) = brg ps gs (mx x) := by rw [hmx]
 obtain ⟨⟨y0, y1, y2, y3⟩, hs4⟩ : ∃ s, k4of x = s := ⟨_, rfl⟩
 rw [hs4] at h75g hmi hbrx
 have hft : (xs.take (j + 1)).map k4of = (xs.take j).map k4of ++ [(y0, y1, y2, y3)] := by rw [List.take_add_one, hxj, List.map_append, ← hs4]; rfl
 have hfb : (xs.take (j + 1)).map (fun x => brg ps gs (mx x)) = (xs.take j).map (fun x => brg ps gs (mx x)) ++ [brg ps gs (mx x)] := by rw [List.take_add_one, hxj, List.map_append]; rfl
 have htl : (xs.take j).length = j := by rw [List.length_take]; omega
 have h75 := fun (N : Nat) => h75g N Ha frH
 simp only [l4,tv,List.map_cons,List.map_nil] at h75
 simp (disch:=first|(simp only [yk,seval];done)|omega|(simp only [yz]<;>omega)|fail) only [↓yp,yA,ys0,ys1,seval,fitB,newC,endD,endR,yrg,g27,g25,g2,g8,A_indexSlice st_esS_82,hcp,hp1,Nat.mul_one,b2a,h99,h75,st_ldS_49,A_buildSlice st_brS_152_1]
 have gA := I.r1.fr (Fr.alloc Ha (.rw [.int .i64 y0, .int .i64 y1, .int .i64 y2, .int .i64 y3] 119 false []))
 refine gw_append (i := j) (cs := k4E.fl ((xs.take j).map k4of)) (news := [.int .i64 y0, .int .i64 y1, .int .i64 y2, .int .i64 y3]) st_apS_152 gA (by first|omega|(simp only [yz]<;>omega)) (by rw [fl_length, List.length_map, htl]; rfl) (by unfold srcCells; simp (disch:=first|(simp only [yk,seval];done)|omega|(simp only [yz]<;>omega)|fail) only [yg,seval] <;> rfl) (by omega) (by omega) rfl (by omega) ?_
 intro a8 c8 Hb hs8 fs8 gw8
 simp only [size_alloc] at hs8 fs8 gw8
 have hf8 : k4E.fl ((xs.take j).map k4of) ++ [.int .i64 y0, .int .i64 y1, .int .i64 y2, .int .i64 y3] = k4E.fl ((xs.take (j + 1)).map k4of) := by rw [hft, fl_app]; rfl
 rw [hf8] at gw8
 have oAB : ∀ q, q < Ha.size → ¬ S1 q → Hb.get q = Ha.get q := fun q hq hn => by rw [fs8 q (by omega) hn, get_alloc_lt hq]
 have low1 : ∀ q, q ≤ H1.size → ¬ S1 q := fun q hq hS => by have := (I.r1.own q hS).1; omega
 have frB : Fr H Hb := ⟨by omega, fun q hq => by rw [oAB q (by omega) (low1 q (by omega))]; exact frH.same q hq⟩
 have b7b : Hb.get H1.size = .rw [.slice a ps.length cap, .slice a' gs.length cap', .int .i64 (k : Int), .map (some mk)] 124 false [] := by rw [oAB _ (by omega) (low1 _ (by omega))]; exact b7a
 have bmb : BrI ps gs (Hb.get mk) := by rw [oAB _ (by omega) (low1 _ (by omega))]; exact I.br
 have gw9 : Gw Hb H1.size S2 v9 j (intE.fl ((xs.take j).map fun x => brg ps gs (mx x))) 3 1 := I.r2.same (by omega) fun q hq => oAB q (I.r2.own q hq).2 fun h1 => I.dj q h1 hq
 have d93 := c93d (s := (y0, y1, y2, y3)) (cap := cap) (cap' := cap') (lo := .int .i64 (k : Int)) (k := mk) (h.fr frB).hs hl4 h.pk (h.fr frB).hg hst.g4 h.gd hmi sv_int bmb (by omega)
 rw [hbrx] at d93
 obtain ⟨n, hn⟩ : ∃ n, brg ps gs (mx x) = n := ⟨_, rfl⟩
 rw [hn] at d93 hfb
 have h75b := fun (N : Nat) => h75g N Hb frB
 simp only [l4,tv,List.map_cons,List.map_nil] at h75b d93
 have fin : ∀ (Hc : AHeap) (Sx : Nat → Prop) (v9' : Value) (e'' : VT), Gw Hc H1.size Sx v9' (j + 1) (intE.fl ((xs.take (j + 1)).map fun x => brg ps gs (mx x))) 3 1 → (∀ q, Sx q → S2 q ∨ Hb.size ≤ q) → (∀ q, q < Hb.size → ¬ S2 q → q ≠ mk → Hc.get q = Hb.get q) → Hb.size ≤ Hc.size → BrI ps gs (Hc.get mk) →
   gt 58 e'' 27 = .int .i64 ((j + 1 : Nat) : Int) → gt 58 e'' 26 = .int .i64 (xs.length : Nat) → gt 58 e'' 25 = .slice (some ⟨bp, op, none⟩) xs.length pc → gt 58 e'' 2 = .pointer (some ⟨H.size, 0, none⟩) → gt 58 e'' 7 = .pointer (some ⟨H1.size, 0, none⟩) → gt 58 e'' 8 = .slice a8 (j + 1) c8 → gt 58 e'' 9 = v9' →
   ∃ q', q' < xs.length - j ∧ ∃ (j' : Nat) (v8 v9 : Value) (S1 S2 : Nat → Prop), q' = xs.length - j' ∧ j' ≤ xs.length ∧ gt 58 e'' 27 = .int .i64 (j' : Nat) ∧ gt 58 e'' 26 = .int .i64 (xs.length : Nat) ∧ gt 58 e'' 25 = .slice (some ⟨bp, op, none⟩) xs.length pc ∧ gt 58 e'' 2 = .pointer (some ⟨H.size, 0, none⟩) ∧ gt 58 e'' 7 = .pointer (some ⟨H1.size, 0, none⟩) ∧ gt 58 e'' 8 = v8 ∧ gt 58 e'' 9 = v9 ∧ ER ps gs mk H1.size G Hc xs j' v8 v9 S1 S2 := by
  intro Hc Sx v9' e'' w1 w2 w3 w4 w5 q1 q2 q3 q4 q5 q6 q7
  have low2 : ∀ q, q ≤ H1.size → ¬ S2 q := fun q hq hS => by have := (I.r2.own q hS).1; omega
  refine ⟨xs.length - (j + 1), by omega, j + 1, _, _, fun q => S1 q ∨ q = Ha.size + 1, Sx, rfl, by omega, q1, q2, q3, q4, q5, q6, q7, ⟨?_, w1, ?_, w5, fun q hq hn => ?_, by omega⟩⟩
  ·refine gw8.same (by omega) fun q hq => ?_
   have ho := gw8.own q hq
   refine w3 q ho.2 (fun h2 => ?_) (by omega)
   rcases hq with hq | hq
   ·exact I.dj q hq h2
   ·have := (I.r2.own q h2).2; omega
  ·intro q hq hx'
   have ho := gw8.own q hq
   rcases w2 q hx' with h2 | h2
   ·rcases hq with hq | hq
    ·exact I.dj q hq h2
    ·have := (I.r2.own q h2).2; omega
   ·omega
  ·rw [w3 q (by omega) (low2 q hq) hn, oAB q (by omega) (low1 q hq)]
   exact Is q hq hn
 rcases d93 with d93 | d93
 ·have h93b := fun (N : Nat) => d93 N Hb rfl (by omega)
  have frC : Fr H (Hb.alloc (.rw [.int .i64 n] 3 false [])) := frB.trans (by repeat first|exact Fr.refl _|assumption|refine Fr.allocd ?_ _|refine Fr.put ?_ (by first|omega|(simp only [yz]<;>omega)) _)
  have h75c := fun (N : Nat) => h75g N _ frC
  have h93c := fun (N : Nat) => d93 N (Hb.alloc (.rw [.int .i64 n] 3 false [])) (get_alloc_lt (by omega)) (by first|omega|(simp only [yz]<;>omega))
  simp only [l4,tv,List.map_cons,List.map_nil] at h75c
  simp (disch:=first|(simp only [yk,seval];done)|omega|(simp only [yz]<;>omega)|fail) only [↓yp,yA,ys0,ys1,seval,fitB,newC,endD,endR,yrg]
  refine W_draw [5, 6] rfl (by kernel_rfl) (by kernel_rfl) (by first|omega|(simp only [yz]<;>omega)) ?_
  simp (disch:=first|(simp only [yk,seval];done)|omega|(simp only [yz]<;>omega)|fail) only [↓yp,yA,ys0,ys1,seval,fitB,newC,endD,endR,yrg,g9,g7,b7b,h75b,h93b,A_buildSlice st_brS_49_1]
  refine gw_append (i := j) (cs := intE.fl ((xs.take j).map fun x => brg ps gs (mx x))) (news := [.int .i64 n]) st_apS_49 (gw9.fr (Fr.alloc _ _)) (by first|omega|(simp only [yz]<;>omega)) (by rw [fl_length, List.length_map, htl]; rfl) (by unfold srcCells; simp (disch:=first|(simp only [yk,seval];done)|omega|(simp only [yz]<;>omega)|fail) only [yg,seval] <;> rfl) (by omega) (by omega) rfl (by omega) ?_
  intro a9 c9 Hc hs9 fs9 gwc
  simp only [size_alloc] at hs9 fs9 gwc
  have hf9 : intE.fl ((xs.take j).map fun x => brg ps gs (mx x)) ++ [.int .i64 n] = intE.fl ((xs.take (j + 1)).map fun x => brg ps gs (mx x)) := by rw [hfb, fl_app]; rfl
  rw [hf9] at gwc
  have low2 : ∀ q, q ≤ H1.size → ¬ S2 q := fun q hq hS => by have := (I.r2.own q hS).1; omega
  have oBC : ∀ q, q < Hb.size → ¬ S2 q → Hc.get q = Hb.get q := fun q hq hn => by rw [fs9 q (by omega) hn, get_alloc_lt hq]
  have frD : Fr H Hc := ⟨by have := frB.size; omega, fun q hq => by rw [oBC q (by omega) (low2 q (by omega))]; exact frB.same q hq⟩
  have h75d := fun (N : Nat) => h75g N _ frD
  have h93d := fun (N : Nat) => d93 N Hc (oBC mk (by omega) (low2 mk (by omega))) (by omega)
  have b7c := (oBC _ (by omega) (low2 _ (Nat.le_refl _))).trans b7b
  simp only [l4,tv,List.map_cons,List.map_nil] at h75d
  have sv9 : sameV 6 v9 v9 = true := gw9.sv
  simp (disch:=first|(simp only [yk,seval];done)|omega|(simp only [yz]<;>omega)|fail) only [↓yp,yA,ys0,ys1,seval,fitB,newC,endD,endR,yrg,g9,g7,g27,b7b,b7c,h75b,h75c,h75d,h93b,h93c,h93d,A_buildSlice st_brS_49_1,hw2,sv9,sv_map]
  refine fin Hc _ (.slice a9 (j + 1) c9) _ gwc (fun q hq => hq.imp id fun e => by omega) (fun q h1 h2 _ => oBC q h1 h2) (by omega) (by rw [oBC mk (by omega) (low2 mk (by omega))]; exact bmb) ?_ ?_ ?_ ?_ ?_ ?_ ?_
  ·simp (disch:=first|(simp only [yk,seval];done)|omega|(simp only [yz]<;>omega)|fail) only [yg,seval]
  ·simp (disch:=first|(simp only [yk,seval];done)|omega|(simp only [yz]<;>omega)|fail) only [yg,seval,g26]
  ·simp (disch:=first|(simp only [yk,seval];done)|omega|(simp only [yz]<;>omega)|fail) only [yg,seval,g25]
  ·simp (disch:=first|(simp only [yk,seval];done)|omega|(simp only [yz]<;>omega)|fail) only [yg,seval,g2]
  ·simp (disch:=first|(simp only [yk,seval];done)|omega|(simp only [yz]<;>omega)|fail) only [yg,seval,g7]
  ·simp (disch:=first|(simp only [yk,seval];done)|omega|(simp only [yz]<;>omega)|fail) only [yg,seval]
  ·simp (disch:=first|(simp only [yk,seval];done)|omega|(simp only [yz]<;>omega)|fail) only [yg,seval]
 ·simp (disch:=first|(simp only [yk,seval];done)|omega|(simp only [yz]<;>omega)|fail) only [↓yp,yA,ys0,ys1,seval,fitB,newC,endD,endR,yrg]
  refine W_draw [4, 5, 6] rfl (by kernel_rfl) (by kernel_rfl) (by first|omega|(simp only [yz]<;>omega)) ?_
  simp (disch:=first|(simp only [yk,seval];done)|omega|(simp only [yz]<;>omega)|fail) only [↓yp,yA,ys0,ys1,seval,fitB,newC,endD,endR,yrg,g9,g7,b7b,h75b]
  refine resK_lowQ (d93 (M1 + 1692)) (by omega) ?_
  rintro b _ Hm ⟨rfl, rfl, z1, z2, z3⟩
  have low2 : ∀ q, q ≤ H1.size → ¬ S2 q := fun q hq hS => by have := (I.r2.own q hS).1; omega
  have frM : Fr H Hm := ⟨by have := frB.size; omega, fun q hq => by rw [z2 q (by omega) (by omega)]; exact frB.same q hq⟩
  have frC : Fr H (Hm.alloc (.rw [.int .i64 n] 3 false [])) := frM.trans (by repeat first|exact Fr.refl _|assumption|refine Fr.allocd ?_ _|refine Fr.put ?_ (by first|omega|(simp only [yz]<;>omega)) _)
  have h75m := fun (N : Nat) => h75g N _ frM
  have h75c := fun (N : Nat) => h75g N _ frC
  have b7m := (z2 H1.size (by omega) (by omega)).trans b7b
  have gwm := gw9.same z1 fun q hq => z2 q (gw9.own q hq).2 (by have := (gw9.own q hq).1; omega)
  simp only [l4,tv,List.map_cons,List.map_nil] at h75c h75m
  simp (disch:=first|(simp only [yk,seval];done)|omega|(simp only [yz]<;>omega)|fail) only [↓yp,yA,ys0,ys1,seval,fitB,newC,endD,endR,yrg,g9,g7,b7b,b7m,h75b,h75m,A_buildSlice st_brS_49_1]
  refine gw_append (i := j) (cs := intE.fl ((xs.take j).map fun x => brg ps gs (mx x))) (news := [.int .i64 n]) st_apS_49 (gwm.fr (Fr.alloc _ _)) (by first|omega|(simp only [yz]<;>omega)) (by rw [fl_length, List.length_map, htl]; rfl) (by unfold srcCells; simp (disch:=first|(simp only [yk,seval];done)|omega|(simp only [yz]<;>omega)|fail) only [yg,seval] <;> rfl) (by omega) (by omega) rfl (by omega) ?_
  intro a9 c9 Hc hs9 fs9 gwc
  simp only [size_alloc] at hs9 fs9 gwc
  have hf9 : intE.fl ((xs.take j).map fun x => brg ps gs (mx x)) ++ [.int .i64 n] = intE.fl ((xs.take (j + 1)).map fun x => brg ps gs (mx x)) := by rw [hfb, fl_app]; rfl
  rw [hf9] at gwc
  have oMC : ∀ q, q < Hm.size → ¬ S2 q → Hc.get q = Hm.get q := fun q hq hn => by rw [fs9 q (by omega) hn, get_alloc_lt hq]
  have frD : Fr H Hc := ⟨by have := frM.size; omega, fun q hq => by rw [oMC q (by omega) (low2 q (by omega))]; exact frM.same q hq⟩
  have h75d := fun (N : Nat) => h75g N _ frD
  have b7c := (oMC _ (by omega) (low2 _ (Nat.le_refl _))).trans b7m
  simp only [l4,tv,List.map_cons,List.map_nil] at h75d
  have sv9 : sameV 6 v9 v9 = true := gw9.sv
  simp (disch:=first|(simp only [yk,seval];done)|omega|(simp only [yz]<;>omega)|fail) only [↓yp,yA,ys0,ys1,seval,fitB,newC,endD,endR,yrg,g9,g7,g27,b7b,b7m,b7c,h75b,h75m,h75c,h75d,A_buildSlice st_brS_49_1,hw2,sv9,sv_map]
  refine fin Hc _ (.slice a9 (j + 1) c9) _ gwc (fun q hq => hq.imp id fun e => by omega) (fun q h1 h2 h3 => by rw [oMC q (by omega) h2]; exact z2 q h1 h3) (by omega) (by rw [oMC mk (by omega) (low2 mk (by omega))]; exact z3) ?_ ?_ ?_ ?_ ?_ ?_ ?_
  ·simp (disch:=first|(simp only [yk,seval];done)|omega|(simp only [yz]<;>omega)|fail) only [yg,seval]
  ·simp (disch:=first|(simp only [yk,seval];done)|omega|(simp only [yz]<;>omega)|fail) only [yg,seval,g26]
  ·simp (disch:=first|(simp only [yk,seval];done)|omega|(simp only [yz]<;>omega)|fail) only [yg,seval,g25]
  ·simp (disch:=first|(simp only [yk,seval];done)|omega|(simp only [yz]<;>omega)|fail) only [yg,seval,g2]
  ·simp (disch:=first|(simp only [yk,seval];done)|omega|(simp only [yz]<;>omega)|fail) only [yg,seval,g7]
  ·simp (disch:=first|(simp only [yk,seval];done)|omega|(simp only [yz]<;>omega)|fail) only [yg,seval]
  ·simp (disch:=first|(simp only [yk,seval];done)|omega|(simp only [yz]<;>omega)|fail) only [yg,seval]
end
end Go.Am.K
namespace Go.Am.K
open Go.Proofs
variable {T : Tab} {P : Program} {N L : Nat} {H H' H'' : AHeap} {Q : Bool → Value → AHeap → Prop}
def jumpP (Q : Exit → AHeap → Prop) (G : AHeap) : Option Code → Prop
 | none => Q .normal G
 | some (.exit j) => Q (.exit j) G
 | _ => False
def rangeJ (l : Nat) (Q : Exit → AHeap → Prop) (H₂ : AHeap) : Prop := ∃ st pend t ps as' bd d, st ≠ .busy ∧ H₂.get l = .loop st pend t ps as' bd d ∧ jumpP Q (H₂.put l (.loop .exhausted pend t ps as' bd d)) pend
theorem W_rangeJ {n : Nat} {e : VT} {ds : List Nat} {g : Operand} {ps : Array Tmp} {assign body : Code} {f : FuncId} {first cap : List Value} {Q : Exit → ES → Prop} (hg : aenv n e g = some (.func (.func f) ⟨first⟩ ⟨cap⟩)) (hL : L ≤ H.size)
  (h : resK (acall T (aexec T P (N + 1)) f (first ++ [yieldV (H.size + 1)] ++ cap) ((H.alloc .defer).alloc (.loop .ready none (lst n e) ps assign body H.size))) L fun _ _ H₂ => rangeJ (H.size + 1) (fun x H₃ => L ≤ H₃.size ∧ Q x ⟨n, e, H₃, H.size :: ds⟩) H₂) :
  W T P (N + 2) none (.rangeFunc g ps assign body) L ⟨n, e, H, ds⟩ Q := by
 unfold W
 have hx : aexec T P (N + 2) none (.rangeFunc g ps assign body) ⟨n, e, H, ds⟩ = (match acall T (aexec T P (N + 1)) f (first ++ [yieldV (H.size + 1)] ++ cap) ((H.alloc .defer).alloc (.loop .ready none (lst n e) ps assign body H.size)) with
   | some (_, _, H₂, m₁) => aendLoop (aexec T P (N + 1)) none (H.size + 1) n e H₂ (H.size :: ds) (min H.size m₁)
   | none => none) := by
  show (match aenv n e g with
   | some (.func (.func f) first captured) => match acall T (aexec T P (N + 1)) f (first.toList ++ [yieldV (H.size + 1)] ++ captured.toList) ((H.alloc .defer).alloc (.loop .ready none (lst n e) ps assign body H.size)) with
     | some (_, _, H₂, m₁) => aendLoop (aexec T P (N + 1)) none (H.size + 1) n e H₂ (H.size :: ds) (min H.size m₁)
     | none => none
   | _ => none) = _
  rw [hg]
 rw [hx]
 unfold resK at h
 cases ha : acall T (aexec T P (N + 1)) f (first ++ [yieldV (H.size + 1)] ++ cap) ((H.alloc .defer).alloc (.loop .ready none (lst n e) ps assign body H.size)) with
 | none => rw [ha] at h; exact h.elim
 | some p =>
  obtain ⟨b, v, H₂, m⟩ := p
  rw [ha] at h
  obtain ⟨h1, st, pend, t, ps', as', bd, d, hst, hget, hq⟩ := h
  simp only [aendLoop,hget]
  cases st with
  | busy => exact absurd rfl hst
  | _ =>
   cases pend with
   | none => exact ⟨by omega, hq.2⟩
   | some c =>
    cases c with
    | exit j =>
     have e : aexec T P (N + 1) none (.exit j) ⟨n, e, H₂.put (H.size + 1) (.loop .exhausted (some (.exit j)) t ps' as' bd d), H.size :: ds⟩ = some (.exit j, ⟨n, e, H₂.put (H.size + 1) (.loop .exhausted (some (.exit j)) t ps' as' bd d), H.size :: ds⟩, (H₂.put (H.size + 1) (.loop .exhausted (some (.exit j)) t ps' as' bd d)).size) := rfl
     simp only [e]
     have := hq.1
     exact ⟨by omega, hq.2⟩
    | _ => exact hq.elim
theorem endY_exit {n : Nat} {e : VT} {ds : List Nat} {l j : Nat} {Q : Bool → Value → AHeap → Prop} {st : LoopState} {p : Option Code} {t : List Value} {ps : Array Tmp} {as' bd : Code} {d : Nat} (hg : H.get l = .loop st p t ps as' bd d) (hq : Q false (.bool false) (H.put l (.loop .done (some (.exit j)) t ps as' bd d))) : endY l Q (.exit j) ⟨n, e, H, ds⟩ :=
 ⟨some (.exit j), rfl, st, p, t, ps, as', bd, d, hg, hq⟩
section
variable {m0 m1 m2 m3 a b c d : Int} {b1 i3 lb base K₀ : Nat} {I : Nat → AHeap → Prop} {E : AHeap → Prop}
set_option maxHeartbeats 4000000 in
theorem c131s (hm : (0 ≤ m0 ∧ m0 ≤ 6) ∧ (0 ≤ m1 ∧ m1 ≤ 6) ∧ (0 ≤ m2 ∧ m2 ≤ 6) ∧ (0 ≤ m3 ∧ m3 ≤ 6))
  (up : ∀ k H' H'', I k H' → Fr H' H'' → I k H'') (pt : ∀ k H' H'' j, I k H' → base ≤ j → H''.size = H'.size → (∀ i, i ≠ j → H''.get i = H'.get i) → I k H'') (sz : ∀ k H', I k H' → base ≤ H'.size)
  (mb : ∀ k H', I k H' → H'.get b1 = .rw [.int .i64 m0, .int .i64 m1, .int .i64 m2, .int .i64 m3] 119 false []) (hb1 : b1 < base) (hdn : ∀ k H'', I k H'' → Fr H H'' → I k H) (hL : L ≤ base) (hb : base ≤ H.size) (hE : ∀ H'', E H'' → ¬ Fr H H'' ∧ base ≤ H''.size)
  (hy : ∀ M, K₀ ≤ M → ∀ (k : Nat) H' (l : List Int), I k H' → LV [m0, m1, m2, m3] l → vl [m0, m1, m2, m3] l = k → resK (ayield (aexec tabA Try.prog M) lb [.agg ⟨tv l⟩] H') L fun _ v H'' => (v = .bool true ∧ I (k + 1) H'' ∧ H'.size ≤ H''.size ∧ ∀ j, base ≤ j → j < H'.size → H''.get j = H'.get j) ∨ (v = .bool false ∧ E H''))
  (hI₀ : I 0 H) {M : Nat} (hM : K₀ + 2800 ≤ M) (hq : ∀ q v H'', I (pn [m0, m1, m2, m3]).toNat H'' ∨ E H'' → Q q v H'') :
  resK (acall tabA (aexec tabA Try.prog M) 131 [.func (.yield lb) ⟨[]⟩ ⟨[]⟩, .pointer (some ⟨b1, 0, none⟩)] H) L Q := by
 obtain ⟨N, rfl⟩ : ∃ N, M = N + K₀ + 2800 := ⟨M - (K₀ + 2800), by omega⟩
 refine call_keep tabA_fr (k := 30) (rs := []) (R := fun _ H'' => I (pn [m0, m1, m2, m3]).toNat H'' ∨ E H'') rfl fn_131 rfl rfl rfl (by omega) ?_ (fun v H'' h => hq _ _ _ h) (fun v H'' h _ fr => hq _ _ _ (h.imp (fun h => hdn _ _ h fr) fun h => absurd fr (hE _ h).1))
 have hpn := pn_le hm.1 hm.2.1 hm.2.2.1 hm.2.2.2
 obtain ⟨TL, hTL⟩ : ∃ c, sub [true, false, false, true, false] (bodyOf Try.f131) = c := ⟨_, rfl⟩
 have hTL0 := hTL
 simp only [Try.f131,bodyOf,sub_nil,sub_seq0,sub_seq1,sub_block,sub_loop,sub_cond0,sub_cond1] at hTL
 rw [hTL]
 clear hTL
 simp (disch:=first|(simp only [yk,seval];done)|omega|(simp only [yz]<;>omega)|fail) only [↓yp,yA,ys0,ys1,seval,fitB,newC,endD,endR,yrg]
 refine W_whileD K₀ 200 (fun q e H' ds => ∃ a b c d : Int, LV [m0, m1, m2, m3] [a, b, c, d] ∧ q = (pn [m0, m1, m2, m3] - vl [m0, m1, m2, m3] [a, b, c, d]).toNat ∧ ds = [] ∧ gt 30 e 0 = .func (.yield lb) ⟨[]⟩ ⟨[]⟩ ∧ gt 30 e 1 = .pointer (some ⟨b1, 0, none⟩) ∧ gt 30 e 3 = .pointer (some ⟨H.size, 0, none⟩) ∧ H.size < H'.size ∧ H'.get H.size = .rw [.int .i64 a, .int .i64 b, .int .i64 c, .int .i64 d] 119 false [] ∧ I (vl [m0, m1, m2, m3] [a, b, c, d]).toNat H')
  ?_ 2401 (pn [m0, m1, m2, m3]).toNat ⟨0, 0, 0, 0, LV4.2 (by omega), by rw [vl4]; simp, rfl, by simp (disch:=first|(simp only [yk,seval];done)|omega|(simp only [yz]<;>omega)|fail) only [yg,seval], by simp (disch:=first|(simp only [yk,seval];done)|omega|(simp only [yz]<;>omega)|fail) only [yg,seval], by simp (disch:=first|(simp only [yk,seval];done)|omega|(simp only [yz]<;>omega)|fail) only [yg,seval], by (first | omega | (simp only [yz] <;> omega)), by simp (disch:=first|(simp only [yk,seval];done)|omega|(simp only [yz]<;>omega)|fail) only [yg,seval], ?_⟩ (by omega) (by omega)
 rotate_left
 ·rw [vl4]
  simp only [Int.zero_mul,Int.add_zero,Int.toNat_zero]
  exact up _ _ _ hI₀ (by repeat first|exact Fr.refl _|assumption|refine Fr.allocd ?_ _|refine Fr.put ?_ (by first|omega|(simp only [yz]<;>omega)) _)
 rintro M1 q e H1 ds hM1 ⟨a, b, c, d, hv, rfl, rfl, g0, g1, g3, lt, bl, hI⟩
 have hin := vl_in hv
 obtain ⟨k, hk⟩ : ∃ k : Nat, vl [m0, m1, m2, m3] [a, b, c, d] = k := ⟨(vl [m0, m1, m2, m3] [a, b, c, d]).toNat, by omega⟩
 rw [hk, Int.toNat_natCast] at hI
 have hsz := sz _ _ hI
 simp (disch:=first|(simp only [yk,seval];done)|omega|(simp only [yz]<;>omega)|fail) only [↓yp,yA,ys0,ys1,seval,fitB,newC,endD,endR,yrg,g0,g3,bl,calK_yield]
 refine resK_mono (hy _ (by omega) k H1 [a, b, c, d] hI hv hk) ?_
 rintro q v H2 (⟨rfl, hI2, hs2, ho2⟩ | ⟨rfl, hE2⟩)
 rotate_left
 ·have hz2 := (hE _ hE2).2
  simp (disch:=first|(simp only [yk,seval];done)|omega|(simp only [yz]<;>omega)|fail) only [↓yp,yA,ys0,ys1,seval,fitB,newC,endD,endR,yrg,resV_none]
  exact .inr hE2
 have bl2 : H2.get H.size = .rw [.int .i64 a, .int .i64 b, .int .i64 c, .int .i64 d] 119 false [] := (ho2 _ hb lt).trans bl
 have bm2 := mb _ _ hI2
 simp (disch:=first|(simp only [yk,seval];done)|omega|(simp only [yz]<;>omega)|fail) only [↓yp,yA,ys0,ys1,seval,fitB,newC,endD,endR,yrg]
 rw [← hTL0]
 refine c131i (N := M1 + 98) (L := L) (i3 := H.size) (b1 := b1) hm (LV4.1 hv) ?_ ?_ bl2 bm2 (by omega) (by omega) (by omega) (by omega) ?_ ?_
 ·simp (disch:=first|(simp only [yk,seval];done)|omega|(simp only [yz]<;>omega)|fail) only [yg,seval,g1]
 ·simp (disch:=first|(simp only [yk,seval];done)|omega|(simp only [yz]<;>omega)|fail) only [yg,seval,g3]
 ·intro a' b' c' d' e' H3 V hval kp hs3 ho3 hb3
  have m0' := kp 0 (by decide)
  have m1' := kp 1 (by decide)
  have m3' := kp 3 (by decide)
  simp (disch:=first|(simp only [yk,seval];done)|omega|(simp only [yz]<;>omega)|fail) only [yg,seval,g0] at m0'
  simp (disch:=first|(simp only [yk,seval];done)|omega|(simp only [yz]<;>omega)|fail) only [yg,seval,g1] at m1'
  simp (disch:=first|(simp only [yk,seval];done)|omega|(simp only [yz]<;>omega)|fail) only [yg,seval,g3] at m3'
  simp (disch:=first|(simp only [yk,seval];done)|omega|(simp only [yz]<;>omega)|fail) only [↓yp,yA,ys0,ys1,seval,fitB,newC,endD,endR,yrg]
  refine ⟨_, ?_, a', b', c', d', V, rfl, rfl, m0', m1', m3', by omega, hb3, ?_⟩
  ·rw [hval, hk]; omega
  ·rw [hval, hk, show ((k : Int) + 1).toNat = k + 1 by omega]
   exact pt _ _ _ _ hI2 hb hs3 ho3
 ·intro e' H3 hpv hs3 ho3
  simp (disch:=first|(simp only [yk,seval];done)|omega|(simp only [yz]<;>omega)|fail) only [↓yp,yA,ys0,ys1,seval,fitB,newC,endD,endR,yrg,resV_none]
  left
  rw [hpv, hk, show ((k : Int) + 1).toNat = k + 1 by omega]
  exact pt _ _ _ _ hI2 hb hs3 ho3
def roundS (lb x : Nat) (blk : ABlk) (H' : AHeap) (J : Nat → AHeap → Prop) (E : AHeap → Prop) (k : Nat) (_ : Bool) (v : Value) (H'' : AHeap) : Prop :=
 (v = .bool true ∧ (H''.get (lb + 1) = blk ∧ H''.get lb = .defer ∧ J k H'') ∧ H'.size ≤ H''.size ∧ ∀ j, lb + 2 ≤ j → j < H'.size → H''.get j = H'.get j) ∨
 (v = .bool false ∧ (∃ t ps as' bd d, H''.get (lb + 1) = .loop .done (some (.exit x)) t ps as' bd d) ∧ H''.get lb = .defer ∧ lb + 2 ≤ H''.size ∧ E H'')
theorem W_lotsS {n g p x : Nat} {e : VT} {ds : List Nat} {assign body : Code} {J : Nat → AHeap → Prop} (hm : (0 ≤ m0 ∧ m0 ≤ 6) ∧ (0 ≤ m1 ∧ m1 ≤ 6) ∧ (0 ≤ m2 ∧ m2 ≤ 6) ∧ (0 ≤ m3 ∧ m3 ≤ 6))
  (up : ∀ k H' H'', J k H' → Fr H' H'' → J k H'') (pt : ∀ k H' H'' j, J k H' → H.size + 1 ≤ j → H''.size = H'.size → (∀ i, i ≠ j → H''.get i = H'.get i) → J k H'') (sz : ∀ k H', J k H' → H.size + 2 ≤ H'.size)
  (mb : ∀ k H', J k H' → H'.get b1 = .rw [.int .i64 m0, .int .i64 m1, .int .i64 m2, .int .i64 m3] 119 false []) (hb1 : b1 < H.size) (hdn : ∀ k Ha Hb, J 0 Ha → J k Hb → Fr Ha Hb → J k Ha) (hL : L ≤ H.size) (hp : p < n)
  (hg : gt n e g = .func (.func 131) ⟨[]⟩ ⟨[.pointer (some ⟨b1, 0, none⟩)]⟩)
  (h₀ : ∀ blk, J 0 ((H.alloc .defer).alloc blk))
  (hy : ∀ M, K₀ ≤ M → ∀ (k : Nat) H' (l : List Int) e', J k H' → LV [m0, m1, m2, m3] l → vl [m0, m1, m2, m3] l = k → H'.get (H.size + 1) = .loop .ready none (lst n e) #[p] assign body H.size → H'.get H.size = .defer → gt n e' p = .agg ⟨tv l⟩ → (∀ j, j ≠ p → gt n e' j = gt n e j) →
   W tabA Try.prog M (some (H.size + 1)) assign L ⟨n, e', H', []⟩ (midY tabA Try.prog M (H.size + 1) L body (roundS H.size x (.loop .ready none (lst n e) #[p] assign body H.size) H' J E (k + 1))))
  {M : Nat} (hM : K₀ + 2802 ≤ M) {Q : Exit → ES → Prop} (hq : ∀ H'' blk, J (pn [m0, m1, m2, m3]).toNat H'' → H''.get H.size = .defer → Q .normal ⟨n, e, H''.put (H.size + 1) blk, H.size :: ds⟩)
  (hqE : ∀ H'' blk, E H'' → H''.get H.size = .defer → Q (.exit x) ⟨n, e, H''.put (H.size + 1) blk, H.size :: ds⟩) :
  W tabA Try.prog M none (.rangeFunc (.tmp g) #[p] assign body) L ⟨n, e, H, ds⟩ Q := by
 obtain ⟨M, rfl⟩ : ∃ M', M = M' + 2 := ⟨M - 2, by omega⟩
 refine W_rangeJ (f := 131) (first := []) (cap := [.pointer (some ⟨b1, 0, none⟩)]) (by rw [aenv_tmp, hg]) hL ?_
 have hsz : ((H.alloc .defer).alloc (.loop .ready none (lst n e) #[p] assign body H.size)).size = H.size + 2 := by rw [size_alloc, size_alloc]
 refine c131s (I := fun k H' => H'.get (H.size + 1) = .loop .ready none (lst n e) #[p] assign body H.size ∧ H'.get H.size = .defer ∧ J k H') (E := fun H'' => (∃ t ps as' bd d, H''.get (H.size + 1) = .loop .done (some (.exit x)) t ps as' bd d) ∧ H''.get H.size = .defer ∧ H.size + 2 ≤ H''.size ∧ E H'') (base := H.size + 2) (K₀ := K₀) (lb := H.size + 1) (b1 := b1) hm ?_ ?_ (fun k H' h => sz _ _ h.2.2) (fun k H' h => mb _ _ h.2.2) (by omega) ?_ (by omega) (by omega) ?_ ?_ ?_ (by omega) ?_
 ·rintro k H' H'' ⟨h1, h2, h3⟩ fr
  have := sz _ _ h3
  exact ⟨by rw [fr.same _ (by omega)]; exact h1, by rw [fr.same _ (by omega)]; exact h2, up _ _ _ h3 fr⟩
 ·rintro k H' H'' j ⟨h1, h2, h3⟩ hj hs ho
  exact ⟨by rw [ho _ (by omega)]; exact h1, by rw [ho _ (by omega)]; exact h2, pt _ _ _ j h3 (by omega) hs ho⟩
 ·rintro k H'' ⟨h1, h2, h3⟩ fr
  exact ⟨by rw [← fr.same _ (by omega)]; exact h1, by rw [← fr.same _ (by omega)]; exact h2, hdn _ _ _ (h₀ _) h3 fr⟩
 ·rintro H'' ⟨⟨t, ps, as', bd, d, h1⟩, -, hz, -⟩
  refine ⟨fun fr => ?_, hz⟩
  have := fr.same (H.size + 1) (by omega)
  rw [h1, get_alloc_eq (by rw [size_alloc])] at this
  cases this
 ·rintro M' hM' k H' l ⟨h1, h2, h3⟩ hv hk
  refine resK_mono (yield_run1 (Q := roundS H.size x (.loop .ready none (lst n e) #[p] assign body H.size) H' J E (k + 1)) h1 hp (by omega) fun e' he he' => hy M' hM' k H' l e' h3 hv hk h1 h2 he he') ?_
  rintro q v H'' (⟨k1, k2, k3, k4⟩ | ⟨k1, k2, k3, k4⟩)
  ·exact .inl ⟨k1, k2, k3, k4⟩
  ·exact .inr ⟨k1, k2, k3, k4⟩
 ·refine ⟨?_, ?_, h₀ _⟩
  ·rw [get_alloc_eq (by rw [size_alloc])]
  ·rw [get_alloc_lt (by rw [size_alloc]; omega), get_alloc_same]
 ·rintro q v H'' (⟨h1, h2, h3⟩ | ⟨⟨t, ps, as', bd, d, h1⟩, h2, h3, h4⟩)
  ·have := sz _ _ h3
   exact ⟨.ready, none, _, _, _, _, _, (fun h => by cases h), h1, by rw [size_put]; omega, hq _ _ h3 h2⟩
  ·exact ⟨.done, some (.exit x), _, _, _, _, _, (fun h => by cases h), h1, by rw [size_put]; omega, hqE _ _ h4 h2⟩
end
end Go.Am.K
