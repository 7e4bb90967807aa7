import Derived.Test.YtaieoelbpnjoiaaT46
set_option linter.unusedSimpArgs false
set_option linter.unusedVariables false
namespace Go.Am
open Go.Proofs
variable {T : Tab} {P : Program} {N L : Nat} {H : AHeap} {Q : Bool → Value → AHeap → Prop}
structure Lg (H : AHeap) (a : Option Addr) (ls : List (Int × Bool)) : Prop where
  get : ls ≠ [] → ∃ b o c, a = some ⟨b, o, none⟩ ∧ b < H.size ∧ cellsOf (H.get b) = some c ∧ ∀ i p, ls[i]? = some p → part c (o + i * 2) 3 = some (.agg ⟨[.int .i64 p.1, .bool p.2]⟩)
theorem Lg.fr {H' : AHeap} {a : Option Addr} {ls : List (Int × Bool)} (h : Lg H a ls) (f : Fr H H') : Lg H' a ls := ⟨fun hl => by
  obtain ⟨b, o, c, h1, h2, h3, h4⟩ := h.get hl
  exact ⟨b, o, c, h1, Nat.lt_of_lt_of_le h2 f.size, by rw [f.same b h2]; exact h3, h4⟩⟩
theorem RowL.lg {v : Value} {ls : List (Int × Bool)} {base : Nat} (R : RowL H v ls base) : ∃ a c, v = .slice a ls.length c ∧ Lg H a ls := by
  by_cases hne : ls = []
  · subst hne
    exact ⟨none, 0, R.nil rfl, ⟨fun h => absurd rfl h⟩⟩
  · obtain ⟨b, al, h1, h2, h3, h4, h5⟩ := R.cons hne
    refine ⟨_, _, h1, ⟨fun _ => ⟨b, 0, lgs ls, rfl, h3, by rw [h5]; rfl, fun i p hi => ?_⟩⟩⟩
    rw [Nat.zero_add]
    exact lgs_part hi
theorem st_mkS_52 : mkS tabA 52 = some (3, .int .i64 0, 1, 8) := by kernel_rfl
theorem made_zero (k : Nat) : (madeCells (Value.int .i64 0).cells (k * 1)).toList = tv (List.replicate k 0) := by
  rw [show (Value.int .i64 0).cells = #[.int .i64 0] from rfl, Nat.mul_one]
  apply List.ext_getElem?
  intro i
  unfold tv
  rw [Array.getElem?_toList, List.map_replicate, List.getElem?_replicate]
  unfold madeCells
  rw [Array.getElem?_map]
  by_cases h : i < k
  · rw [if_pos h, Array.getElem?_eq_getElem (by simpa using h)]
    simp only [Array.getElem_range,Option.map_some]
    have : i % (#[Value.int .i64 0] : Array Value).size = 0 := Nat.mod_one i
    rw [this]; rfl
  · rw [if_neg h, Array.getElem?_eq_none (by simpa using h)]; rfl
theorem grs_tv (t : List Int) : allGrV (tv t) = true := by
  induction t with
  | nil => rfl
  | cons x t ih => unfold tv at *; rw [List.map_cons]; exact ih
def fil (t : List Int) (i : Nat) : List Int := t.take i ++ List.replicate (t.length - i) 0
theorem fil_zero {t : List Int} : fil t 0 = List.replicate t.length 0 := by unfold fil; simp
theorem fil_all {t : List Int} : fil t t.length = t := by unfold fil; simp
theorem fil_len {t : List Int} {i : Nat} (h : i ≤ t.length) : (fil t i).length = t.length := by unfold fil; simp; omega
theorem fil_next {t : List Int} {i : Nat} {v : Int} (h : t[i]? = some v) : (tv (fil t i)).take i ++ [.int .i64 v] ++ (tv (fil t i)).drop (i + 1) = tv (fil t (i + 1)) := by
  have hi := (List.getElem?_eq_some_iff.1 h).1
  have e1 : t.take (i + 1) = t.take i ++ [v] := take_snoc t i v h
  unfold fil tv
  rw [← List.map_take, ← List.map_drop, List.take_append_of_le_length (by simp; omega), List.take_take, Nat.min_self, List.drop_append, List.drop_take]
  have hl : (List.take i t).length = i := by simp; omega
  rw [hl, show i - (i + 1) = 0 by omega, List.take_zero, List.nil_append, show i + 1 - i = 1 by omega, List.drop_replicate, e1]
  simp only [List.map_append,List.map_cons,List.map_nil]
  rw [show t.length - i - 1 = t.length - (i + 1) by omega]
set_option maxHeartbeats 1000000 in
theorem c93 {a : Option Addr} {cap : Nat} {ls : List (Int × Bool)} (hs : Lg H a ls) (hl : ls.length ≤ 65) (hL : L ≤ H.size) {M : Nat} (hM : 150 ≤ M)
    (hq : ∀ k H', Fr H H' → H.size ≤ k → k < H'.size → H'.get k = .rw (tv (ls.map (·.1))) 3 false [] → Q false (.slice (some ⟨k, 0, none⟩) ls.length ls.length) H') :
    resK (acall tabA (aexec tabA Try.prog M) 93 [.slice a ls.length cap] H) L Q := by
  obtain ⟨N, rfl⟩ : ∃ N, M = N + 150 := ⟨M - 150, by omega⟩
  refine call_fls (R := fun v H' => ∃ k, v = .slice (some ⟨k, 0, none⟩) ls.length ls.length ∧ Fr H H' ∧ H.size ≤ k ∧ k < H'.size ∧ H'.get k = .rw (tv (ls.map (·.1))) 3 false []) (k := 23) (rs := [.tmp 2]) rfl fn_93 rfl rfl rfl hL ?_ ?_ ?_
  · simp (disch := (first | (simp only [yk,seval]; done) | omega | (simp only [yz] <;> omega) | fail)) only [↓yp,yq0,yq1,yq2,yq3,yq4,yl,ys0,ys1,seval,zed,zee,zfr,zhw,ysu,yrg,ysv,ysw,ysx,ysz,ysa,lenV_slice st_esS_65]
    refine A_make_of (m := (ls.length : Int)) st_mkS_52 (by simp (disch := (first | (simp only [yk,seval]; done) | omega | (simp only [yz] <;> omega) | fail)) only [↓yp,yq0,yq1,yq2,yq3,yq4,yl,ys0,ys1,seval,zed,zee,zfr,zhw,ysu,yrg,ysv,ysw,ysx,ysz,ysa]) (by omega) (by omega) (by omega) (by rw [made_zero]; exact grs_tv _) (by (first | omega | (simp only [yz] <;> omega))) ?_
    rw [made_zero, Int.toNat_natCast, show List.replicate ls.length (0 : Int) = fil (ls.map (·.1)) 0 by rw [fil_zero, List.length_map]]
    simp (disch := (first | (simp only [yk,seval]; done) | omega | (simp only [yz] <;> omega) | fail)) only [↓yp,yq0,yq1,yq2,yq3,yq4,yl,ys0,ys1,seval,zed,zee,zfr,zhw,ysu,yrg,ysv,ysw,ysx,ysz,ysa,lenV_slice st_esS_65]
    refine W_while (n := 23) 60 (fun k e H' => ∃ i : Nat, k = ls.length - i ∧ i ≤ ls.length ∧ gt 23 e 11 = .int .i64 (i : Nat) ∧ gt 23 e 10 = .int .i64 ls.length ∧ gt 23 e 9 = .slice a ls.length cap ∧ gt 23 e 3 = .slice (some ⟨H.size, 0, none⟩) ls.length ls.length ∧ Fr H H' ∧ H.size < H'.size ∧ H'.get H.size = .rw (tv (fil (ls.map (·.1)) i)) 3 false [])
      ?_ 65 ls.length ⟨0, by omega, by omega, by simp (disch := (first | (simp only [yk,seval]; done) | omega | (simp only [yz] <;> omega) | fail)) only [yg,seval] <;> rfl, by simp (disch := (first | (simp only [yk,seval]; done) | omega | (simp only [yz] <;> omega) | fail)) only [yg,seval], by simp (disch := (first | (simp only [yk,seval]; done) | omega | (simp only [yz] <;> omega) | fail)) only [yg,seval], by simp (disch := (first | (simp only [yk,seval]; done) | omega | (simp only [yz] <;> omega) | fail)) only [yg,seval], by (repeat (first | exact Fr.refl _ | assumption | refine Fr.allocd ?_ _ | refine Fr.put ?_ (by first | omega | (simp only [yz] <;> omega)) _)), by (first | omega | (simp only [yz] <;> omega)), by simp (disch := (first | (simp only [yk,seval]; done) | omega | (simp only [yz] <;> omega) | fail)) only [yg,seval]⟩ (by omega) (by omega)
    rintro M k e H' ⟨i, rfl, hi, g11, g10, g9, g3, fr, hlt, hb⟩
    have f0 := fr.size
    have fs := fr.same
    simp (disch := (first | (simp only [yk,seval]; done) | omega | (simp only [yz] <;> omega) | fail)) only [↓yp,yq0,yq1,yq2,yq3,yq4,yl,ys0,ys1,seval,zed,zee,zfr,zhw,ysu,yrg,ysv,ysw,ysx,ysz,ysa,g11,g10]
    refine ⟨fun hA => ?_, fun hA => ?_⟩
    · have hi' : i < ls.length := by simpa using hA
      have hne : ls ≠ [] := fun h => by rw [h] at hi'; simp at hi'
      obtain ⟨b, o, c, rfl, hb1, hc, hp⟩ := hs.get hne
      obtain ⟨p, hpi⟩ : ∃ p, ls[i]? = some p := ⟨ls[i], by simp [hi']⟩
      have q := hp i p hpi
      have hc' : cellsOf (H'.get b) = some c := by rw [fs b hb1]; exact hc
      have hw2 : w64 ((i : Int) + 1) = ((i + 1 : Nat) : Int) := by rw [w64_of (by omega)]; omega
      have hfl : (tv (fil (ls.map (·.1)) i)).length = ls.length := by rw [tv_len, fil_len (by rw [List.length_map]; omega), List.length_map]
      have hfit : decide (i + 1 ≤ ls.length) = true := by simp; omega
      have hnx := fil_next (t := ls.map (·.1)) (i := i) (v := p.1) (by rw [List.getElem?_map, hpi]; rfl)
      simp (disch := (first | (simp only [yk,seval]; done) | omega | (simp only [yz] <;> omega) | fail)) only [↓yp,yq0,yq1,yq2,yq3,yq4,yl,ys0,ys1,seval,zed,zee,zfr,zhw,ysu,yrg,ysv,ysw,ysx,ysz,ysa,g11,g10,g9,g3,A_indexSlice st_esS_65,A_indexSlice zir,hc',q,hb,hfl,hfit,hw2]
      refine ⟨ls.length - (i + 1), by omega, i + 1, rfl, by omega, ?_, ?_, ?_, ?_, by (repeat (first | exact Fr.refl _ | assumption | refine Fr.allocd ?_ _ | refine Fr.put ?_ (by first | omega | (simp only [yz] <;> omega)) _)), by (first | omega | (simp only [yz] <;> omega)), ?_⟩
      · simp (disch := (first | (simp only [yk,seval]; done) | omega | (simp only [yz] <;> omega) | fail)) only [yg,seval]
      · simp (disch := (first | (simp only [yk,seval]; done) | omega | (simp only [yz] <;> omega) | fail)) only [yg,seval,g10]
      · simp (disch := (first | (simp only [yk,seval]; done) | omega | (simp only [yz] <;> omega) | fail)) only [yg,seval,g9]
      · simp (disch := (first | (simp only [yk,seval]; done) | omega | (simp only [yz] <;> omega) | fail)) only [yg,seval,g3]
      · simp (disch := (first | (simp only [yk,seval]; done) | omega | (simp only [yz] <;> omega) | fail)) only [yg,seval]
        rw [← hnx]
    · have hi' : i = ls.length := by have := of_decide_eq_false hA; omega
      subst hi'
      simp (disch := (first | (simp only [yk,seval]; done) | omega | (simp only [yz] <;> omega) | fail)) only [↓yp,yq0,yq1,yq2,yq3,yq4,yl,ys0,ys1,seval,zed,zee,zfr,zhw,ysu,yrg,ysv,ysw,ysx,ysz,ysa,g3]
      refine ⟨H.size, rfl, fr, Nat.le_refl _, hlt, ?_⟩
      have hfa := fil_all (t := ls.map (·.1))
      rw [List.length_map] at hfa
      rw [hb, hfa]
  · rintro v H' ⟨k, rfl, -⟩; rfl
  · rintro v H' ⟨k, rfl, h1, h2, h3, h4⟩
    exact hq _ _ h1 h2 h3 h4
end Go.Am
namespace Go.Am
open Go.Proofs
variable {T : Tab} {P : Program} {N L : Nat} {H : AHeap} {Q : Bool → Value → AHeap → Prop}
theorem c98w {a : Option Addr} {cap g : Nat} {l : List Int} {caps : List Value} {p : Int → Bool} (hs : Il H a l) (hl : l.length ≤ 65) (hp : ∀ (N : Nat) (H' : AHeap) (n : Int), Fr H H' → acall tabA (aexec tabA Try.prog (N + 60)) g (.int .i64 n :: caps) H' = some (true, .bool (p n), H', H'.size)) :
    acall tabA (aexec tabA Try.prog (N + 170)) 98 [.slice a l.length cap, .func (.func g) ⟨[]⟩ ⟨caps⟩] H = some (true, .bool (l.all p), H, H.size) := by
  refine call_quiet (k := 18) (rs := [.tmp 4]) rfl fn_98 rfl rfl rfl ?_ rfl
  simp (disch := (first | (simp only [yk,seval]; done) | omega | (simp only [yz] <;> omega) | fail)) only [↓yp,yq0,yq1,yq2,yq3,yq4,yl,ys0,ys1,seval,zed,zee,zfr,zhw,ysu,yrg,ysv,ysw,ysx,ysz,ysa,lenV_slice zir]
  refine W_while (n := 18) 70 (fun k e H' => ∃ i, k = l.length - i ∧ i ≤ l.length ∧ gt 18 e 9 = .int .i64 (i : Nat) ∧ gt 18 e 8 = .int .i64 l.length ∧ gt 18 e 7 = .slice a l.length cap ∧ gt 18 e 1 = .func (.func g) ⟨[]⟩ ⟨caps⟩ ∧ Fr H H' ∧ ∀ j s, j < i → l[j]? = some s → p s = true)
    ?_ 65 l.length ⟨0, by omega, by omega, by simp (disch := (first | (simp only [yk,seval]; done) | omega | (simp only [yz] <;> omega) | fail)) only [yg,seval] <;> rfl, by simp (disch := (first | (simp only [yk,seval]; done) | omega | (simp only [yz] <;> omega) | fail)) only [yg,seval], by simp (disch := (first | (simp only [yk,seval]; done) | omega | (simp only [yz] <;> omega) | fail)) only [yg,seval], by simp (disch := (first | (simp only [yk,seval]; done) | omega | (simp only [yz] <;> omega) | fail)) only [yg,seval], Fr.refl _, fun j s hj => by omega⟩ (by omega) (by omega)
  rintro M k e H' ⟨i, rfl, hi, g9, g8, g7, g1, fr, hj⟩
  have f0 := fr.size
  have fs := fr.same
  simp (disch := (first | (simp only [yk,seval]; done) | omega | (simp only [yz] <;> omega) | fail)) only [↓yp,yq0,yq1,yq2,yq3,yq4,yl,ys0,ys1,seval,zed,zee,zfr,zhw,ysu,yrg,ysv,ysw,ysx,ysz,ysa,g9,g8,g7,g1]
  refine ⟨fun hlt => ?_, fun hlt => ?_⟩
  · have hi' : i < l.length := by simpa using hlt
    obtain ⟨b, o, c, rfl, hb, hc, hq⟩ := hs.get (by intro h; subst h; simp at hi')
    obtain ⟨s, his⟩ : ∃ s, l[i]? = some s := ⟨l[i], by simp [hi']⟩
    have hpi := hq i s his
    have hps := fun (N : Nat) => hp N H' s fr
    simp (disch := (first | (simp only [yk,seval]; done) | omega | (simp only [yz] <;> omega) | fail)) only [↓yp,yq0,yq1,yq2,yq3,yq4,yl,ys0,ys1,seval,zed,zee,zfr,zhw,ysu,yrg,ysv,ysw,ysx,ysz,ysa,g9,g8,g7,g1,fs,A_indexSlice zir,hc,hpi,hps]
    refine ⟨fun hA => ?_, fun hA => ?_⟩
    rotate_left
    · have : l.all p = false := by rw [List.all_eq_false]; exact ⟨s, List.mem_of_getElem? his, by rw [hA]; simp⟩
      simp (disch := (first | (simp only [yk,seval]; done) | omega | (simp only [yz] <;> omega) | fail)) only [↓yp,yq0,yq1,yq2,yq3,yq4,yl,ys0,ys1,seval,zed,zee,zfr,zhw,ysu,yrg,ysv,ysw,ysx,ysz,ysa,hA,this]
    have hw2 : w64 ((i : Int) + 1) = ((i + 1 : Nat) : Int) := by rw [w64_of (by omega)]; omega
    simp (disch := (first | (simp only [yk,seval]; done) | omega | (simp only [yz] <;> omega) | fail)) only [↓yp,yq0,yq1,yq2,yq3,yq4,yl,ys0,ys1,seval,zed,zee,zfr,zhw,ysu,yrg,ysv,ysw,ysx,ysz,ysa,hA,g9,g8,g7,g1,hw2]
    refine ⟨l.length - (i + 1), by omega, i + 1, rfl, by omega, ?_, ?_, ?_, ?_, fr, ?_⟩
    · simp (disch := (first | (simp only [yk,seval]; done) | omega | (simp only [yz] <;> omega) | fail)) only [yg,seval]
    · simp (disch := (first | (simp only [yk,seval]; done) | omega | (simp only [yz] <;> omega) | fail)) only [yg,seval,g8]
    · simp (disch := (first | (simp only [yk,seval]; done) | omega | (simp only [yz] <;> omega) | fail)) only [yg,seval,g7]
    · simp (disch := (first | (simp only [yk,seval]; done) | omega | (simp only [yz] <;> omega) | fail)) only [yg,seval,g1]
    · intro j t hj' ht
      by_cases e : j = i
      · subst e; rw [his] at ht; cases ht; exact hA
      · exact hj j t (by omega) ht
  · have hi' : ¬ i < l.length := by simpa using hlt
    have : l.all p = true := by
      rw [List.all_eq_true]
      intro s hs'
      obtain ⟨j, hj'⟩ := List.getElem?_of_mem hs'
      have := (List.getElem?_eq_some_iff.1 hj').1
      exact hj j s (by omega) hj'
    simp (disch := (first | (simp only [yk,seval]; done) | omega | (simp only [yz] <;> omega) | fail)) only [↓yp,yq0,yq1,yq2,yq3,yq4,yl,ys0,ys1,seval,zed,zee,zfr,zhw,ysu,yrg,ysv,ysw,ysx,ysz,ysa,this]
theorem c98wr {a : Option Addr} {cap g : Nat} {l : List Int} {caps : List Value} (p : Int → Bool) (hs : Il H a l) (hl : l.length ≤ 65) (hp : ∀ (N : Nat) (H' : AHeap) (n : Int), Fr H H' → acall tabA (aexec tabA Try.prog (N + 60)) g (.int .i64 n :: caps) H' = some (true, .bool (p n), H', H'.size))
    {M : Nat} (hM : 170 ≤ M) (hq : andK (L ≤ H.size) (Q true (.bool (l.all p)) H)) : resK (acall tabA (aexec tabA Try.prog M) 98 [.slice a l.length cap, .func (.func g) ⟨[]⟩ ⟨caps⟩] H) L Q := by
  obtain ⟨N, rfl⟩ : ∃ N, M = N + 170 := ⟨M - 170, by omega⟩
  rw [c98w hs hl hp]; exact hq

set_option maxHeartbeats 1000000 in
theorem c82w {a ac as' am : Option Addr} {cap kc ks km : Nat} {l : List Str} {cs ss ms : List Int} {C w ld : Int} (hs : Sl H a l) (hl : l.length ≤ 18) (hc : Il H ac cs) (hcl : cs.length ≤ 18) (hss : Il H as' ss) (hsl : ss.length ≤ 65) (hm : Il H am ms) (hml : ms.length ≤ 18) :
    acall tabA (aexec tabA Try.prog (N + 450)) 82 [.agg ⟨[.int .i64 C, .slice a l.length cap]⟩, .agg ⟨[.int .i64 w, .int .i64 ld]⟩, .slice ac cs.length kc, .slice as' ss.length ks, .slice am ms.length km] H = some (true, .int .i64 (asked C l w ld cs ss ms), H, H.size) := by
  refine call_quiet (k := 48) (rs := [.tmp 10]) rfl fn_82 rfl rfl rfl ?_ rfl
  simp (disch := (first | (simp only [yk,seval]; done) | omega | (simp only [yz] <;> omega) | fail)) only [↓yp,yq0,yq1,yq2,yq3,yq4,yl,ys0,ys1,seval,zed,zee,zfr,zhw,ysu,yrg,ysv,ysw,ysx,ysz,ysa]
  rw [c22 (hs.fr (by (repeat (first | exact Fr.refl _ | assumption | refine Fr.allocd ?_ _ | refine Fr.put ?_ (by first | omega | (simp only [yz] <;> omega)) _)))) hl]
  simp (disch := (first | (simp only [yk,seval]; done) | omega | (simp only [yz] <;> omega) | fail)) only [↓yp,yq0,yq1,yq2,yq3,yq4,yl,ys0,ys1,seval,zed,zee,zfr,zhw,ysu,yrg,ysv,ysw,ysx,ysz,ysa]
  by_cases h0 : chk C l = 0
  rotate_left
  · have h0' : decide (chk C l = 0) = false := by simpa using h0
    simp (disch := (first | (simp only [yk,seval]; done) | omega | (simp only [yz] <;> omega) | fail)) only [↓yp,yq0,yq1,yq2,yq3,yq4,yl,ys0,ys1,seval,zed,zee,zfr,zhw,ysu,yrg,ysv,ysw,ysx,ysz,ysa,h0',asked,h0,ne_eq,not_false_eq_true]
  have h0' : decide (chk C l = 0) = true := by simpa using h0
  simp (disch := (first | (simp only [yk,seval]; done) | omega | (simp only [yz] <;> omega) | fail)) only [↓yp,yq0,yq1,yq2,yq3,yq4,yl,ys0,ys1,seval,zed,zee,zfr,zhw,ysu,yrg,ysv,ysw,ysx,ysz,ysa,h0',c78]
  refine ⟨fun hA => ?_, fun hA => ?_⟩
  rotate_left
  · have : off w 1 9 = true := by rw [wi_off] at hA; simpa using hA
    simp (disch := (first | (simp only [yk,seval]; done) | omega | (simp only [yz] <;> omega) | fail)) only [↓yp,yq0,yq1,yq2,yq3,yq4,yl,ys0,ys1,seval,zed,zee,zfr,zhw,ysu,yrg,ysv,ysw,ysx,ysz,ysa,hA,asked,h0,this,ne_eq,not_true_eq_false]
  have hA' : off w 1 9 = false := by rw [wi_off] at hA; simpa using hA
  simp (disch := (first | (simp only [yk,seval]; done) | omega | (simp only [yz] <;> omega) | fail)) only [↓yp,yq0,yq1,yq2,yq3,yq4,yl,ys0,ys1,seval,zed,zee,zfr,zhw,ysu,yrg,ysv,ysw,ysx,ysz,ysa,hA,c78]
  refine ⟨fun hB => ?_, fun hB => ?_⟩
  rotate_left
  · have : off ld 0 9 = true := by rw [wi_off] at hB; simpa using hB
    simp (disch := (first | (simp only [yk,seval]; done) | omega | (simp only [yz] <;> omega) | fail)) only [↓yp,yq0,yq1,yq2,yq3,yq4,yl,ys0,ys1,seval,zed,zee,zfr,zhw,ysu,yrg,ysv,ysw,ysx,ysz,ysa,hA,hB,asked,h0,hA',this,ne_eq,not_true_eq_false]
  have hB' : off ld 0 9 = false := by rw [wi_off] at hB; simpa using hB
  simp (disch := (first | (simp only [yk,seval]; done) | omega | (simp only [yz] <;> omega) | fail)) only [↓yp,yq0,yq1,yq2,yq3,yq4,yl,ys0,ys1,seval,zed,zee,zfr,zhw,ysu,yrg,ysv,ysw,ysx,ysz,ysa,hA,hB,c76]
  have hC := off_iff.1 (chk_ok h0).1
  have hwC : w64 (C - 1) = C - 1 := w64_of (by omega)
  have hwl : w64 ((l.length : Int) - 1) = (l.length : Int) - 1 := w64_of (by omega)
  have hnn : ¬ (off w 1 9 || off ld 0 9) = true := by rw [hA', hB']; simp
  refine c98r (fun n => wi n 0 (w64 (C - 1))) (hc.fr (by (repeat (first | exact Fr.refl _ | assumption | refine Fr.allocd ?_ _ | refine Fr.put ?_ (by first | omega | (simp only [yz] <;> omega)) _)))) hcl (fun N' H' n hf => ?_) (by omega) ?_
  · exact c116 (by rw [hf.same _ (by (first | omega | (simp only [yz] <;> omega)))]; simp (disch := (first | (simp only [yk,seval]; done) | omega | (simp only [yz] <;> omega) | fail)) only [↓yp,yq0,yq1,yq2,yq3,yq4,yl,ys0,ys1,seval,zed,zee,zfr,zhw,ysu,yrg,ysv,ysw,ysx,ysz,ysa])
  rw [all_any (q := fun n => off n 0 (C - 1)) (fun n => by rw [hwC, wi_off])]
  simp (disch := (first | (simp only [yk,seval]; done) | omega | (simp only [yz] <;> omega) | fail)) only [↓yp,yq0,yq1,yq2,yq3,yq4,yl,ys0,ys1,seval,zed,zee,zfr,zhw,ysu,yrg,ysv,ysw,ysx,ysz,ysa]
  refine ⟨fun hD => ?_, fun hD => ?_⟩
  · simp (disch := (first | (simp only [yk,seval]; done) | omega | (simp only [yz] <;> omega) | fail)) only [↓yp,yq0,yq1,yq2,yq3,yq4,yl,ys0,ys1,seval,zed,zee,zfr,zhw,ysu,yrg,ysv,ysw,ysx,ysz,ysa,hD]
    unfold asked
    rw [if_neg (by simpa using h0), if_neg hnn, if_pos hD]
  simp (disch := (first | (simp only [yk,seval]; done) | omega | (simp only [yz] <;> omega) | fail)) only [↓yp,yq0,yq1,yq2,yq3,yq4,yl,ys0,ys1,seval,zed,zee,zfr,zhw,ysu,yrg,ysv,ysw,ysx,ysz,ysa,hD,lenV_slice zio,c76]
  refine c98wr (fun n => wi n 0 (w64 ((l.length : Int) - 1))) (hss.fr (by (repeat (first | exact Fr.refl _ | assumption | refine Fr.allocd ?_ _ | refine Fr.put ?_ (by first | omega | (simp only [yz] <;> omega)) _)))) hsl (fun N' H' n hf => ?_) (by omega) ?_
  · exact c116 (by rw [hf.same _ (by (first | omega | (simp only [yz] <;> omega)))]; simp (disch := (first | (simp only [yk,seval]; done) | omega | (simp only [yz] <;> omega) | fail)) only [↓yp,yq0,yq1,yq2,yq3,yq4,yl,ys0,ys1,seval,zed,zee,zfr,zhw,ysu,yrg,ysv,ysw,ysx,ysz,ysa])
  rw [all_any (q := fun n => off n 0 ((l.length : Int) - 1)) (fun n => by rw [hwl, wi_off])]
  simp (disch := (first | (simp only [yk,seval]; done) | omega | (simp only [yz] <;> omega) | fail)) only [↓yp,yq0,yq1,yq2,yq3,yq4,yl,ys0,ys1,seval,zed,zee,zfr,zhw,ysu,yrg,ysv,ysw,ysx,ysz,ysa,hD]
  have hD' : ¬ (cs.any fun n => off n 0 (C - 1)) = true := by rw [hD]; simp
  refine ⟨fun hE => ?_, fun hE => ?_⟩
  · simp (disch := (first | (simp only [yk,seval]; done) | omega | (simp only [yz] <;> omega) | fail)) only [↓yp,yq0,yq1,yq2,yq3,yq4,yl,ys0,ys1,seval,zed,zee,zfr,zhw,ysu,yrg,ysv,ysw,ysx,ysz,ysa,hD,hE]
    unfold asked
    rw [if_neg (by simpa using h0), if_neg hnn, if_neg hD', if_pos hE]
  simp (disch := (first | (simp only [yk,seval]; done) | omega | (simp only [yz] <;> omega) | fail)) only [↓yp,yq0,yq1,yq2,yq3,yq4,yl,ys0,ys1,seval,zed,zee,zfr,zhw,ysu,yrg,ysv,ysw,ysx,ysz,ysa,hD,hE]
  refine c98r (fun n => wi n 0 240) (hm.fr (by (repeat (first | exact Fr.refl _ | assumption | refine Fr.allocd ?_ _ | refine Fr.put ?_ (by first | omega | (simp only [yz] <;> omega)) _)))) hml (fun N' H' n hf => c100) (by omega) ?_
  rw [all_any (q := fun n => off n 0 240) (fun n => by rw [wi_off])]
  simp (disch := (first | (simp only [yk,seval]; done) | omega | (simp only [yz] <;> omega) | fail)) only [↓yp,yq0,yq1,yq2,yq3,yq4,yl,ys0,ys1,seval,zed,zee,zfr,zhw,ysu,yrg,ysv,ysw,ysx,ysz,ysa,hD,hE]
  have hE' : ¬ (ss.any fun n => off n 0 ((l.length : Int) - 1)) = true := by rw [hE]; simp
  refine ⟨fun hF => ?_, fun hF => ?_⟩
  · simp (disch := (first | (simp only [yk,seval]; done) | omega | (simp only [yz] <;> omega) | fail)) only [↓yp,yq0,yq1,yq2,yq3,yq4,yl,ys0,ys1,seval,zed,zee,zfr,zhw,ysu,yrg,ysv,ysw,ysx,ysz,ysa,hF]
    unfold asked
    rw [if_neg (by simpa using h0), if_neg hnn, if_neg hD', if_neg hE', if_pos hF]
  · simp (disch := (first | (simp only [yk,seval]; done) | omega | (simp only [yz] <;> omega) | fail)) only [↓yp,yq0,yq1,yq2,yq3,yq4,yl,ys0,ys1,seval,zed,zee,zfr,zhw,ysu,yrg,ysv,ysw,ysx,ysz,ysa,hF]
    unfold asked
    rw [if_neg (by simpa using h0), if_neg hnn, if_neg hD', if_neg hE', if_neg (by rw [hF]; simp)]
theorem plan42 {ops : List Oper} {env : Nat → Value} {H : AHeap} {x y : Value} (hd : ops.map (·.dst) = [some 19, some 20, some 21, some 22, some 23, some 24, some 25, some 26, some 27, some 13]) (hx : env 2 = x) (hy : env 3 = y) : tabA.plan ops env H = some [(3, .rw [x] 3 false []), (7, .rw [y] 3 false [])] := by
  rw [planB_hit hd (by decide) (by decide)]
  subst hx hy
  rfl
def pasL (s : Str) (b : Bool) (w ld m : Int) : Int := bif mayL s b w ld then arriveL s b ld m else -1
def folL (l : List Str) (w ld : Int) : Int → Int → List (Int × Bool) → Int × Int × Int
  | x, m, [] => (x, m, 0)
  | x, m, p :: ls => match l[p.1.toNat]? with
    | none => (0, 0, 0)
    | some s => if nearL s p.2 = x then (if pasL s p.2 w ld m = -1 then (0, 0, 1) else folL l w ld (farL s p.2) (pasL s p.2 w ld m) ls) else (0, 0, 8)
def folG (C : Int) (l : List Str) (w ld fr m : Int) (ls : List (Int × Bool)) : Int × Int × Int :=
  if asked C l w ld [fr] (ls.map (·.1)) [m] ≠ 0 then (0, 0, asked C l w ld [fr] (ls.map (·.1)) [m]) else if 60 < ls.length then (0, 0, 3) else folL l w ld fr m ls
theorem pas_ok {s : Str} {b : Bool} {w ld m : Int} (hf : Fit s ld) (h0 : 0 ≤ m) (h : pasL s b w ld m ≠ -1) : m < pasL s b w ld m ∧ pasL s b w ld m ≤ 240 := by
  unfold pasL at h ⊢
  cases hm : mayL s b w ld
  · rw [hm] at h; exact absurd rfl h
  · rw [hm] at h
    simp only [cond_true] at h ⊢
    exact arr_gt hf h0 h
set_option maxHeartbeats 4000000 in
set_option maxRecDepth 10000 in
theorem c42 {a b : Option Addr} {cap cb : Nat} {l : List Str} {C w ld fr m : Int} {ls : List (Int × Bool)} (hs : Sl H a l) (hl : l.length ≤ 18) (hb : Lg H b ls) (hll : ls.length ≤ 65) :
    acall tabA (aexec tabA Try.prog (N + 900)) 42 [.agg ⟨[.int .i64 C, .slice a l.length cap]⟩, .agg ⟨[.int .i64 w, .int .i64 ld]⟩, .int .i64 fr, .int .i64 m, .slice b ls.length cb] H = some (true, .tuple ⟨[.int .i64 (folG C l w ld fr m ls).1, .int .i64 (folG C l w ld fr m ls).2.1, .int .i64 (folG C l w ld fr m ls).2.2]⟩, H, H.size) := by
  refine call_quiet (k := 64) (rs := [.tmp 10, .tmp 11, .tmp 12]) rfl fn_42 rfl rfl rfl ?_ rfl
  refine W_seqI (fun e' H'' => gt 64 e' 2 = .int .i64 fr ∧ gt 64 e' 3 = .int .i64 m ∧ gt 64 e' 4 = .slice b ls.length cb ∧ gt 64 e' 5 = .pointer (some ⟨H.size, 0, none⟩) ∧ gt 64 e' 6 = .pointer (some ⟨H.size + 1, 0, none⟩) ∧ gt 64 e' 10 = .int .i64 0 ∧ gt 64 e' 11 = .int .i64 0 ∧ gt 64 e' 12 = .int .i64 0 ∧ Fr H H'' ∧ H''.size = H.size + 2 ∧ H''.get H.size = .rw [.int .i64 C, .slice a l.length cap] 24 false [] ∧ H''.get (H.size + 1) = .rw [.int .i64 w, .int .i64 ld] 26 false []) ?_ ?_
  · simp (disch := (first | (simp only [yk,seval]; done) | omega | (simp only [yz] <;> omega) | fail)) only [↓yp,yq0,yq1,yq2,yq3,yq4,yl,ys0,ys1,seval,zed,zee,zfr,zhw,ysu,yrg,ysv,ysw,ysx,ysz,ysa]
    refine ⟨?_, ?_, ?_, ?_, ?_, ?_, ?_, ?_, by (repeat (first | exact Fr.refl _ | assumption | refine Fr.allocd ?_ _ | refine Fr.put ?_ (by first | omega | (simp only [yz] <;> omega)) _)), by (first | omega | (simp only [yz] <;> omega)), ?_, ?_⟩ <;> simp (disch := (first | (simp only [yk,seval]; done) | omega | (simp only [yz] <;> omega) | fail)) only [yg,seval]
  rintro e1 H1 ⟨g2, g3, g4, g5, g6, g10, g11, g12, f1, sz1, b5, b6⟩
  refine W_seqI (fun e' H'' => asked C l w ld [fr] (ls.map (·.1)) [m] = 0 ∧ Keep 64 [2, 3, 4, 5, 6, 10, 11, 12] e1 e' ∧ Fr H1 H'') ?_ ?_
  · refine W_seqI (fun e' H'' => Keep 64 [2, 3, 4, 5, 6, 10, 11, 12] e1 e' ∧ Fr H1 H'' ∧ gt 64 e' 13 = .int .i64 (asked C l w ld [fr] (ls.map (·.1)) [m])) ?_ ?_
    · refine W_drawR (pl := [(3, .rw [.int .i64 fr] 3 false []), (7, .rw [.int .i64 m] 3 false [])]) [5] [(8, 0)] (plan42 rfl g2 g3) (by kernel_rfl) (by kernel_rfl) (by kernel_rfl) (by (first | omega | (simp only [yz] <;> omega))) ?_
      simp (disch := (first | (simp only [yk,seval]; done) | omega | (simp only [yz] <;> omega) | fail)) only [↓yp,yq0,yq1,yq2,yq3,yq4,yl,ys0,ys1,seval,zed,zee,zfr,zhw,ysu,yrg,ysv,ysw,ysx,ysz,ysa,g2,g3,g4,g5,g6,b5,b6,newK_row st_brS_52_1]
      refine c93 (hb.fr (f1.trans (by (repeat (first | exact Fr.refl _ | assumption | refine Fr.allocd ?_ _ | refine Fr.put ?_ (by first | omega | (simp only [yz] <;> omega)) _))))) hll (by (first | omega | (simp only [yz] <;> omega))) (by omega) ?_
      intro k H3 f3 q1 q2 q3
      have sz3 := f3.size
      have s3 := f3.same
      simp only [zde] at sz3 q1
      have x5 : H3.get H.size = .rw [.int .i64 C, .slice a l.length cap] 24 false [] := by rw [s3 _ (by (first | omega | (simp only [yz] <;> omega))), zdb (by (first | omega | (simp only [yz] <;> omega))), zdb (by omega)]; exact b5
      have x6 : H3.get (H.size + 1) = .rw [.int .i64 w, .int .i64 ld] 26 false [] := by rw [s3 _ (by (first | omega | (simp only [yz] <;> omega))), zdb (by (first | omega | (simp only [yz] <;> omega))), zdb (by omega)]; exact b6
      have y7 : H3.get H1.size = .rw [.int .i64 fr] 3 false [] := by rw [s3 _ (by (first | omega | (simp only [yz] <;> omega))), zdb (by (first | omega | (simp only [yz] <;> omega))), zda rfl]
      have y8 : H3.get (H1.size + 1) = .rw [.int .i64 m] 3 false [] := by rw [s3 _ (by (first | omega | (simp only [yz] <;> omega))), zda (by (first | omega | (simp only [yz] <;> omega)))]
      have x7 : cellsOf (H3.get H1.size) = some [.int .i64 fr] := by rw [y7]; rfl
      have x8 : cellsOf (H3.get (H1.size + 1)) = some [.int .i64 m] := by rw [y8]; rfl
      have h82 := fun (N : Nat) => c82w (N := N) (H := H3) (C := C) (w := w) (ld := ld) (cap := cap) (kc := 1) (ks := ls.length) (km := 1) (cs := [fr]) (ss := ls.map (·.1)) (ms := [m]) (hs.fr (f1.trans (Fr.trans (by (repeat (first | exact Fr.refl _ | assumption | refine Fr.allocd ?_ _ | refine Fr.put ?_ (by first | omega | (simp only [yz] <;> omega)) _))) f3))) hl (Il.one (lt_of_cells x7) x7) (by simp) (Il.of q2 (by rw [q3]; rfl)) (by rw [List.length_map]; omega) (Il.one (lt_of_cells x8) x8) (by simp)
      simp only [List.length_map,List.length_cons,List.length_nil,Nat.zero_add] at h82
      simp (disch := (first | (simp only [yk,seval]; done) | omega | (simp only [yz] <;> omega) | fail)) only [↓yp,yq0,yq1,yq2,yq3,yq4,yl,ys0,ys1,seval,zed,zee,zfr,zhw,ysu,yrg,ysv,ysw,ysx,ysz,ysa,g2,g3,g4,g5,g6,b5,b6,x5,x6,y7,y8,newK_row st_brS_52_1,h82]
      exact ⟨by (with_reducible (repeat (first | refine Keep.put ?_ (by decide) | refine Keep.none ?_ | assumption | exact Keep.refl _ _ _))), Fr.trans (by (repeat (first | exact Fr.refl _ | assumption | refine Fr.allocd ?_ _ | refine Fr.put ?_ (by first | omega | (simp only [yz] <;> omega)) _))) f3, by simp (disch := (first | (simp only [yk,seval]; done) | omega | (simp only [yz] <;> omega) | fail)) only [yg,seval]⟩
    rintro e2 H2 ⟨k2, f2, g13⟩
    have sf1 := f1.size
    have sf2 := f2.size
    by_cases h0 : asked C l w ld [fr] (ls.map (·.1)) [m] = 0
    · rw [h0] at g13
      simp (disch := (first | (simp only [yk,seval]; done) | omega | (simp only [yz] <;> omega) | fail)) only [↓yp,yq0,yq1,yq2,yq3,yq4,yl,ys0,ys1,seval,zed,zee,zfr,zhw,ysu,yrg,ysv,ysw,ysx,ysz,ysa,g13]
      exact ⟨h0, by (with_reducible (repeat (first | refine Keep.put ?_ (by decide) | refine Keep.none ?_ | assumption | exact Keep.refl _ _ _))), f2⟩
    · have h0' : decide (asked C l w ld [fr] (ls.map (·.1)) [m] = 0) = false := by simpa using h0
      have hG : folG C l w ld fr m ls = (0, 0, asked C l w ld [fr] (ls.map (·.1)) [m]) := by unfold folG; rw [if_pos h0]
      simp (disch := (first | (simp only [yk,seval]; done) | omega | (simp only [yz] <;> omega) | fail)) only [↓yp,yq0,yq1,yq2,yq3,yq4,yl,ys0,ys1,seval,zed,zee,zfr,zhw,ysu,yrg,ysv,ysw,ysx,ysz,ysa,g13,h0',hG]
  rintro e2 H2 ⟨h0, k2, f2⟩
  have f02 := f1.trans f2
  have g2' := (k2 2 (by simp)).trans g2
  have g3' := (k2 3 (by simp)).trans g3
  have g4' := (k2 4 (by simp)).trans g4
  have g5' := (k2 5 (by simp)).trans g5
  have g6' := (k2 6 (by simp)).trans g6
  have g10' := (k2 10 (by simp)).trans g10
  have g11' := (k2 11 (by simp)).trans g11
  have g12' := (k2 12 (by simp)).trans g12
  have sz2 := f02.size
  have sz21 := f2.size
  have b5' := (f2.same H.size (by omega)).trans b5
  have b6' := (f2.same (H.size + 1) (by omega)).trans b6
  clear g2 g3 g4 g5 g6 g10 g11 g12 b5 b6 k2
  by_cases h60 : 60 < ls.length
  · have hG : folG C l w ld fr m ls = (0, 0, 3) := by unfold folG; rw [if_neg (by simpa using h0), if_pos h60]
    have hd : decide ((60 : Int) < ls.length) = true := by simp; omega
    simp (disch := (first | (simp only [yk,seval]; done) | omega | (simp only [yz] <;> omega) | fail)) only [↓yp,yq0,yq1,yq2,yq3,yq4,yl,ys0,ys1,seval,zed,zee,zfr,zhw,ysu,yrg,ysv,ysw,ysx,ysz,ysa,g4',lenV_slice st_esS_65,hd,hG]
  have hG : folG C l w ld fr m ls = folL l w ld fr m ls := by unfold folG; rw [if_neg (by simpa using h0), if_neg h60]
  rw [hG]
  have hd : decide ((60 : Int) < ls.length) = false := by simp; omega
  obtain ⟨hc, hw, hld, hcs, hss, hms⟩ := asked_ok h0
  have gd := good_of hc hld
  have hm := hms m (by simp)
  simp (disch := (first | (simp only [yk,seval]; done) | omega | (simp only [yz] <;> omega) | fail)) only [↓yp,yq0,yq1,yq2,yq3,yq4,yl,ys0,ys1,seval,zed,zee,zfr,zhw,ysu,yrg,ysv,ysw,ysx,ysz,ysa,g4',g5',g6',b5',b6',lenV_slice st_esS_65,hd]
  refine c83q (hs.fr f02).none_len (by (first | omega | (simp only [yz] <;> omega))) (by omega) ?_
  intro b3 H3 f3
  have sz3 := f3.size
  have f03 := f02.trans f3
  have q5 := (f3.same H.size (by omega)).trans b5'
  have q6 := (f3.same (H.size + 1) (by omega)).trans b6'
  simp (disch := (first | (simp only [yk,seval]; done) | omega | (simp only [yz] <;> omega) | fail)) only [↓yp,yq0,yq1,yq2,yq3,yq4,yl,ys0,ys1,seval,zed,zee,zfr,zhw,ysu,yrg,ysv,ysw,ysx,ysz,ysa,g2',g3',g4',g5',g6',q5,q6,lenV_slice st_esS_65,jobV]
  refine W_while (n := 64) 400 (fun k e H' => ∃ (i : Nat) (x m' : Int), k = ls.length - i ∧ i ≤ ls.length ∧ gt 64 e 41 = .int .i64 (i : Nat) ∧ gt 64 e 40 = .int .i64 ls.length ∧ gt 64 e 39 = .slice b ls.length cb ∧ gt 64 e 14 = .pointer (some ⟨H3.size, 0, none⟩) ∧ gt 64 e 10 = .int .i64 x ∧ gt 64 e 11 = .int .i64 m' ∧ (0 ≤ m' ∧ m' ≤ 240) ∧ Fr H H' ∧ H3.size < H'.size ∧ H'.get H3.size = .rw [.int .i64 C, .slice a l.length cap, .int .i64 w, .int .i64 ld, .int .i64 (-1)] 124 false [] ∧ folL l w ld x m' (ls.drop i) = folL l w ld fr m ls)
    ?_ 60 ls.length ⟨0, fr, m, by omega, by omega, by simp (disch := (first | (simp only [yk,seval]; done) | omega | (simp only [yz] <;> omega) | fail)) only [yg,seval] <;> rfl, by simp (disch := (first | (simp only [yk,seval]; done) | omega | (simp only [yz] <;> omega) | fail)) only [yg,seval], by simp (disch := (first | (simp only [yk,seval]; done) | omega | (simp only [yz] <;> omega) | fail)) only [yg,seval], by simp (disch := (first | (simp only [yk,seval]; done) | omega | (simp only [yz] <;> omega) | fail)) only [yg,seval], by simp (disch := (first | (simp only [yk,seval]; done) | omega | (simp only [yz] <;> omega) | fail)) only [yg,seval], by simp (disch := (first | (simp only [yk,seval]; done) | omega | (simp only [yz] <;> omega) | fail)) only [yg,seval], hm, by (repeat (first | exact Fr.refl _ | assumption | refine Fr.allocd ?_ _ | refine Fr.put ?_ (by first | omega | (simp only [yz] <;> omega)) _)), by (first | omega | (simp only [yz] <;> omega)), by simp (disch := (first | (simp only [yk,seval]; done) | omega | (simp only [yz] <;> omega) | fail)) only [yg,seval], by simp⟩ (by omega) (by omega)
  clear g2' g3' g4' g5' g6' g10' g11' g12' b5' b6' q5 q6 hG
  rintro M k e H' ⟨i, x, m', rfl, hi, g41, g40, g39, g14, g10, g11, hm', fr', hlt, b14, hfol⟩
  have szf := fr'.size
  simp (disch := (first | (simp only [yk,seval]; done) | omega | (simp only [yz] <;> omega) | fail)) only [↓yp,yq0,yq1,yq2,yq3,yq4,yl,ys0,ys1,seval,zed,zee,zfr,zhw,ysu,yrg,ysv,ysw,ysx,ysz,ysa,g41,g40]
  refine ⟨fun hA => ?_, fun hA => ?_⟩
  rotate_left
  · have hi' : i = ls.length := by have := of_decide_eq_false hA; omega
    subst hi'
    rw [List.drop_length] at hfol
    simp only [folL] at hfol
    simp (disch := (first | (simp only [yk,seval]; done) | omega | (simp only [yz] <;> omega) | fail)) only [↓yp,yq0,yq1,yq2,yq3,yq4,yl,ys0,ys1,seval,zed,zee,zfr,zhw,ysu,yrg,ysv,ysw,ysx,ysz,ysa,g10,g11]
    rw [← hfol]
  have hi' : i < ls.length := by simpa using hA
  have hne : ls ≠ [] := fun h => by rw [h] at hi'; simp at hi'
  obtain ⟨bb, o, c, rfl, hb1, hcl, hp⟩ := hb.get hne
  obtain ⟨p, hpi⟩ : ∃ p, ls[i]? = some p := ⟨ls[i], by simp [hi']⟩
  have hrow := hp i p hpi
  have hcl' : cellsOf (H'.get bb) = some c := by rw [fr'.same bb hb1]; exact hcl
  have hw2 : w64 ((i : Int) + 1) = ((i + 1 : Nat) : Int) := by rw [w64_of (by omega)]; omega
  have hpr := hss p.1 (List.mem_map.2 ⟨p, List.mem_of_getElem? hpi, rfl⟩)
  obtain ⟨q, hq⟩ : ∃ q : Nat, p.1 = q := ⟨p.1.toNat, by omega⟩
  obtain ⟨s, hsq⟩ : ∃ s, l[q]? = some s := ⟨l[q]'(by omega), by simp [show q < l.length by omega]⟩
  have hdr : ls.drop i = p :: ls.drop (i + 1) := by
    rw [List.drop_eq_getElem_cons hi']
    rw [(List.getElem?_eq_some_iff.1 hpi).2]
  rw [hdr] at hfol
  simp only [folL,hq,Int.toNat_natCast,hsq] at hfol
  have hf := gd.fit (List.mem_of_getElem? hsq)
  have ht := hf.takes p.2
  have u1 := hf.mi
  have u2 := hf.ul
  have u3 := hf.hi
  have h94 := fun (N : Nat) (H'' : AHeap) (f : Fr H H'') => c94 (N := N) (C := C) (w := w) (ld := ld) (cap := cap) (b := p.2) (hs.fr f) hsq
  have h84 := fun (N : Nat) (H'' : AHeap) (f : Fr H H'') => c84 (N := N) (C := C) (w := w) (ld := ld) (m := m') (cap := cap) (b := p.2) (hs.fr f) hsq (fun N' H'' f' => c117 (N := N') (C := C) (w := w) (cap := cap) (b := p.2) ((hs.fr f).fr f') hsq (w64_of (by omega)) (w64_of (by omega)) (w64_of (by omega)) (w64_of (by omega)) (w64_of (by omega)) (by omega))
  simp only [jobV,legV] at h94 h84
  rw [hq] at hrow
  simp (disch := (first | (simp only [yk,seval]; done) | omega | (simp only [yz] <;> omega) | fail)) only [↓yp,yq0,yq1,yq2,yq3,yq4,yl,ys0,ys1,seval,zed,zee,zfr,zhw,ysu,yrg,ysv,ysw,ysx,ysz,ysa,g41,g39,A_indexSlice st_esS_65,hcl',hrow]
  simp (disch := (first | (simp only [yk,seval]; done) | omega | (simp only [yz] <;> omega) | fail)) only [↓yp,yq0,yq1,yq2,yq3,yq4,yl,ys0,ys1,seval,zed,zee,zfr,zhw,ysu,yrg,ysv,ysw,ysx,ysz,ysa,g14,b14]
  rw [h94 _ _ (by (repeat (first | exact Fr.refl _ | assumption | refine Fr.allocd ?_ _ | refine Fr.put ?_ (by first | omega | (simp only [yz] <;> omega)) _)))]
  simp (disch := (first | (simp only [yk,seval]; done) | omega | (simp only [yz] <;> omega) | fail)) only [↓yp,yq0,yq1,yq2,yq3,yq4,yl,ys0,ys1,seval,zed,zee,zfr,zhw,ysu,yrg,ysv,ysw,ysx,ysz,ysa,g10]
  refine ⟨fun hB => ?_, fun hB => ?_⟩
  rotate_left
  · have hB' : nearL s p.2 ≠ x := by simpa using hB
    rw [if_neg hB'] at hfol
    simp (disch := (first | (simp only [yk,seval]; done) | omega | (simp only [yz] <;> omega) | fail)) only [↓yp,yq0,yq1,yq2,yq3,yq4,yl,ys0,ys1,seval,zed,zee,zfr,zhw,ysu,yrg,ysv,ysw,ysx,ysz,ysa]
    rw [← hfol]
  have hB' : nearL s p.2 = x := by simpa using hB
  rw [if_pos hB'] at hfol
  simp (disch := (first | (simp only [yk,seval]; done) | omega | (simp only [yz] <;> omega) | fail)) only [↓yp,yq0,yq1,yq2,yq3,yq4,yl,ys0,ys1,seval,zed,zee,zfr,zhw,ysu,yrg,ysv,ysw,ysx,ysz,ysa,g14,b14,g11]
  rw [h84 _ _ (by (repeat (first | exact Fr.refl _ | assumption | refine Fr.allocd ?_ _ | refine Fr.put ?_ (by first | omega | (simp only [yz] <;> omega)) _)))]
  simp (disch := (first | (simp only [yk,seval]; done) | omega | (simp only [yz] <;> omega) | fail)) only [↓yp,yq0,yq1,yq2,yq3,yq4,yl,ys0,ys1,seval,zed,zee,zfr,zhw,ysu,yrg,ysv,ysw,ysx,ysz,ysa]
  refine ⟨fun hD => ?_, fun hD => ?_⟩
  · have hD' : pasL s p.2 w ld m' = -1 := of_decide_eq_true hD
    rw [if_pos hD'] at hfol
    simp (disch := (first | (simp only [yk,seval]; done) | omega | (simp only [yz] <;> omega) | fail)) only [↓yp,yq0,yq1,yq2,yq3,yq4,yl,ys0,ys1,seval,zed,zee,zfr,zhw,ysu,yrg,ysv,ysw,ysx,ysz,ysa]
    rw [← hfol]
  have hD' : pasL s p.2 w ld m' ≠ -1 := of_decide_eq_false hD
  rw [if_neg hD'] at hfol
  have hpo := pas_ok hf hm'.1 hD'
  simp (disch := (first | (simp only [yk,seval]; done) | omega | (simp only [yz] <;> omega) | fail)) only [↓yp,yq0,yq1,yq2,yq3,yq4,yl,ys0,ys1,seval,zed,zee,zfr,zhw,ysu,yrg,ysv,ysw,ysx,ysz,ysa,g41,hw2]
  refine ⟨ls.length - (i + 1), by omega, i + 1, farL s p.2, pasL s p.2 w ld m', rfl, by omega, ?_, ?_, ?_, ?_, ?_, ?_, by omega, by (repeat (first | exact Fr.refl _ | assumption | refine Fr.allocd ?_ _ | refine Fr.put ?_ (by first | omega | (simp only [yz] <;> omega)) _)), by (first | omega | (simp only [yz] <;> omega)), ?_, hfol⟩
  · simp (disch := (first | (simp only [yk,seval]; done) | omega | (simp only [yz] <;> omega) | fail)) only [yg,seval]
  · simp (disch := (first | (simp only [yk,seval]; done) | omega | (simp only [yz] <;> omega) | fail)) only [yg,seval,g40]
  · simp (disch := (first | (simp only [yk,seval]; done) | omega | (simp only [yz] <;> omega) | fail)) only [yg,seval,g39]
  · simp (disch := (first | (simp only [yk,seval]; done) | omega | (simp only [yz] <;> omega) | fail)) only [yg,seval,g14]
  · simp (disch := (first | (simp only [yk,seval]; done) | omega | (simp only [yz] <;> omega) | fail)) only [yg,seval]
  · simp (disch := (first | (simp only [yk,seval]; done) | omega | (simp only [yz] <;> omega) | fail)) only [yg,seval,pasL]
  · rw [zdd (by omega), zdb (by omega)]; exact b14
end Go.Am
