import Derived.Test.YtjpcaamfcfkmhaaT18
set_option linter.unusedSimpArgs false
set_option linter.unusedVariables false
namespace Go.Am
open Go.Proofs
def decI : List Value → Option (List Int)
 | [] => some []
 | .int .i64 n :: l => match decI l with
  | some t => some (n :: t)
  | none => none
 | _ => none
theorem decI_ok : ∀ {l : List Value} {t : List Int}, decI l = some t → l = tv t
 | [], t, h => by cases h; rfl
 | .int .i64 n :: l, t, h => by
  rw [decI] at h
  split at h
  ·rename_i t' h'
   cases h
   rw [decI_ok h']; rfl
  ·cases h
 | .int .i8 n :: l, t, h => by cases h
 | .int .i16 n :: l, t, h => by cases h
 | .int .i32 n :: l, t, h => by cases h
 | .int .u8 n :: l, t, h => by cases h
 | .int .u16 n :: l, t, h => by cases h
 | .int .u32 n :: l, t, h => by cases h
 | .int .u64 n :: l, t, h => by cases h
 | .bool b :: l, t, h => by cases h
def decPk : List Int → Option (List Pk)
 | [] => some []
 | s :: w :: o :: f :: l => match decPk l with
  | some ps => some (⟨s, w, o, f⟩ :: ps)
  | none => none
 | _ => none
theorem decPk_ok : ∀ {t : List Int} {ps : List Pk}, decPk t = some ps → tv t = pkE.fl ps
 | [], ps, h => by cases h; rfl
 | s :: w :: o :: f :: l, ps, h => by
  rw [decPk] at h
  split at h
  ·rename_i t' h'
   cases h
   show Value.int .i64 s :: .int .i64 w :: .int .i64 o :: .int .i64 f :: tv l = _
   rw [decPk_ok h']; rfl
  ·cases h
def decGd : List Int → Option (List Gd)
 | [] => some []
 | f :: p :: l => match decGd l with
  | some ps => some (⟨f, p⟩ :: ps)
  | none => none
 | _ => none
theorem decGd_ok : ∀ {t : List Int} {ps : List Gd}, decGd t = some ps → tv t = gdE.fl ps
 | [], ps, h => by cases h; rfl
 | f :: p :: l, ps, h => by
  rw [decGd] at h
  split at h
  ·rename_i t' h'
   cases h
   show Value.int .i64 f :: .int .i64 p :: tv l = _
   rw [decGd_ok h']; rfl
  ·cases h
def Pk.okB (p : Pk) : Bool := (decide (0 ≤ p.s) && decide (p.s ≤ 6)) && ((decide (0 ≤ p.w) && decide (p.w ≤ p.s)) && ((decide (0 ≤ p.o) && decide (p.o ≤ p.s)) && (decide (0 ≤ p.f) && decide (p.f ≤ p.o))))
theorem Pk.okB_ok {p : Pk} (h : p.okB = true) : p.Ok := by
 simp only [Pk.okB,Bool.and_eq_true,decide_eq_true_eq] at h
 exact ⟨h.1, h.2.1, h.2.2.1, h.2.2.2⟩
def Gd.okB (g : Gd) : Bool := (decide (0 ≤ g.fo) && decide (g.fo ≤ 100)) && (decide (0 ≤ g.pr) && decide (g.pr ≤ 100))
theorem Gd.okB_ok {g : Gd} (h : g.okB = true) : g.Ok := by
 simp only [Gd.okB,Bool.and_eq_true,decide_eq_true_eq] at h
 exact ⟨h.1, h.2⟩
def sackB (n : Int) : Bool := decide (0 ≤ n) && decide (n ≤ 6)
def rowI (H : AHeap) (a : Option Addr) (n : Nat) : Option (List Int) := match a with
 | some a => match a.spot, cellsOf (H.get a.block) with
  | none, some c => bif Nat.blt a.block H.size && Nat.beq ((c.drop a.off).take n).length n then decI ((c.drop a.off).take n) else none
  | _, _ => none
 | none => none
theorem rowI_ok {α : Type} {E : Enc α} {H : AHeap} {a : Option Addr} {l : List α} {t : List Int} (h : rowI H a (l.length * E.z) = some t) (he : tv t = E.fl l) : Rw E H a l := by
 unfold rowI at h
 split at h
 ·rename_i a
  split at h
  ·rename_i c hs hc
   cases hb : (Nat.blt a.block H.size && Nat.beq ((c.drop a.off).take (l.length * E.z)).length (l.length * E.z))
   ·rw [hb] at h; cases h
   ·rw [hb, cond_true] at h
    simp only [Bool.and_eq_true] at hb
    obtain ⟨b, o, s⟩ := a
    simp only at hs hc hb h
    subst hs
    exact ⟨fun _ => ⟨b, o, c, rfl, by have h1 := hb.1; simp [Nat.blt] at h1; omega, hc, by rw [decI_ok h, he]⟩⟩
  ·cases h
 ·cases h
theorem rowI_len {H : AHeap} {a : Option Addr} {n : Nat} {t : List Int} (h : rowI H a n = some t) : t.length = n := by
 unfold rowI at h
 split at h
 ·rename_i a
  split at h
  ·rename_i c hs hc
   cases hb : (Nat.blt a.block H.size && Nat.beq ((c.drop a.off).take n).length n)
   ·rw [hb] at h; cases h
   ·rw [hb, cond_true] at h
    simp only [Bool.and_eq_true] at hb
    have := decI_ok h
    have h2 := Nat.eq_of_beq_eq_true hb.2
    rw [this, tv_len] at h2
    exact h2
  ·cases h
 ·cases h
def work4 (args : List Value) (H : AHeap) : Option (List Pk × List Int × Value) := match args with
 | [.agg w, .agg m] => match w.toList with
  | [.slice a n cap, g, lo, mp] => bif Nat.ble n 4 then match rowI H a (n * 4), decI m.toList with
    | some t, some ms => match decPk t with
     | some ps => bif (ps.all Pk.okB && (Nat.beq ms.length 4 && ms.all sackB)) && (sameV 5 g g && (sameV 5 lo lo && sameV 5 mp mp)) then some (ps, ms, g) else none
     | none => none
    | _, _ => none
   else none
  | _ => none
 | _ => none
structure Work4 (args : List Value) (H : AHeap) (ps : List Pk) (ms : List Int) (g : Value) : Prop where
 ex : ∃ a cap lo mp, args = [.agg ⟨[.slice a ps.length cap, g, lo, mp]⟩, .agg ⟨tv ms⟩] ∧ Rw pkE H a ps ∧ sameV 5 lo lo = true ∧ sameV 5 mp mp = true
 pl : ps.length ≤ 4
 pk : ∀ p ∈ ps, p.Ok
 ml : ms.length = 4
 mb : ∀ n ∈ ms, 0 ≤ n ∧ n ≤ 6
 sg : sameV 5 g g = true
theorem work4_ok {args : List Value} {H : AHeap} {ps : List Pk} {ms : List Int} {g : Value} (h : work4 args H = some (ps, ms, g)) : Work4 args H ps ms g := by
 unfold work4 at h
 split at h
 ·rename_i w m
  split at h
  ·rename_i a n cap g' lo mp hw
   cases hn : Nat.ble n 4
   ·rw [hn] at h; cases h
   ·rw [hn, cond_true] at h
    split at h
    ·rename_i t ms' ht hm
     split at h
     ·rename_i ps' hps
      cases hb : (ps'.all Pk.okB && (Nat.beq ms'.length 4 && ms'.all sackB)) && (sameV 5 g' g' && (sameV 5 lo lo && sameV 5 mp mp))
      ·rw [hb] at h; cases h
      ·rw [hb, cond_true] at h
       cases h
       simp only [Bool.and_eq_true,List.all_eq_true] at hb
       obtain ⟨⟨h1, h2, h3⟩, h4, h5, h6⟩ := hb
       have hd := decPk_ok hps
       have hl : n = ps.length := by
        have e1 := rowI_len ht
        have e2 := congrArg List.length hd
        rw [tv_len, fl_length, e1] at e2
        rw [show pkE.z = 4 from rfl] at e2
        omega
       subst hl
       obtain ⟨w⟩ := w
       obtain ⟨m⟩ := m
       simp only at hw hm
       subst hw
       exact ⟨⟨a, cap, lo, mp, by rw [← decI_ok hm], rowI_ok (E := pkE) ht hd, h5, h6⟩, Nat.le_of_ble_eq_true hn, fun p hp => Pk.okB_ok (h1 p hp), Nat.eq_of_beq_eq_true h2, fun n hn => by have := h3 n hn; simpa [sackB] using this, h4⟩
     ·cases h
    ·cases h
  ·cases h
 ·cases h
def nat120 (args : List Value) (H : AHeap) : Option (Bool × Value × AHeap × Nat) := match work4 args H with
 | some (ps, ms, _) => some (true, .agg ⟨[.int .i64 (isum ms), .int .i64 (isum (fo false ps ms))]⟩, H, H.size)
 | none => none
def nat92 (args : List Value) (H : AHeap) : Option (Bool × Value × AHeap × Nat) := match work4 args H with
 | some (ps, ms, .slice a n _) => bif Nat.ble n 4 then match rowI H a (n * 2) with
   | some t => match decGd t with
    | some gs => bif gs.all Gd.okB then some (true, .agg ⟨(grd ps gs ms).enc⟩, H, H.size) else none
    | none => none
   | none => none
  else none
 | _ => none
theorem nat120_ok {args : List Value} {H : AHeap} {r : Bool × Value × AHeap × Nat} {N : Nat} (h : nat120 args H = some r) : acall tabA (aexec tabA Try.prog (N + 400)) 120 args H = some r := by
 unfold nat120 at h
 split at h
 ·rename_i ps ms g hw
  cases h
  obtain ⟨⟨a, cap, lo, mp, rfl, h1, h2, h3⟩, h4, h5, h6, h7, h8⟩ := work4_ok hw
  exact c120 h1 h4 h5 h6 h7 h8 h2 h3
 ·cases h
theorem nat92_ok {args : List Value} {H : AHeap} {r : Bool × Value × AHeap × Nat} {N : Nat} (h : nat92 args H = some r) : acall tabA (aexec tabA Try.prog (N + 600)) 92 args H = some r := by
 unfold nat92 at h
 split at h
 ·rename_i ps ms a' n cap' hw
  cases hn : Nat.ble n 4
  ·rw [hn] at h; cases h
  ·rw [hn, cond_true] at h
   split at h
   ·rename_i t ht
    split at h
    ·rename_i gs hg
     cases hb : gs.all Gd.okB
     ·rw [hb] at h; cases h
     ·rw [hb, cond_true] at h
      cases h
      rw [List.all_eq_true] at hb
      have hd := decGd_ok hg
      have hl : n = gs.length := by
       have e1 := rowI_len ht
       have e2 := congrArg List.length hd
       rw [tv_len, fl_length, e1] at e2
       rw [show gdE.z = 2 from rfl] at e2
       omega
      subst hl
      obtain ⟨⟨a, cap, lo, mp, rfl, h1, h2, h3⟩, h4, h5, h6, h7, h8⟩ := work4_ok hw
      exact c92 h1 h4 h5 (rowI_ok (E := gdE) ht hd) (Nat.le_of_ble_eq_true hn) (fun g hg => Gd.okB_ok (hb g hg)) h6 h7 h2 h3
    ·cases h
   ·cases h
 ·cases h
def sumB (n : Int) : Bool := decide (0 ≤ n) && decide (n ≤ 1000000)
def nat76 (args : List Value) (H : AHeap) : Option (Bool × Value × AHeap × Nat) := match args with
 | [.agg m] => match decI m.toList with
  | some ms => bif Nat.beq ms.length 4 && ms.all sumB then some (true, .int .i64 (isum ms), H, H.size) else none
  | none => none
 | _ => none
theorem nat76_ok {args : List Value} {H : AHeap} {r : Bool × Value × AHeap × Nat} {N : Nat} (h : nat76 args H = some r) : acall tabA (aexec tabA Try.prog (N + 200)) 76 args H = some r := by
 unfold nat76 at h
 split at h
 ·rename_i m
  split at h
  ·rename_i ms hm
   cases hb : (Nat.beq ms.length 4 && ms.all sumB)
   ·rw [hb] at h; cases h
   ·rw [hb, cond_true] at h
    cases h
    simp only [Bool.and_eq_true,List.all_eq_true] at hb
    obtain ⟨m⟩ := m
    simp only at hm
    rw [decI_ok hm]
    exact c76 (Nat.eq_of_beq_eq_true hb.1) fun x hx => by have := hb.2 x hx; simpa [sumB] using this
  ·cases h
 ·cases h
def natM (f : FuncId) (args : List Value) (H : AHeap) : Option (Bool × Value × AHeap × Nat) :=
 bif Nat.beq f 120 then nat120 args H else bif Nat.beq f 92 then nat92 args H else bif Nat.beq f 76 then nat76 args H else none
theorem natM_ok {f : FuncId} {args : List Value} {H : AHeap} {r : Bool × Value × AHeap × Nat} (h : natM f args H = some r) : ∃ N, acall tabA (aexec tabA Try.prog N) f args H = some r := by
 unfold natM at h
 cases h1 : Nat.beq f 120
 ·rw [h1, cond_false] at h
  cases h2 : Nat.beq f 92
  ·rw [h2, cond_false] at h
   cases h3 : Nat.beq f 76
   ·rw [h3] at h; cases h
   ·rw [h3, cond_true] at h
    rw [Nat.eq_of_beq_eq_true h3]
    exact ⟨0 + 200, nat76_ok h⟩
  ·rw [h2, cond_true] at h
   rw [Nat.eq_of_beq_eq_true h2]
   exact ⟨0 + 600, nat92_ok h⟩
 ·rw [h1, cond_true] at h
  rw [Nat.eq_of_beq_eq_true h1]
  exact ⟨0 + 400, nat120_ok h⟩
noncomputable def tabN : Tab := ⟨tab.und, tab.inf, tab.fn, natM, tab.plan⟩
theorem tabN_fits : tabN.Fits Try.prog where
 und := tab_fits.und
 inf := tab_fits.inf
 fn := tab_fits.fn
 mixed := tab_fits.mixed
 memo f args H b v H' m h := by
  obtain ⟨N, h⟩ := natM_ok h
  obtain ⟨⟨fn, c, hc⟩, h2, h3⟩ := acall_ok tabA_fits (aexec_ok tabA_fits N).1 h
  exact ⟨⟨fn, c, hc.1, hc.2, hc.3⟩, h2, h3⟩
noncomputable def Tab.knows4 (T : Tab) (ks ls : List Loud) (qs : List Quiet) : Tab := ⟨T.und, T.inf, T.fn, fun f args H => loudF ks f args H (framF ls f args H (quietsF qs f args H (T.memo f args H))), T.plan⟩
theorem Tab.knows4_fits {T : Tab} {P : Program} (hT : T.Fits P) {ks ls : List Loud} {qs : List Quiet} (hk : louds P ks) (hl : louds2 P ls) (hq : quiets P qs) : (T.knows4 ks ls qs).Fits P where
 und := hT.und
 inf := hT.inf
 fn := hT.fn
 mixed := hT.mixed
 memo f args H b v H' m h := by
  rcases loudF_ok hk h with ⟨rfl, h1, h2⟩ | h
  ·exact ⟨h1, h2, fun h => by cases h⟩
  ·rcases framF_ok hl h with ⟨rfl, h1, h2⟩ | h
   ·exact ⟨h1, h2, fun h => by cases h⟩
   ·rcases quietsF_ok hq h with ⟨rfl, rfl, h1, h2⟩ | h
    ·exact ⟨h1, h2, fun _ => ⟨rfl, rfl⟩⟩
    ·exact hT.memo _ _ _ _ _ _ _ h
theorem ok2 {P : Program} {e : Loud} (h : e.Ok P) (hc : closedE e = true) : e.Ok2 P := ⟨h, hc⟩
end Go.Am
namespace Go.Am
open Go.Proofs
variable {T : Tab} {P : Program} {N L : Nat} {H : AHeap} {Q : Bool → Value → AHeap → Prop}
theorem pureRun_bind {α β : Type} (P : Program) (s : Sem α) (f : α → Sem β) : pureRun P (s >>= f) = (pureRun P s).bind fun a => pureRun P (f a) := by
 show pureRun P (Sem.bind s f) = _
 induction s with
 | pure a => rfl
 | program k ih => simp only [Sem.bind,pureRun]; exact ih P
 | _ => rfl
theorem prI {n : Nat} {a b : Int} : pureRun Try.prog (Op.equalIn (n + 1) 3 (.int .i64 a) (.int .i64 b)) = some (a == b) := by kernel_rfl
theorem prG : pureRun Try.prog program = some Try.prog := rfl
theorem prPure {α : Type} {P : Program} (a : α) : pureRun P (pure a : Sem α) = some a := rfl
theorem prH : pureRun Try.prog (underlying 119) = some (.array 4 3) := by kernel_rfl
theorem prZ : pureRun Try.prog (sizeOf 3) = some 1 := by kernel_rfl
section
variable {a b c d : Int}
theorem pr0 : pureRun Try.prog (Go.part 3 ⟨[.int .i64 a, .int .i64 b, .int .i64 c, .int .i64 d]⟩ 0) = some (.int .i64 a) := by kernel_rfl
theorem pr1 : pureRun Try.prog (Go.part 3 ⟨[.int .i64 a, .int .i64 b, .int .i64 c, .int .i64 d]⟩ 1) = some (.int .i64 b) := by kernel_rfl
theorem pr2 : pureRun Try.prog (Go.part 3 ⟨[.int .i64 a, .int .i64 b, .int .i64 c, .int .i64 d]⟩ 2) = some (.int .i64 c) := by kernel_rfl
theorem pr3 : pureRun Try.prog (Go.part 3 ⟨[.int .i64 a, .int .i64 b, .int .i64 c, .int .i64 d]⟩ 3) = some (.int .i64 d) := by kernel_rfl
end
theorem eq119 {a b c d a' b' c' d' : Int} : pureRun Try.prog (Op.equal 119 (.agg ⟨[.int .i64 a, .int .i64 b, .int .i64 c, .int .i64 d]⟩) (.agg ⟨[.int .i64 a', .int .i64 b', .int .i64 c', .int .i64 d']⟩)) = some (decide ([a, b, c, d] = [a', b', c', d'])) := by
 show pureRun Try.prog (Op.equalIn (9998 + 1 + 1) 119 _ _) = _
 unfold Op.equalIn
 rw [pureRun_bind, prH]
 simp only [Option.bind_some,pureRun_bind,prZ]
 by_cases h0 : a = a'
 ·by_cases h1 : b = b'
  ·by_cases h2 : c = c'
   ·by_cases h3 : d = d'
    ·subst h0 h1 h2 h3
     simp [prPure, pureRun_bind, pr0, pr1, pr2, pr3, prI, List.range']
    ·subst h0 h1 h2
     simp [prPure, pureRun_bind, pr0, pr1, pr2, pr3, prI, List.range', h3]
   ·subst h0 h1
    simp [prPure, pureRun_bind, pr0, pr1, pr2, pr3, prI, List.range', h2]
  ·subst h0
   simp [prPure, pureRun_bind, pr0, pr1, pr2, pr3, prI, List.range', h1]
 ·simp [prPure, pureRun_bind, pr0, pr1, pr2, pr3, prI, List.range', h0]
theorem ck119 {em : Bool} {a b c d : Int} : pureRun Try.prog (Instr.checkKey em 10000 119 (.agg ⟨[.int .i64 a, .int .i64 b, .int .i64 c, .int .i64 d]⟩)) = some () := by
 cases em <;> kernel_rfl
def nfind (a b c d : Int) : List (Value × Value × Nat) → Option (Option Int)
 | [] => some none
 | e :: es => match e.1 with
  | .agg cs => match cs.toList with
   | [.int .i64 a', .int .i64 b', .int .i64 c', .int .i64 d'] => bif decide (a = a') && (decide (b = b') && (decide (c = c') && decide (d = d'))) then (match e.2.1 with
     | .int .i64 n => some (some n)
     | _ => none) else nfind a b c d es
   | _ => none
  | _ => none
theorem nfind_ok {a b c d : Int} : ∀ {es : List (Value × Value × Nat)} {q : Option Int} (i : Nat), nfind a b c d es = some q → ∃ j, aFind Try.prog 119 (.agg ⟨tv [a, b, c, d]⟩) es i = some (q.map fun n => (j, .int .i64 n))
 | [], q, i, h => by cases h; exact ⟨0, rfl⟩
 | e :: es, q, i, h => by
  obtain ⟨k, v, w⟩ := e
  unfold nfind at h
  split at h
  ·rename_i cs hk
   split at h
   ·rename_i a' b' c' d' hcs
    obtain ⟨cs⟩ := cs
    simp only at hk hcs
    subst hcs hk
    have hg : gr (.agg ⟨[.int .i64 a', .int .i64 b', .int .i64 c', .int .i64 d']⟩) = true := rfl
    have he : pureRun Try.prog (Op.equal 119 (.agg ⟨tv [a, b, c, d]⟩) (.agg ⟨[.int .i64 a', .int .i64 b', .int .i64 c', .int .i64 d']⟩)) = some (decide ([a, b, c, d] = [a', b', c', d'])) := eq119
    have hd : decide ([a, b, c, d] = [a', b', c', d']) = (decide (a = a') && (decide (b = b') && (decide (c = c') && decide (d = d')))) := by
     rw [Bool.eq_iff_iff]
     simp
    unfold aFind
    rw [hg, cond_true, he, hd]
    cases hb : (decide (a = a') && (decide (b = b') && (decide (c = c') && decide (d = d'))))
    ·rw [hb, cond_false] at h
     exact nfind_ok (i + 1) h
    ·rw [hb, cond_true] at h
     split at h
     ·rename_i n hv
      simp only at hv
      subst hv
      cases h
      exact ⟨i, rfl⟩
     ·cases h
   ·cases h
  ·cases h
theorem und119 : tabA.und 119 = some (.array 4 3) := by kernel_rfl
theorem und122 : tabA.und 122 = some (.map 119 3) := by kernel_rfl
theorem nfind_key {a b c d : Int} {es : List (Value × Value × Nat)} {q : Option Int} (h : nfind a b c d es = some q) : ∃ j, aFindKey tabA Try.prog 119 (.agg ⟨tv [a, b, c, d]⟩) es = some (q.map fun n => (j, .int .i64 n)) := by
 unfold aFindKey
 rw [und119]
 cases es with
 | nil => cases h; exact ⟨0, rfl⟩
 | cons e es =>
  have : aFindNow (.array 4 3) (.agg ⟨tv [a, b, c, d]⟩) (e :: es) 0 = none := rfl
  simp only [this]
  exact nfind_ok 0 h
theorem inf3 : ∃ i z, tabA.inf 3 = some i ∧ i.zero = some z ∧ z = .int .i64 0 := ⟨Try.t3, .int .i64 0, by kernel_rfl, by kernel_rfl, rfl⟩
theorem ckTv {em : Bool} {s : List Int} (h : s.length = 4) : pureRun Try.prog (Instr.checkKey em 10000 119 (.agg ⟨tv s⟩)) = some () := by
 match s, h with
 | [a, b, c, d], _ => exact ck119
section
variable {ex : Exec} {t : Operand → Option Value} {x ix y : Operand} {k j : Nat} {s : List Int} {es : List (Value × Value × Nat)} {clock : Nat}
theorem A_lookN {q : Option Int} (hx : t x = some (.map (some k))) (hi : t ix = some (.agg ⟨tv s⟩)) (hb : H.get k = .map es clock) (hs4 : s.length = 4) (hk : aFindKey tabA Try.prog 119 (.agg ⟨tv s⟩) es = some (q.map fun n => (j, .int .i64 n))) (hL : L ≤ H.size) (hq : Q true (.tuple ⟨[.int .i64 (q.getD 0), .bool q.isSome]⟩) H) :
  A tabA Try.prog ex t H L (.lookup 122 x ix true) Q := by
 obtain ⟨i, z, z1, z2, z3⟩ := inf3
 have hgz : gr z = true := by rw [z3]; rfl
 unfold A
 show (match still (aLookup tabA Try.prog t H 122 x ix true) with
  | some (b, v, H', m) => L ≤ m ∧ Q b v H'
  | none => False)
 have hgk : gr (.agg ⟨tv s⟩) = true := gr_tv _
 unfold aLookup
 simp only [und122,hx,hi,aMapOf,hb,hgk,cond_true,ckTv hs4,hk]
 cases q with
 | none =>
  simp only [Option.map_none,z1,z2,hgz,cond_true]
  exact ⟨hL, by rw [z3]; exact hq⟩
 | some n => exact ⟨hL, hq⟩
theorem A_updN {n : Int} (hx : t x = some (.map (some k))) (hi : t ix = some (.agg ⟨tv s⟩)) (hy : t y = some (.int .i64 n)) (hb : H.get k = .map es clock) (hs4 : s.length = 4) (hk : aFindKey tabA Try.prog 119 (.agg ⟨tv s⟩) es = some none) (hL : L ≤ k) (hq : Q false undef (H.put k (.map (es ++ [(.agg ⟨tv s⟩, .int .i64 n, clock)]) (clock + 1)))) :
  A tabA Try.prog ex t H L (.mapUpdate 122 x ix y) Q := by
 unfold A
 show (match moves (aUpdate tabA Try.prog t H 122 x ix y) with
  | some (b, v, H', m) => L ≤ m ∧ Q b v H'
  | none => False)
 have hgk : gr (.agg ⟨tv s⟩) = true := gr_tv _
 unfold aUpdate
 simp only [und122,hx,hi,hy,hb,hgk,cond_true,ckTv hs4,hk]
 exact ⟨hL, hq⟩
end
end Go.Am
namespace Go.Am
open Go.Proofs
variable {T : Tab} {P : Program} {N L : Nat} {H : AHeap} {Q : Bool → Value → AHeap → Prop}
theorem fn_93 : tabA.fn 93 = some Try.f93 := by kernel_rfl
theorem st_faS_124_1 : faS tabA 124 1 = some 3 := by kernel_rfl
theorem st_ldS_122 : ldS tabA 122 = some 0 := by kernel_rfl
theorem tabA_fr : tabA.MemoFr := by
 intro f args H b v H' m h
 cases h
def flK (v : Value) (H : AHeap) (L : Nat) (Q : Bool → Value → AHeap → Prop) (_ : Tag Q := .mk) : Prop := match still (aField tabA (fun _ => some v) H 77 (.tmp 0) 1) with
 | some (b, v, H', m) => L ≤ m ∧ Q b v H'
 | none => False
theorem A_fld {ex : Exec} {t : Operand → Option Value} {x : Operand} : A tabA Try.prog ex t H L (.field 77 x 1) Q = optK (t x) fun v => flK v H L Q := by
 unfold A
 show (match still (aField tabA t H 77 x 1) with
  | some (b, v, H', m) => L ≤ m ∧ Q b v H'
  | none => False) = _
 cases hs : t x with
 | none =>
  have : aField tabA t H 77 x 1 = none := by unfold aField; rw [hs]
  rw [this]; rfl
 | some v =>
  have : aField tabA t H 77 x 1 = aField tabA (fun _ => some v) H 77 (.tmp 0) 1 := by unfold aField; rw [hs]
  rw [this]; rfl
theorem flK_of {u w : Int} : flK (.agg ⟨[.int .i64 u, .int .i64 w]⟩) H L Q = andK (L ≤ H.size) (Q true (.int .i64 w) H) := by
 have : aField tabA (fun _ => some (.agg ⟨[.int .i64 u, .int .i64 w]⟩)) H 77 (.tmp 0) 1 = some (.int .i64 w, H, H.size) := by kernel_rfl
 unfold flK
 rw [this]; rfl
theorem grd_ok {ps : List Pk} {gs : List Gd} {m : List Int} (h : ∀ g ∈ gs, g.Ok) : 0 ≤ (grd ps gs m).pr ∧ (grd ps gs m).pr ≤ 100 := by
 unfold grd
 split
 ·rename_i g hg
  exact (h g (List.mem_of_find?_eq_some hg)).p
 ·exact ⟨by show (0 : Int) ≤ 0; omega, by show (0 : Int) ≤ 100; omega⟩
section
variable {a a' : Option Addr} {cap cap' k clock : Nat} {ps : List Pk} {gs : List Gd} {m : List Int} {lo : Value} {es : List (Value × Value × Nat)} {n : Int} {j : Nat}
theorem sv_map {n k : Nat} : sameV (n + 1) (.map (some k)) (.map (some k)) = true := by simp [sameV]
theorem c93k (hm : m.length = 4) (hb : H.get k = .map es clock) (hk : k < H.size) (hf : aFindKey tabA Try.prog 119 (.agg ⟨tv m⟩) es = some (some (j, .int .i64 n))) :
  acall tabA (aexec tabA Try.prog (N + 800)) 93 [.agg ⟨[.slice a ps.length cap, .slice a' gs.length cap', lo, .map (some k)]⟩, .agg ⟨tv m⟩] H = some (true, .int .i64 n, H, H.size) := by
 refine call_quiet (k := 28) (rs := [.tmp 4]) rfl fn_93 rfl rfl rfl ?_ rfl
 have hmp : part (tv m) 0 5 = some (.agg ⟨tv m⟩) := part_tv hm
 simp (disch:=first|(simp only [yk,seval];done)|omega|(simp only [yz]<;>omega)|fail) only [↓yp,yq0,yq1,yq2,yq3,yq4,yl,ys0,ys1,seval,fitB,newC,endD,endR,st_faS_124_1,st_ldS_122,hmp]
 refine A_lookN (es := es) (clock := clock) (q := some n) (j := j) (s := m) (k := k) (by simp (disch:=first|(simp only [yk,seval];done)|omega|(simp only [yz]<;>omega)|fail) only [↓yp,yq0,yq1,yq2,yq3,yq4,yl,ys0,ys1,seval,fitB,newC,endD,endR]) (by simp (disch:=first|(simp only [yk,seval];done)|omega|(simp only [yz]<;>omega)|fail) only [↓yp,yq0,yq1,yq2,yq3,yq4,yl,ys0,ys1,seval,fitB,newC,endD,endR]) (by rw [get_alloc_lt (by first|omega|(simp only [yz]<;>omega)), get_alloc_lt (by first|omega|(simp only [yz]<;>omega))]; exact hb) hm hf (by first|omega|(simp only [yz]<;>omega)) ?_
 simp (disch:=first|(simp only [yk,seval];done)|omega|(simp only [yz]<;>omega)|fail) only [↓yp,yq0,yq1,yq2,yq3,yq4,yl,ys0,ys1,seval,fitB,newC,endD,endR,st_faS_124_1,st_ldS_122,Option.getD_some,Option.isSome_some]
theorem c93n (hs : Rw pkE H a ps) (hl : ps.length ≤ 4) (hpk : ∀ p ∈ ps, p.Ok) (hgs : Rw gdE H a' gs) (hgl : gs.length ≤ 4) (hgk : ∀ g ∈ gs, g.Ok) (hm : m.length = 4) (hmb : ∀ n ∈ m, 0 ≤ n ∧ n ≤ 6) (ho : sameV 5 lo lo = true) (hb : H.get k = .map es clock) (hk : k < H.size) (hf : aFindKey tabA Try.prog 119 (.agg ⟨tv m⟩) es = some none) :
  resK (acall tabA (aexec tabA Try.prog (N + 800)) 93 [.agg ⟨[.slice a ps.length cap, .slice a' gs.length cap', lo, .map (some k)]⟩, .agg ⟨tv m⟩] H) k fun _ v H' => v = .int .i64 (isum m * (grd ps gs m).pr) ∧ H' = ((H.alloc (.rw [.slice a ps.length cap, .slice a' gs.length cap', lo, .map (some k)] 124 false [])).alloc (.rw (tv m) 119 false [])).put k (.map (es ++ [(.agg ⟨tv m⟩, .int .i64 (isum m * (grd ps gs m).pr), clock)]) (clock + 1)) := by
 refine call_keep tabA_fr (R := fun v H' => v = .int .i64 (isum m * (grd ps gs m).pr) ∧ H' = ((H.alloc (.rw [.slice a ps.length cap, .slice a' gs.length cap', lo, .map (some k)] 124 false [])).alloc (.rw (tv m) 119 false [])).put k (.map (es ++ [(.agg ⟨tv m⟩, .int .i64 (isum m * (grd ps gs m).pr), clock)]) (clock + 1))) (k := 28) (rs := [.tmp 4]) rfl fn_93 rfl rfl rfl (by omega) ?_ (fun v H' h => h) ?_
 rotate_left
 ·rintro v H' ⟨rfl, rfl⟩ _ fr
  have h1 := fr.same k hk
  rw [get_put_same (by first|omega|(simp only [yz]<;>omega)), hb] at h1
  simp only [ABlk.map.injEq] at h1
  have h2 := congrArg List.length h1.1
  simp at h2
 have hmp : part (tv m) 0 5 = some (.agg ⟨tv m⟩) := part_tv hm
 have hst := fun n => sl_tv (n := n) m
 have fr : Fr H ((H.alloc (.rw [.slice a ps.length cap, .slice a' gs.length cap', lo, .map (some k)] 124 false [])).alloc (.rw (tv m) 119 false [])) := by (repeat (first | exact Fr.refl _ | assumption | refine Fr.allocd ?_ _ | refine Fr.put ?_ (by first | omega | (simp only [yz] <;> omega)) _))
 have h76 := fun (N : Nat) (H : AHeap) => c76 (N := N) (H := H) (t := m) hm fun x hx => by have := hmb x hx; omega
 have h92 := fun (N : Nat) => c92 (N := N) (cap := cap) (cap' := cap') (lo := lo) (mp := .map (some k)) (hs.fr fr) hl hpk (hgs.fr fr) hgl hgk hm hmb ho sv_map
 simp (disch:=first|(simp only [yk,seval];done)|omega|(simp only [yz]<;>omega)|fail) only [↓yp,yq0,yq1,yq2,yq3,yq4,yl,ys0,ys1,seval,fitB,newC,endD,endR,st_faS_124_1,st_ldS_122,hmp]
 refine A_lookN (es := es) (clock := clock) (q := none) (j := 0) (s := m) (k := k) (by simp (disch:=first|(simp only [yk,seval];done)|omega|(simp only [yz]<;>omega)|fail) only [↓yp,yq0,yq1,yq2,yq3,yq4,yl,ys0,ys1,seval,fitB,newC,endD,endR]) (by simp (disch:=first|(simp only [yk,seval];done)|omega|(simp only [yz]<;>omega)|fail) only [↓yp,yq0,yq1,yq2,yq3,yq4,yl,ys0,ys1,seval,fitB,newC,endD,endR]) (by rw [get_alloc_lt (by first|omega|(simp only [yz]<;>omega)), get_alloc_lt (by first|omega|(simp only [yz]<;>omega))]; exact hb) hm hf (by first|omega|(simp only [yz]<;>omega)) ?_
 simp (disch:=first|(simp only [yk,seval];done)|omega|(simp only [yz]<;>omega)|fail) only [↓yp,yq0,yq1,yq2,yq3,yq4,yl,ys0,ys1,seval,fitB,newC,endD,endR,st_faS_124_1,st_ldS_122,Option.getD_none,Option.isSome_none]
 simp only [Gd.enc] at h92
 have hp := grd_ok (ps := ps) (m := m) hgk
 have hi := m_sum hm hmb
 have hmul : 0 ≤ isum m * (grd ps gs m).pr ∧ isum m * (grd ps gs m).pr ≤ 2400 := ⟨Int.mul_nonneg hi.1 hp.1, by have := Int.mul_le_mul hi.2 hp.2 hp.1 (by omega : (0:Int) ≤ 24); omega⟩
 have hw : w64 (isum m * (grd ps gs m).pr) = isum m * (grd ps gs m).pr := w64_of (by omega)
 refine W_draw [] rfl (by kernel_rfl) (by kernel_rfl) (by first|omega|(simp only [yz]<;>omega)) ?_
 simp (disch:=first|(simp only [yk,seval];done)|omega|(simp only [yz]<;>omega)|fail) only [↓yp,yq0,yq1,yq2,yq3,yq4,yl,ys0,ys1,seval,fitB,newC,endD,endR,st_faS_124_1,st_ldS_122,hmp,h76,h92,hst,ho,sv_map,hw,A_fld,flK_of]
 refine A_updN (es := es) (clock := clock) (s := m) (k := k) (n := isum m * (grd ps gs m).pr) (by simp (disch:=first|(simp only [yk,seval];done)|omega|(simp only [yz]<;>omega)|fail) only [↓yp,yq0,yq1,yq2,yq3,yq4,yl,ys0,ys1,seval,fitB,newC,endD,endR]) (by simp (disch:=first|(simp only [yk,seval];done)|omega|(simp only [yz]<;>omega)|fail) only [↓yp,yq0,yq1,yq2,yq3,yq4,yl,ys0,ys1,seval,fitB,newC,endD,endR]) (by simp (disch:=first|(simp only [yk,seval];done)|omega|(simp only [yz]<;>omega)|fail) only [↓yp,yq0,yq1,yq2,yq3,yq4,yl,ys0,ys1,seval,fitB,newC,endD,endR]) (by rw [get_alloc_lt (by first|omega|(simp only [yz]<;>omega)), get_alloc_lt (by first|omega|(simp only [yz]<;>omega))]; exact hb) hm hf (by first|omega|(simp only [yz]<;>omega)) ?_
 simp (disch:=first|(simp only [yk,seval];done)|omega|(simp only [yz]<;>omega)|fail) only [↓yp,yq0,yq1,yq2,yq3,yq4,yl,ys0,ys1,seval,fitB,newC,endD,endR]
end
end Go.Am
namespace Go.Am
open Go.Proofs
def grs4 (args : List Value) (H : AHeap) : Option (List Pk × List Int × List Gd) := match work4 args H with
 | some (ps, ms, .slice a n _) => bif Nat.ble n 4 then match rowI H a (n * 2) with
   | some t => match decGd t with
    | some gs => bif gs.all Gd.okB then some (ps, ms, gs) else none
    | none => none
   | none => none
  else none
 | _ => none
structure Grs4 (args : List Value) (H : AHeap) (ps : List Pk) (ms : List Int) (gs : List Gd) : Prop where
 ex : ∃ a cap a' cap' lo mp, args = [.agg ⟨[.slice a ps.length cap, .slice a' gs.length cap', lo, mp]⟩, .agg ⟨tv ms⟩] ∧ Rw pkE H a ps ∧ Rw gdE H a' gs ∧ sameV 5 lo lo = true ∧ sameV 5 mp mp = true
 pl : ps.length ≤ 4
 pk : ∀ p ∈ ps, p.Ok
 gl : gs.length ≤ 4
 gk : ∀ g ∈ gs, g.Ok
 ml : ms.length = 4
 mb : ∀ n ∈ ms, 0 ≤ n ∧ n ≤ 6
theorem grs4_ok {args : List Value} {H : AHeap} {ps : List Pk} {ms : List Int} {gs : List Gd} (h : grs4 args H = some (ps, ms, gs)) : Grs4 args H ps ms gs := by
 unfold grs4 at h
 split at h
 ·rename_i ps ms a' n cap' hw
  cases hn : Nat.ble n 4
  ·rw [hn] at h; cases h
  ·rw [hn, cond_true] at h
   split at h
   ·rename_i t ht
    split at h
    ·rename_i gs hg
     cases hb : gs.all Gd.okB
     ·rw [hb] at h; cases h
     ·rw [hb, cond_true] at h
      cases h
      rw [List.all_eq_true] at hb
      have hd := decGd_ok hg
      have hl : n = gs.length := by
       have e1 := rowI_len ht
       have e2 := congrArg List.length hd
       rw [tv_len, fl_length, e1] at e2
       rw [show gdE.z = 2 from rfl] at e2
       omega
      subst hl
      obtain ⟨⟨a, cap, lo, mp, rfl, h1, h2, h3⟩, h4, h5, h6, h7, h8⟩ := work4_ok hw
      exact ⟨⟨a, cap, a', cap', lo, mp, rfl, h1, rowI_ok (E := gdE) ht hd, h2, h3⟩, h4, h5, Nat.le_of_ble_eq_true hn, fun g hg => Gd.okB_ok (hb g hg), h6, h7⟩
    ·cases h
   ·cases h
 ·cases h
def mapOf (args : List Value) : Option Nat := match args with
 | [.agg w, _] => match w.toList with
  | [.slice _ _ _, .slice _ _ _, _, .map (some k)] => some k
  | _ => none
 | _ => none
theorem mapOf_ok {args : List Value} {k : Nat} (h : mapOf args = some k) : ∃ a n c a' n' c' lo v, args = [.agg ⟨[.slice a n c, .slice a' n' c', lo, .map (some k)]⟩, v] := by
 unfold mapOf at h
 split at h
 ·rename_i w v
  split at h
  ·rename_i a n c a' n' c' lo k' hw
   cases h
   obtain ⟨w⟩ := w
   simp only at hw
   subst hw
   exact ⟨a, n, c, a', n', c', lo, v, rfl⟩
  ·cases h
 ·cases h
def key4 (args : List Value) : Option (Int × Int × Int × Int) := match args with
 | [_, .agg m] => match m.toList with
  | [.int .i64 a, .int .i64 b, .int .i64 c, .int .i64 d] => some (a, b, c, d)
  | _ => none
 | _ => none
theorem key4_ok {args : List Value} {a b c d : Int} (h : key4 args = some (a, b, c, d)) : ∃ v, args = [v, .agg ⟨tv [a, b, c, d]⟩] := by
 unfold key4 at h
 split at h
 ·rename_i v m
  split at h
  ·rename_i a' b' c' d' hm
   cases h
   obtain ⟨m⟩ := m
   simp only at hm
   subst hm
   exact ⟨v, rfl⟩
  ·cases h
 ·cases h
def nat93 (args : List Value) (H : AHeap) : Option (Bool × Value × AHeap × Nat) := match mapOf args, key4 args with
 | some k, some (a, b, c, d) => bif Nat.blt k H.size then match H.get k with
   | .map es clock => match nfind a b c d es with
    | some (some n) => some (true, .int .i64 n, H, H.size)
    | some none => match grs4 args H with
     | some (ps, ms, gs) => match args with
      | [.agg w, m] => some (false, .int .i64 (isum ms * (grd ps gs ms).pr), ((H.alloc (.rw w.toList 124 false [])).alloc (.rw (tv ms) 119 false [])).put k (.map (es ++ [(m, .int .i64 (isum ms * (grd ps gs ms).pr), clock)]) (clock + 1)), k)
      | _ => none
     | none => none
    | none => none
   | _ => none
  else none
 | _, _ => none
theorem acall_scall {N : Nat} {f : FuncId} {args : List Value} {H : AHeap} {b : Bool} {v : Value} {H' : AHeap} {m : Nat} (h : acall tabA (aexec tabA Try.prog N) f args H = some (b, v, H', m)) :
  (∃ fn c, Try.prog.funcs[f]? = some fn ∧ fn.body = some c ∧ (fn.name == "runtime.NumGoroutine") = false) ∧ SCall Try.prog f args H v H' m ∧ (b = true → H' = H ∧ m = H.size) := by
 obtain ⟨⟨fn, c, hc⟩, h2, h3⟩ := acall_ok tabA_fits (aexec_ok tabA_fits N).1 h
 exact ⟨⟨fn, c, hc.1, hc.2, hc.3⟩, h2, h3⟩
theorem nat93_ok {args : List Value} {H : AHeap} {b : Bool} {v : Value} {H' : AHeap} {m : Nat} (h : nat93 args H = some (b, v, H', m)) :
  (∃ fn c, Try.prog.funcs[93]? = some fn ∧ fn.body = some c ∧ (fn.name == "runtime.NumGoroutine") = false) ∧ SCall Try.prog 93 args H v H' m ∧ (b = true → H' = H ∧ m = H.size) := by
 unfold nat93 at h
 split at h
 ·rename_i k a b c d hmk hkey
  cases hk : Nat.blt k H.size
  ·rw [hk] at h; cases h
  ·rw [hk, cond_true] at h
   have hk' : k < H.size := by simp [Nat.blt] at hk; omega
   split at h
   ·rename_i es clock hb
    obtain ⟨a1, n1, c1, a2, n2, c2, lo, v1, rfl⟩ := mapOf_ok hmk
    obtain ⟨v2, hv⟩ := key4_ok hkey
    simp only [List.cons.injEq,and_true] at hv
    obtain ⟨-, rfl⟩ := hv
    split at h
    ·rename_i n hn
     cases h
     obtain ⟨j, hj⟩ := nfind_key hn
     have h1 := c93k (N := 0) (a := a1) (a' := a2) (cap := c1) (cap' := c2) (ps := List.replicate n1 ⟨0, 0, 0, 0⟩) (gs := List.replicate n2 ⟨0, 0⟩) (lo := lo) (m := [a, b, c, d]) rfl hb hk' hj
     rw [List.length_replicate, List.length_replicate] at h1
     exact acall_scall h1
    ·rename_i hn
     split at h
     ·rename_i ps ms gs hg
      cases h
      obtain ⟨j, hj⟩ := nfind_key hn
      obtain ⟨⟨a3, c3, a4, c4, lo', mp, he, h1, h2, h3, h4⟩, h5, h6, h7, h8, h9, h10⟩ := grs4_ok hg
      simp only [List.cons.injEq,Value.agg.injEq,Array.mk.injEq,Value.slice.injEq,and_true] at he
      obtain ⟨⟨⟨rfl, rfl, rfl⟩, ⟨rfl, rfl, rfl⟩, rfl, rfl⟩, hms⟩ := he
      have hms' : ms = [a, b, c, d] := by
       have : decI (tv ms) = decI (tv [a, b, c, d]) := by rw [hms]
       have e : ∀ t : List Int, decI (tv t) = some t := by
        intro t
        induction t with
        | nil => rfl
        | cons x t ih => show decI (.int .i64 x :: tv t) = _; rw [decI, ih]
       rw [e, e] at this
       exact Option.some.inj this
      subst hms'
      obtain ⟨f, v', H'', m', r1, r2, rfl, rfl⟩ := resK_elim (c93n (N := 0) h1 h5 h6 h2 h7 h8 h9 h10 h3 hb hk' hj)
      obtain ⟨s1, s2, _⟩ := acall_scall r1
      exact ⟨s1, s2.weaken r2, fun h => by cases h⟩
     ·cases h
    ·cases h
   ·cases h
 ·cases h
def natP (f : FuncId) (args : List Value) (H : AHeap) : Option (Bool × Value × AHeap × Nat) := bif Nat.beq f 93 then nat93 args H else natM f args H
noncomputable def tabP : Tab := ⟨tab.und, tab.inf, tab.fn, natP, tab.plan⟩
theorem tabP_fits : tabP.Fits Try.prog where
 und := tab_fits.und
 inf := tab_fits.inf
 fn := tab_fits.fn
 mixed := tab_fits.mixed
 memo f args H b v H' m h := by
  have h' : (bif Nat.beq f 93 then nat93 args H else natM f args H) = some (b, v, H', m) := h
  cases hf : Nat.beq f 93
  ·rw [hf, cond_false] at h'
   exact tabN_fits.memo f args H b v H' m h'
  ·rw [hf, cond_true] at h'
   rw [Nat.eq_of_beq_eq_true hf]
   exact nat93_ok h'
end Go.Am
namespace Go.Am
abbrev e4 (a b c d n k : Nat) : Value × Value × Nat := (.agg ⟨[ii a, ii b, ii c, ii d]⟩, ii n, k)
abbrev e5 (a b c d e f g h i j k : Nat) : Value × Value × Nat := (.agg ⟨[ii a, ii b, ii c, ii d, ii e]⟩, .agg ⟨[ii f, ii g, ii h, ii i, ii j]⟩, k)
end Go.Am
