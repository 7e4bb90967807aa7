/- Cuts of rows that append made, and what is appended within them: for slices.Delete. -/
import Derived.Test.YtbbifibhpbjknaaT38
set_option linter.unusedSimpArgs false
set_option linter.unusedVariables false
namespace Go.Am
open Go.Proofs
variable {T : Tab} {P : Program} {N L : Nat} {H : AHeap} {Q : Bool → Value → AHeap → Prop}
section
variable {ex : Exec} {t : Operand → Option Value} {ty : TypeId} {x : Operand} {lo hi mx : Option Operand}
theorem A_slice_of {v : Value} (h : aSlice T t H ty x lo hi mx = some (v, H, H.size)) (hL : L ≤ H.size) (hq : Q true v H) : A T P ex t H L (.slice ty x lo hi mx) Q := by
  unfold A
  show (match still (aSlice T t H ty x lo hi mx) with
    | some (b, v, H', m) => L ≤ m ∧ Q b v H'
    | none => False)
  rw [h]
  exact ⟨hL, hq⟩
theorem esS_split {z : Nat} (hz : esS T ty = some z) : ∃ e i, T.und ty = some (.slice e) ∧ T.inf e = some i ∧ i.size = z := by
  unfold esS at hz
  cases hu : T.und ty with
  | none => rw [hu] at hz; cases hz
  | some d =>
    rw [hu] at hz
    cases d with
    | slice e =>
      unfold inS at hz
      simp only at hz
      cases hi : T.inf e with
      | none => rw [hi] at hz; cases hz
      | some i => rw [hi] at hz; cases hz; exact ⟨e, i, rfl, hi, rfl⟩
    | _ => cases hz
theorem blt_open {z : Nat} : Nat.blt (OPEN + z) OPEN = false := by
  cases h : Nat.blt (OPEN + z) OPEN with
  | false => rfl
  | true => have := lt_of_blt h; omega
theorem aSlice_open {z b o n l h m kn : Nat} {vl vh : Option Int} (hz : esS T ty = some z) (hx : t x = some (.slice (some ⟨b, o, none⟩) n (OPEN + z))) (hl : abound t lo = some vl) (hh : abound t hi = some vh) (hkn : known H ⟨b, o, none⟩ n z (OPEN + z) = kn) (hab : abounds n kn vl vh none = some (l, h, m)) (hlt : l < kn ∨ l = 0) :
    aSlice T t H ty x lo hi none = some (.slice (some ⟨b, o + l * z, none⟩) (h - l) (OPEN + z), H, H.size) := by
  obtain ⟨e, i, hu, hi', rfl⟩ := esS_split hz
  have hc : (Nat.blt l kn || Nat.beq l 0) = true := by
    rcases hlt with h | rfl
    · rw [blt_true h]; rfl
    · simp
  unfold aSlice
  simp only [hx,hu,hl,hh,show abound t none = some none from rfl,hi',blt_open,cond_false,hkn,hab,Option.isSome_none,hc,Bool.true_and,show Nat.beq (OPEN + i.size) (OPEN + i.size) = true by simp,cond_true]
theorem aSlice_tail {z b o n : Nat} {vl : Int} (hz : esS T ty = some z) (hx : t x = some (.slice (some ⟨b, o, none⟩) n (OPEN + z))) (hl : abound t lo = some (some vl)) (hkn : known H ⟨b, o, none⟩ n z (OPEN + z) = n) (hvl : vl = n) (h1 : o < OPEN) (h2 : n < OPEN) (h3 : z < OPEN) (h0 : 0 < n) :
    aSlice T t H ty x lo none none = some (.chan (some (tailZ b o n z)), H, H.size) := by
  obtain ⟨e, i, hu, hi', rfl⟩ := esS_split hz
  have hc : (Nat.blt n n || Nat.beq n 0) = false := by
    have : Nat.blt n n = false := by
      cases h : Nat.blt n n with
      | false => rfl
      | true => have := lt_of_blt h; omega
    rw [this, beq_ne (by omega)]; rfl
  have hab : abounds n n (some vl) none none = some (n, n, n) := by
    subst hvl
    delta abounds
    simp
  unfold aSlice
  simp only [hx,hu,hl,show abound t none = some none from rfl,hi',blt_open,cond_false,hkn,hab,Option.isSome_none,hc,Bool.false_and,show Nat.beq (OPEN + i.size) (OPEN + i.size) = true by simp,show Nat.beq n n = true by simp,blt_true h1,blt_true h2,blt_true h3,Bool.and_self,cond_true]
theorem aSlice_three {z b o n l h m kn : Nat} {vl vh vm : Int} (hz : esS T ty = some z) (hx : t x = some (.slice (some ⟨b, o, none⟩) n (OPEN + z))) (hl : abound t lo = some (some vl)) (hh : abound t hi = some (some vh)) (hm : abound t mx = some (some vm)) (hkn : known H ⟨b, o, none⟩ n z (OPEN + z) = kn) (hab : abounds n kn (some vl) (some vh) (some vm) = some (l, h, m)) (hlt : m < OPEN) :
    ∃ o', aSlice T t H ty x lo hi mx = some (.slice (some ⟨b, o', none⟩) (h - l) (m - l), H, H.size) := by
  obtain ⟨e, i, hu, hi', rfl⟩ := esS_split hz
  refine ⟨o + (bif Nat.beq m l then 0 else l * i.size), ?_⟩
  unfold aSlice
  simp only [hx,hu,hl,hh,hm,hi',blt_open,cond_false,hkn,hab,Option.isSome_some,blt_true hlt,cond_true]
/-- The empty rest, appended. -/
theorem apK_tail {z by' sl sc : Nat} {el : TypeId} {base : Option Addr} {r : Option Nat} (hs : apS T ty = some (el, z, by')) (hc : OPEN ≤ sc) : apK T H ty (.slice base sl sc) (.chan r) L Q = andK (L ≤ H.size) (Q false (.slice base sl sc) H) := by
  unfold apS at hs
  unfold apK apV aAppend
  cases hu : T.und ty with
  | none => rw [hu] at hs; cases hs
  | some d =>
    rw [hu] at hs
    cases d with
    | slice e =>
      simp only at hs
      cases hi : T.inf e with
      | none => rw [hi] at hs; cases hs
      | some i =>
        have e1 : Nat.ble OPEN sc = true := Nat.ble_eq_true_of_le hc
        simp only [show Nat.beq ty ty = true by simp,hu,cond_true,hi,e1,Bool.true_or]; rfl
    | _ => cases hs
/-- What is appended within the row. -/
theorem apK_in {el : TypeId} {z by' b o k l n : Nat} {news c : List Value} {op : Bool} {cap : Nat} (hs : apS T ty = some (el, z, by')) (hx : srcCells H ⟨b, o, none⟩ (n * z) = some news) (h0 : 0 < n) (hb : (l + n) * by' ≤ 140737488355328) (hn : l + n ≤ 9223372036854775807) (h1 : oneCells news = true)
    (hg : H.get k = .rw c el op []) (hkn : l + n ≤ known H ⟨k, 0, none⟩ l z (OPEN + z)) (hfit : l * z + news.length ≤ c.length) :
    apK T H ty (.slice (some ⟨k, 0, none⟩) l (OPEN + z)) (.slice (some ⟨b, o, none⟩) n cap) L Q = andK (L ≤ k) (Q false (.slice (some ⟨k, 0, none⟩) (l + n) (OPEN + z)) (H.put k (.rw (zee (l * z) news c) el op []))) := by
  unfold apS at hs
  unfold apK apV aAppend
  cases hu : T.und ty with
  | none => rw [hu] at hs; cases hs
  | some d =>
    rw [hu] at hs
    cases d with
    | slice e =>
      simp only at hs
      cases hi : T.inf e with
      | none => rw [hi] at hs; cases hs
      | some i =>
        rw [hi] at hs
        simp only at hs
        cases hz : i.zero with
        | none => rw [hz] at hs; cases hs
        | some zz =>
          rw [hz] at hs
          simp only at hs
          cases hq : (Nat.blt 0 i.size && Nat.beq zz.cells.size i.size)
          · rw [hq] at hs; cases hs
          · rw [hq, cond_true] at hs
            cases hs
            have e1 : Nat.beq n 0 = false := beq_ne (by omega)
            have e2 : Nat.ble (l + n) 9223372036854775807 = true := Nat.ble_eq_true_of_le (by omega)
            have e3 : Nat.ble ((l + n) * i.bytes) 140737488355328 = true := Nat.ble_eq_true_of_le hb
            have e5 : Nat.ble (l + n) (known H ⟨k, 0, none⟩ l i.size (OPEN + i.size)) = true := Nat.ble_eq_true_of_le hkn
            have hw : aWrite H k (0 + l * i.size) news = some (H.put k (.rw (zee (l * i.size) news c) el op []), k) := by
              unfold aWrite
              have e6 : Nat.ble (l * i.size + news.length) c.length = true := Nat.ble_eq_true_of_le (by omega)
              simp only [hg,Nat.zero_add,e6,h1,Bool.and_self,cond_true]
              rfl
            simp only [show Nat.beq ty ty = true by simp,hu,cond_true,hi,e1,cond_false,hx,hz,hq,e2,e3,h1,Bool.and_self,blt_open,e5,hw]; rfl
    | _ => cases hs
section
variable {y y1 y2 y3 : Operand} {z b o n kn : Nat}
theorem abound_int {k : IntKind} {i : Int} (h : t y = some (.int k i)) : abound t (some y) = some (some i) := by
  show (match t y with
    | some (.int _ n) => some (some n)
    | _ => none) = _
  rw [h]
theorem abs_of {i j m : Nat} (h1 : i ≤ j) (h2 : j ≤ m) (h3 : m ≤ kn) : abounds n kn (some (i : Int)) (some (j : Int)) (some (m : Int)) = some (i, j, m) := by
  delta abounds
  simp [h1, h2, h3]
theorem abs_of2 {i j : Nat} (h1 : i ≤ j) (h2 : j ≤ kn) : abounds n kn (some (i : Int)) (some (j : Int)) none = some (i, j, kn) := by
  delta abounds
  simp [h1, h2]
theorem abs_of1 {j : Nat} (h2 : j ≤ kn) : abounds n kn none (some (j : Int)) none = some (0, j, kn) := by
  delta abounds
  simp [h2]
theorem abs_of0 {i : Nat} (h1 : i ≤ n) : abounds n kn (some (i : Int)) none none = some (i, n, kn) := by
  delta abounds
  simp [h1]
theorem A_slice3 {i j m : Nat} (hz : esS T ty = some z) (hx : t x = some (.slice (some ⟨b, o, none⟩) n (OPEN + z))) (h1 : t y1 = some (.int .i64 i)) (h2 : t y2 = some (.int .i64 j)) (h3 : t y3 = some (.int .i64 m)) (hkn : known H ⟨b, o, none⟩ n z (OPEN + z) = kn) (hij : i ≤ j) (hjm : j ≤ m) (hmk : m ≤ kn) (hm : m < OPEN)
    (hL : L ≤ H.size) (hq : ∀ o', Q true (.slice (some ⟨b, o', none⟩) (j - i) (m - i)) H) : A T P ex t H L (.slice ty x (some y1) (some y2) (some y3)) Q := by
  obtain ⟨o', h⟩ := aSlice_three (H := H) hz hx (abound_int h1) (abound_int h2) (abound_int h3) hkn (abs_of hij hjm hmk) hm
  exact A_slice_of h hL (hq o')
theorem A_sliceM {i j : Nat} (hz : esS T ty = some z) (hx : t x = some (.slice (some ⟨b, o, none⟩) n (OPEN + z))) (h1 : t y1 = some (.int .i64 i)) (h2 : t y2 = some (.int .i64 j)) (hkn : known H ⟨b, o, none⟩ n z (OPEN + z) = kn) (hij : i ≤ j) (hjk : j ≤ kn) (hik : i < kn)
    (hL : L ≤ H.size) (hq : Q true (.slice (some ⟨b, o + i * z, none⟩) (j - i) (OPEN + z)) H) : A T P ex t H L (.slice ty x (some y1) (some y2) none) Q :=
  A_slice_of (aSlice_open (H := H) hz hx (abound_int h1) (abound_int h2) hkn (abs_of2 hij hjk) (.inl hik)) hL hq
end
def slFK (T : Tab) (ty : TypeId) (v u : Value) (H : AHeap) (L : Nat) (Q : Bool → Value → AHeap → Prop) (_ : Tag Q := .mk) : Prop := match still (aSlice T (fun o => match o with | .tmp 0 => some v | _ => some u) H ty (.tmp 0) none (some (.tmp 1)) none) with
  | some (b, v, H', m) => L ≤ m ∧ Q b v H'
  | none => False
def slRK (T : Tab) (ty : TypeId) (v u : Value) (H : AHeap) (L : Nat) (Q : Bool → Value → AHeap → Prop) (_ : Tag Q := .mk) : Prop := match still (aSlice T (fun o => match o with | .tmp 0 => some v | _ => some u) H ty (.tmp 0) (some (.tmp 1)) none none) with
  | some (b, v, H', m) => L ≤ m ∧ Q b v H'
  | none => False
theorem A_slF {y : Operand} : A T P ex t H L (.slice ty x none (some y) none) Q = optK (t x) fun v => optK (t y) fun u => slFK T ty v u H L Q := by
  unfold A
  show (match still (aSlice T t H ty x none (some y) none) with
    | some (b, v, H', m) => L ≤ m ∧ Q b v H'
    | none => False) = _
  cases hs : t x with
  | none =>
    have : aSlice T t H ty x none (some y) none = none := by
      unfold aSlice
      simp only [hs]
    rw [this]; rfl
  | some sv =>
    cases hx : t y with
    | none =>
      have : aSlice T t H ty x none (some y) none = none := by
        unfold aSlice
        simp only [hs,abound,hx]
        split <;> simp_all
      rw [this]; rfl
    | some xv =>
      have : aSlice T t H ty x none (some y) none = aSlice T (fun o => match o with | .tmp 0 => some sv | _ => some xv) H ty (.tmp 0) none (some (.tmp 1)) none := by
        unfold aSlice
        simp only [hs,abound,hx]
      rw [this]; rfl
theorem A_slR {y : Operand} : A T P ex t H L (.slice ty x (some y) none none) Q = optK (t x) fun v => optK (t y) fun u => slRK T ty v u H L Q := by
  unfold A
  show (match still (aSlice T t H ty x (some y) none none) with
    | some (b, v, H', m) => L ≤ m ∧ Q b v H'
    | none => False) = _
  cases hs : t x with
  | none =>
    have : aSlice T t H ty x (some y) none none = none := by
      unfold aSlice
      simp only [hs]
    rw [this]; rfl
  | some sv =>
    cases hx : t y with
    | none =>
      have : aSlice T t H ty x (some y) none none = none := by
        unfold aSlice
        simp only [hs,abound,hx]
        split <;> simp_all
      rw [this]; rfl
    | some xv =>
      have : aSlice T t H ty x (some y) none none = aSlice T (fun o => match o with | .tmp 0 => some sv | _ => some xv) H ty (.tmp 0) (some (.tmp 1)) none none := by
        unfold aSlice
        simp only [hs,abound,hx]
      rw [this]; rfl
theorem slFK_open {z b o n kn j : Nat} (hz : esS T ty = some z) (hkn : known H ⟨b, o, none⟩ n z (OPEN + z) = kn) (hjk : j ≤ kn) : slFK T ty (.slice (some ⟨b, o, none⟩) n (OPEN + z)) (.int .i64 j) H L Q = andK (L ≤ H.size) (Q true (.slice (some ⟨b, o, none⟩) j (OPEN + z)) H) := by
  have h := aSlice_open (T := T) (H := H) (t := fun o' => match o' with | .tmp 0 => some (.slice (some ⟨b, o, none⟩) n (OPEN + z)) | _ => some (.int .i64 j)) (x := .tmp 0) (lo := none) (hi := some (.tmp 1)) hz rfl rfl (abound_int (k := .i64) rfl) hkn (abs_of1 hjk) (.inr rfl)
  rw [Nat.zero_mul, Nat.add_zero, Nat.sub_zero] at h
  unfold slFK
  rw [h]; rfl
theorem slRK_open {z b o n kn i : Nat} (hz : esS T ty = some z) (hkn : known H ⟨b, o, none⟩ n z (OPEN + z) = kn) (hin : i ≤ n) (hik : i < kn) : slRK T ty (.slice (some ⟨b, o, none⟩) n (OPEN + z)) (.int .i64 i) H L Q = andK (L ≤ H.size) (Q true (.slice (some ⟨b, o + i * z, none⟩) (n - i) (OPEN + z)) H) := by
  have h := aSlice_open (T := T) (H := H) (t := fun o' => match o' with | .tmp 0 => some (.slice (some ⟨b, o, none⟩) n (OPEN + z)) | _ => some (.int .i64 i)) (x := .tmp 0) (lo := some (.tmp 1)) (hi := none) hz rfl (abound_int (k := .i64) rfl) rfl hkn (abs_of0 hin) (.inl hik)
  unfold slRK
  rw [h]; rfl
theorem slRK_tail {z b o n i : Nat} (hz : esS T ty = some z) (hkn : known H ⟨b, o, none⟩ n z (OPEN + z) = n) (hin : i = n) (ho : o < OPEN) (hn : n < OPEN) (hzO : z < OPEN) (h0 : 0 < n) : slRK T ty (.slice (some ⟨b, o, none⟩) n (OPEN + z)) (.int .i64 i) H L Q = andK (L ≤ H.size) (Q true (.chan (some (tailZ b o n z))) H) := by
  have h := aSlice_tail (T := T) (H := H) (t := fun o' => match o' with | .tmp 0 => some (.slice (some ⟨b, o, none⟩) n (OPEN + z)) | _ => some (.int .i64 i)) (x := .tmp 0) (lo := some (.tmp 1)) (vl := i) hz rfl (abound_int (k := .i64) rfl) hkn (by rw [hin]) ho hn hzO h0
  unfold slRK
  rw [h]; rfl
theorem sv_chan {n : Nat} {a : Option Nat} : sameV (n + 1) (.chan a) (.chan a) = true := by simp [sameV]
theorem tm_slF {ty : TypeId} {x y : Operand} : tmpsOf (Op.slice ty x none (some y) none).operands.toList = tmpsOf [x, y] := nr rfl
theorem tm_slR {ty : TypeId} {x y : Operand} : tmpsOf (Op.slice ty x (some y) none none).operands.toList = tmpsOf [x, y] := nr rfl
end
end Go.Am
/- slices.Delete of a street. -/
namespace Go.Am
open Go.Proofs
variable {T : Tab} {P : Program} {N L : Nat} {H : AHeap} {Q : Bool → Value → AHeap → Prop}
theorem flat_takeN : ∀ (l : List Str) (i : Nat), (flat l).take (i * 9) = flat (l.take i)
  | [], i => by simp [flat]
  | s :: l, 0 => by simp [flat]
  | s :: l, i + 1 => by
    rw [List.take_succ_cons, flat, flat, ← flat_takeN l i, show (i + 1) * 9 = s.enc.length + i * 9 by rw [enc_len]; omega, List.take_length_add_append]
theorem flat_dropN : ∀ (l : List Str) (i : Nat), (flat l).drop (i * 9) = flat (l.drop i)
  | [], i => by simp [flat]
  | s :: l, 0 => by simp
  | s :: l, i + 1 => by
    rw [List.drop_succ_cons, ← flat_dropN l i, flat, show (i + 1) * 9 = s.enc.length + i * 9 by rw [enc_len]; omega, List.drop_length_add_append]
theorem known_rw {b n m : Nat} {c : List Value} {ty : TypeId} {op : Bool} {al : List Nat} (hg : H.get b = .rw c ty op al) (hc : c.length = m * 9) (hn : n ≤ m) : known H ⟨b, 0, none⟩ n 9 (OPEN + 9) = m := by
  unfold known
  have e : (c.length - 0) / 9 = m := by omega
  simp only [show Nat.beq (OPEN + 9) (OPEN + 9) = true by simp,cond_true,hg,e]
  cases h : Nat.blt n m with
  | true => rfl
  | false =>
    have : ¬ n < m := fun h' => by rw [blt_true h'] at h; cases h
    rw [cond_false]; omega
theorem erase_row {l : List Str} {i : Nat} (hi : i < l.length) : flat (l.take i) ++ flat (l.drop (i + 1)) = flat (l.eraseIdx i) := by
  rw [List.eraseIdx_eq_take_drop_succ, flat_append]
theorem fn_61 : tabA.fn 61 = some Try.f61 := by kernel_rfl
theorem zc22_len : (Builtin.zeroCells zc22 1).toList.length = 9 := by kernel_rfl
theorem zc22_one : oneCells (Builtin.zeroCells zc22 1).toList = true := by kernel_rfl
theorem zc22_gr : allGrV (Builtin.zeroCells zc22 1).toList = true := by kernel_rfl
set_option maxHeartbeats 4000000 in
theorem c61 {b i : Nat} {l : List Str} (hg : H.get b = .rw (flat l) 45 true []) (hb : b < H.size) (hL : L ≤ b) (hi : i < l.length) (hl : l.length ≤ 18) {M : Nat} (hM : 100 ≤ M)
    (hq : ∀ c H', c.length = l.length * 9 → c.take ((l.length - 1) * 9) = flat (l.eraseIdx i) → FrX b H H' → H'.size = H.size → H'.get b = .rw c 45 true [] → Q false (.slice (some ⟨b, 0, none⟩) (l.length - 1) (OPEN + 9)) H') :
    resK (acall tabA (aexec tabA Try.prog M) 61 [.slice (some ⟨b, 0, none⟩) l.length (OPEN + 9), .int .i64 i, .int .i64 (i + 1 : Nat)] H) L Q := by
  obtain ⟨N, rfl⟩ : ∃ N, M = N + 100 := ⟨M - 100, by omega⟩
  refine call_keep tabA_fr (R := fun v H' => v = .slice (some ⟨b, 0, none⟩) (l.length - 1) (OPEN + 9) ∧ ∃ c, c.length = l.length * 9 ∧ c.take ((l.length - 1) * 9) = flat (l.eraseIdx i) ∧ FrX b H H' ∧ H'.size = H.size ∧ H'.get b = .rw c 45 true []) (k := 33) (rs := [.tmp 6]) rfl fn_61 rfl rfl rfl (by omega) ?_ (by rintro v H' ⟨rfl, c, h1, h2, h3, h4, h5⟩; exact hq c H' h1 h2 h3 h4 h5) (by rintro v H' ⟨rfl, -⟩ hg; simp [gr, ground] at hg)
  have hfl := flat_length l
  have hkn := known_rw (n := l.length) hg hfl (Nat.le_refl _)
  simp (disch := (first | (simp only [ne_eq,Nat.reduceEqDiff,not_false_eq_true,Nat.reduceLT]; done) | omega | (simp only [yz] <;> omega) | fail)) only [↓yp,yq0,yq1,yq2,yq3,yq4,yl,ys0,ys1,Nat.reduceAdd,Nat.reduceMul,Nat.reduceSub,Nat.reduceBEq,Nat.reduceEqDiff,Nat.reduceLT,Nat.reduceLeDiff,reduceIte,Int.reduceAdd,Int.reduceSub,Int.reduceMul,Int.reduceLT,Int.reduceLE,Int.reduceEq,Int.reduceToNat,Int.reduceNeg,zed,zee,zfr,zhw,ysu,yrg,ysv,ysw,lenV_slice zio]
  have hn0 : l.length ≠ 0 := by omega
  have hcc : decide ((i : Int) = ((i + 1 : Nat) : Int)) = false := by simp; omega
  refine A_slice3 (i := i) (j := i + 1) (m := l.length) zio (by simp (disch := (first | (simp only [ne_eq,Nat.reduceEqDiff,not_false_eq_true,Nat.reduceLT]; done) | omega | (simp only [yz] <;> omega) | fail)) only [↓yp,yq0,yq1,yq2,yq3,yq4,yl,ys0,ys1,Nat.reduceAdd,Nat.reduceMul,Nat.reduceSub,Nat.reduceBEq,Nat.reduceEqDiff,Nat.reduceLT,Nat.reduceLeDiff,reduceIte,Int.reduceAdd,Int.reduceSub,Int.reduceMul,Int.reduceLT,Int.reduceLE,Int.reduceEq,Int.reduceToNat,Int.reduceNeg,zed,zee,zfr,zhw,ysu,yrg,ysv,ysw]) (by simp (disch := (first | (simp only [ne_eq,Nat.reduceEqDiff,not_false_eq_true,Nat.reduceLT]; done) | omega | (simp only [yz] <;> omega) | fail)) only [↓yp,yq0,yq1,yq2,yq3,yq4,yl,ys0,ys1,Nat.reduceAdd,Nat.reduceMul,Nat.reduceSub,Nat.reduceBEq,Nat.reduceEqDiff,Nat.reduceLT,Nat.reduceLeDiff,reduceIte,Int.reduceAdd,Int.reduceSub,Int.reduceMul,Int.reduceLT,Int.reduceLE,Int.reduceEq,Int.reduceToNat,Int.reduceNeg,zed,zee,zfr,zhw,ysu,yrg,ysv,ysw]) (by simp (disch := (first | (simp only [ne_eq,Nat.reduceEqDiff,not_false_eq_true,Nat.reduceLT]; done) | omega | (simp only [yz] <;> omega) | fail)) only [↓yp,yq0,yq1,yq2,yq3,yq4,yl,ys0,ys1,Nat.reduceAdd,Nat.reduceMul,Nat.reduceSub,Nat.reduceBEq,Nat.reduceEqDiff,Nat.reduceLT,Nat.reduceLeDiff,reduceIte,Int.reduceAdd,Int.reduceSub,Int.reduceMul,Int.reduceLT,Int.reduceLE,Int.reduceEq,Int.reduceToNat,Int.reduceNeg,zed,zee,zfr,zhw,ysu,yrg,ysv,ysw]) (by simp (disch := (first | (simp only [ne_eq,Nat.reduceEqDiff,not_false_eq_true,Nat.reduceLT]; done) | omega | (simp only [yz] <;> omega) | fail)) only [↓yp,yq0,yq1,yq2,yq3,yq4,yl,ys0,ys1,Nat.reduceAdd,Nat.reduceMul,Nat.reduceSub,Nat.reduceBEq,Nat.reduceEqDiff,Nat.reduceLT,Nat.reduceLeDiff,reduceIte,Int.reduceAdd,Int.reduceSub,Int.reduceMul,Int.reduceLT,Int.reduceLE,Int.reduceEq,Int.reduceToNat,Int.reduceNeg,zed,zee,zfr,zhw,ysu,yrg,ysv,ysw]) hkn (by omega) (by omega) (by omega) (by unfold OPEN; omega) (by omega) ?_
  intro o'
  simp (disch := (first | (simp only [ne_eq,Nat.reduceEqDiff,not_false_eq_true,Nat.reduceLT]; done) | omega | (simp only [yz] <;> omega) | fail)) only [↓yp,yq0,yq1,yq2,yq3,yq4,yl,ys0,ys1,Nat.reduceAdd,Nat.reduceMul,Nat.reduceSub,Nat.reduceBEq,Nat.reduceEqDiff,Nat.reduceLT,Nat.reduceLeDiff,reduceIte,Int.reduceAdd,Int.reduceSub,Int.reduceMul,Int.reduceLT,Int.reduceLE,Int.reduceEq,Int.reduceToNat,Int.reduceNeg,zed,zee,zfr,zhw,ysu,yrg,ysv,ysw,lenV_slice zio,hcc]
  have hend : ∀ c : List Value, c.length = l.length * 9 → (c.take ((l.length - 1) * 9) = flat (l.eraseIdx i)) → List.take ((l.length - 1) * 9) (List.take ((l.length - 1) * 9) c ++ (Builtin.zeroCells zc22 1).toList ++ List.drop ((l.length - 1) * 9 + (Builtin.zeroCells zc22 1).toList.length) c) = flat (l.eraseIdx i) := fun c h1 h2 => by
    rw [List.append_assoc, List.take_append_of_le_length (by rw [List.length_take]; omega), List.take_take, Nat.min_self]
    exact h2
  have hlen : ∀ c : List Value, c.length = l.length * 9 → (List.take ((l.length - 1) * 9) c ++ (Builtin.zeroCells zc22 1).toList ++ List.drop ((l.length - 1) * 9 + (Builtin.zeroCells zc22 1).toList.length) c).length = l.length * 9 := fun c h1 => by
    rw [List.length_append, List.length_append, List.length_take, List.length_drop, zc22_len]
    omega
  refine W_draw [6] rfl (by kernel_rfl) (by kernel_rfl) (by (first | omega | (simp only [yz] <;> omega))) ?_
  have hz1 := zc22_len
  by_cases hlast : i + 1 = l.length
  · have hF := fun (L : Nat) (Q : Bool → Value → AHeap → Prop) => slFK_open (T := tabA) (ty := 22) (L := L) (Q := Q) (j := i) zio hkn (by omega)
    have hR := fun (L : Nat) (Q : Bool → Value → AHeap → Prop) => slRK_tail (T := tabA) (ty := 22) (L := L) (Q := Q) (i := i + 1) zio hkn hlast (by unfold OPEN; omega) (by unfold OPEN; omega) (by unfold OPEN; omega) (by omega)
    have hA := fun (L : Nat) (Q : Bool → Value → AHeap → Prop) (r : Option Nat) => apK_tail (T := tabA) (H := H) (L := L) (Q := Q) (base := some ⟨b, 0, none⟩) (sl := i) (sc := OPEN + 9) (r := r) st_apS_22 (by unfold OPEN; omega)
    simp (disch := (first | (simp only [ne_eq,Nat.reduceEqDiff,not_false_eq_true,Nat.reduceLT]; done) | omega | (simp only [yz] <;> omega) | fail)) only [↓yp,yq0,yq1,yq2,yq3,yq4,yl,ys0,ys1,Nat.reduceAdd,Nat.reduceMul,Nat.reduceSub,Nat.reduceBEq,Nat.reduceEqDiff,Nat.reduceLT,Nat.reduceLeDiff,reduceIte,Int.reduceAdd,Int.reduceSub,Int.reduceMul,Int.reduceLT,Int.reduceLE,Int.reduceEq,Int.reduceToNat,Int.reduceNeg,zed,zee,zfr,zhw,ysu,yrg,ysv,ysw,tm_slF,tm_slR,A_slF,A_slR,hF,hR,hA,sv_chan,lenV_slice zio]
    refine A_sliceM (i := i) (j := l.length) (n := i) (o := 0) (b := b) zio (by simp (disch := (first | (simp only [ne_eq,Nat.reduceEqDiff,not_false_eq_true,Nat.reduceLT]; done) | omega | (simp only [yz] <;> omega) | fail)) only [↓yp,yq0,yq1,yq2,yq3,yq4,yl,ys0,ys1,Nat.reduceAdd,Nat.reduceMul,Nat.reduceSub,Nat.reduceBEq,Nat.reduceEqDiff,Nat.reduceLT,Nat.reduceLeDiff,reduceIte,Int.reduceAdd,Int.reduceSub,Int.reduceMul,Int.reduceLT,Int.reduceLE,Int.reduceEq,Int.reduceToNat,Int.reduceNeg,zed,zee,zfr,zhw,ysu,yrg,ysv,ysw]) (by simp (disch := (first | (simp only [ne_eq,Nat.reduceEqDiff,not_false_eq_true,Nat.reduceLT]; done) | omega | (simp only [yz] <;> omega) | fail)) only [↓yp,yq0,yq1,yq2,yq3,yq4,yl,ys0,ys1,Nat.reduceAdd,Nat.reduceMul,Nat.reduceSub,Nat.reduceBEq,Nat.reduceEqDiff,Nat.reduceLT,Nat.reduceLeDiff,reduceIte,Int.reduceAdd,Int.reduceSub,Int.reduceMul,Int.reduceLT,Int.reduceLE,Int.reduceEq,Int.reduceToNat,Int.reduceNeg,zed,zee,zfr,zhw,ysu,yrg,ysv,ysw]) (by simp (disch := (first | (simp only [ne_eq,Nat.reduceEqDiff,not_false_eq_true,Nat.reduceLT]; done) | omega | (simp only [yz] <;> omega) | fail)) only [↓yp,yq0,yq1,yq2,yq3,yq4,yl,ys0,ys1,Nat.reduceAdd,Nat.reduceMul,Nat.reduceSub,Nat.reduceBEq,Nat.reduceEqDiff,Nat.reduceLT,Nat.reduceLeDiff,reduceIte,Int.reduceAdd,Int.reduceSub,Int.reduceMul,Int.reduceLT,Int.reduceLE,Int.reduceEq,Int.reduceToNat,Int.reduceNeg,zed,zee,zfr,zhw,ysu,yrg,ysv,ysw]) (known_rw hg hfl (by omega)) (by omega) (by omega) (by omega) (by omega) ?_
    have e1 : l.length - i = 1 := by omega
    have e2 : i * 9 = (l.length - 1) * 9 := by omega
    have hw : aWrite H b ((l.length - 1) * 9) (Builtin.zeroCells zc22 1).toList = some (H.put b (.rw (List.take ((l.length - 1) * 9) (flat l) ++ (Builtin.zeroCells zc22 1).toList ++ List.drop ((l.length - 1) * 9 + (Builtin.zeroCells zc22 1).toList.length) (flat l)) 45 true []), b) := by
      unfold aWrite
      have e6 : Nat.ble ((l.length - 1) * 9 + (Builtin.zeroCells zc22 1).toList.length) (flat l).length = true := Nat.ble_eq_true_of_le (by omega)
      simp only [hg,e6,zc22_one,Bool.and_self,cond_true]
      rfl
    simp (disch := (first | (simp only [ne_eq,Nat.reduceEqDiff,not_false_eq_true,Nat.reduceLT]; done) | omega | (simp only [yz] <;> omega) | fail)) only [↓yp,yq0,yq1,yq2,yq3,yq4,yl,ys0,ys1,Nat.reduceAdd,Nat.reduceMul,Nat.reduceSub,Nat.reduceBEq,Nat.reduceEqDiff,Nat.reduceLT,Nat.reduceLeDiff,reduceIte,Int.reduceAdd,Int.reduceSub,Int.reduceMul,Int.reduceLT,Int.reduceLE,Int.reduceEq,Int.reduceToNat,Int.reduceNeg,zed,zee,zfr,zhw,ysu,yrg,ysv,ysw,A_clear st_clS_22]
    unfold clK
    simp only [e1,e2,zc22_gr,hw,show Nat.beq 1 0 = false by rfl,cond_false,cond_true]
    refine ⟨hL, ?_⟩
    simp (disch := (first | (simp only [ne_eq,Nat.reduceEqDiff,not_false_eq_true,Nat.reduceLT]; done) | omega | (simp only [yz] <;> omega) | fail)) only [↓yp,yq0,yq1,yq2,yq3,yq4,yl,ys0,ys1,Nat.reduceAdd,Nat.reduceMul,Nat.reduceSub,Nat.reduceBEq,Nat.reduceEqDiff,Nat.reduceLT,Nat.reduceLeDiff,reduceIte,Int.reduceAdd,Int.reduceSub,Int.reduceMul,Int.reduceLT,Int.reduceLE,Int.reduceEq,Int.reduceToNat,Int.reduceNeg,zed,zee,zfr,zhw,ysu,yrg,ysv,ysw]
    refine ⟨by rw [show l.length - 1 = i by omega], _, hlen _ hfl, hend _ hfl (by rw [flat_takeN, ← erase_row hi, show l.length - 1 = i by omega, List.drop_of_length_le (by omega)]; simp [flat]), (FrX.refl _ _).put _, ?_⟩
    first | rfl | exact ⟨rfl, zdc hb⟩ | exact ⟨rfl, rfl⟩
  · have hfl' := hfl
    have hsrc : srcCells H ⟨b, (i + 1) * 9, none⟩ ((l.length - (i + 1)) * 9) = some (flat (l.drop (i + 1))) := by
      unfold srcCells
      simp only [hg,zdh]
      rw [flat_dropN, List.take_of_length_le (by rw [flat_length, List.length_drop]; omega), flat_length, List.length_drop]
      simp
    have hfd : (flat (l.drop (i + 1))).length = (l.length - (i + 1)) * 9 := by rw [flat_length, List.length_drop]
    obtain ⟨c1, hc1⟩ : ∃ c1, zee (i * 9) (flat (l.drop (i + 1))) (flat l) = c1 := ⟨_, rfl⟩
    have hc1l : c1.length = l.length * 9 := by
      rw [← hc1]
      unfold zee
      rw [List.length_append, List.length_append, List.length_take, List.length_drop]
      omega
    have hc1t : c1.take ((l.length - 1) * 9) = flat (l.eraseIdx i) := by
      rw [← hc1]
      unfold zee
      rw [flat_takeN, List.take_append_of_le_length (by rw [List.length_append, flat_length, List.length_take]; omega), List.take_of_length_le (by rw [List.length_append, flat_length, List.length_take]; omega), erase_row hi]
    have hF := fun (H' : AHeap) (hk : known H' ⟨b, 0, none⟩ l.length 9 (OPEN + 9) = l.length) (L : Nat) (Q : Bool → Value → AHeap → Prop) => slFK_open (T := tabA) (ty := 22) (H := H') (L := L) (Q := Q) (j := i) zio hk (by omega)
    have hR := fun (H' : AHeap) (hk : known H' ⟨b, 0, none⟩ l.length 9 (OPEN + 9) = l.length) (L : Nat) (Q : Bool → Value → AHeap → Prop) => slRK_open (T := tabA) (ty := 22) (H := H') (L := L) (Q := Q) (i := i + 1) zio hk (by omega) (by omega)
    have hF1 := hF H hkn
    have hR1 := hR H hkn
    obtain ⟨H1, hH1⟩ : ∃ H1, H.put b (.rw c1 45 true []) = H1 := ⟨_, rfl⟩
    have hg1 : H1.get b = .rw c1 45 true [] := by rw [← hH1]; exact zdc hb
    have hkn1 := known_rw (n := l.length) hg1 hc1l (Nat.le_refl _)
    have hs1 : H1.size = H.size := by rw [← hH1]; exact zdf
    have hF2 := hF H1 hkn1
    have hR2 := hR H1 hkn1
    have hA := fun (L : Nat) (Q : Bool → Value → AHeap → Prop) => apK_in (T := tabA) (H := H) (L := L) (Q := Q) (k := b) (l := i) (n := l.length - (i + 1)) (cap := OPEN + 9) st_apS_22 hsrc (by omega) (by omega) (by omega) (one_flat _) hg (by rw [known_rw hg hfl (by omega)]; omega) (by rw [hfd, hfl]; omega)
    rw [hc1, hH1] at hA
    simp (disch := (first | (simp only [ne_eq,Nat.reduceEqDiff,not_false_eq_true,Nat.reduceLT]; done) | omega | (simp only [yz] <;> omega) | fail)) only [↓yp,yq0,yq1,yq2,yq3,yq4,yl,ys0,ys1,Nat.reduceAdd,Nat.reduceMul,Nat.reduceSub,Nat.reduceBEq,Nat.reduceEqDiff,Nat.reduceLT,Nat.reduceLeDiff,reduceIte,Int.reduceAdd,Int.reduceSub,Int.reduceMul,Int.reduceLT,Int.reduceLE,Int.reduceEq,Int.reduceToNat,Int.reduceNeg,zed,zee,zfr,zhw,ysu,yrg,ysv,ysw,tm_slF,tm_slR,A_slF,A_slR,hF1,hR1,hF2,hR2,hA,sv_chan,lenV_slice zio]
    have en : i + (l.length - (i + 1)) = l.length - 1 := by omega
    refine A_sliceM (i := i + (l.length - (i + 1))) (j := l.length) (n := i + (l.length - (i + 1))) (o := 0) (b := b) zio (by simp (disch := (first | (simp only [ne_eq,Nat.reduceEqDiff,not_false_eq_true,Nat.reduceLT]; done) | omega | (simp only [yz] <;> omega) | fail)) only [↓yp,yq0,yq1,yq2,yq3,yq4,yl,ys0,ys1,Nat.reduceAdd,Nat.reduceMul,Nat.reduceSub,Nat.reduceBEq,Nat.reduceEqDiff,Nat.reduceLT,Nat.reduceLeDiff,reduceIte,Int.reduceAdd,Int.reduceSub,Int.reduceMul,Int.reduceLT,Int.reduceLE,Int.reduceEq,Int.reduceToNat,Int.reduceNeg,zed,zee,zfr,zhw,ysu,yrg,ysv,ysw]) (by simp (disch := (first | (simp only [ne_eq,Nat.reduceEqDiff,not_false_eq_true,Nat.reduceLT]; done) | omega | (simp only [yz] <;> omega) | fail)) only [↓yp,yq0,yq1,yq2,yq3,yq4,yl,ys0,ys1,Nat.reduceAdd,Nat.reduceMul,Nat.reduceSub,Nat.reduceBEq,Nat.reduceEqDiff,Nat.reduceLT,Nat.reduceLeDiff,reduceIte,Int.reduceAdd,Int.reduceSub,Int.reduceMul,Int.reduceLT,Int.reduceLE,Int.reduceEq,Int.reduceToNat,Int.reduceNeg,zed,zee,zfr,zhw,ysu,yrg,ysv,ysw]) (by simp (disch := (first | (simp only [ne_eq,Nat.reduceEqDiff,not_false_eq_true,Nat.reduceLT]; done) | omega | (simp only [yz] <;> omega) | fail)) only [↓yp,yq0,yq1,yq2,yq3,yq4,yl,ys0,ys1,Nat.reduceAdd,Nat.reduceMul,Nat.reduceSub,Nat.reduceBEq,Nat.reduceEqDiff,Nat.reduceLT,Nat.reduceLeDiff,reduceIte,Int.reduceAdd,Int.reduceSub,Int.reduceMul,Int.reduceLT,Int.reduceLE,Int.reduceEq,Int.reduceToNat,Int.reduceNeg,zed,zee,zfr,zhw,ysu,yrg,ysv,ysw]) (known_rw hg1 hc1l (by omega)) (by omega) (by omega) (by omega) (by omega) ?_
    have e1 : l.length - (l.length - 1) = 1 := by omega
    have hb1 : b < H1.size := by omega
    have hw : aWrite H1 b ((l.length - 1) * 9) (Builtin.zeroCells zc22 1).toList = some (H1.put b (.rw (List.take ((l.length - 1) * 9) c1 ++ (Builtin.zeroCells zc22 1).toList ++ List.drop ((l.length - 1) * 9 + (Builtin.zeroCells zc22 1).toList.length) c1) 45 true []), b) := by
      unfold aWrite
      have e6 : Nat.ble ((l.length - 1) * 9 + (Builtin.zeroCells zc22 1).toList.length) c1.length = true := Nat.ble_eq_true_of_le (by omega)
      simp only [hg1,e6,zc22_one,Bool.and_self,cond_true]
      rfl
    simp (disch := (first | (simp only [ne_eq,Nat.reduceEqDiff,not_false_eq_true,Nat.reduceLT]; done) | omega | (simp only [yz] <;> omega) | fail)) only [↓yp,yq0,yq1,yq2,yq3,yq4,yl,ys0,ys1,Nat.reduceAdd,Nat.reduceMul,Nat.reduceSub,Nat.reduceBEq,Nat.reduceEqDiff,Nat.reduceLT,Nat.reduceLeDiff,reduceIte,Int.reduceAdd,Int.reduceSub,Int.reduceMul,Int.reduceLT,Int.reduceLE,Int.reduceEq,Int.reduceToNat,Int.reduceNeg,zed,zee,zfr,zhw,ysu,yrg,ysv,ysw,A_clear st_clS_22,en]
    unfold clK
    simp only [e1,zc22_gr,hw,show Nat.beq 1 0 = false by rfl,cond_false,cond_true]
    refine ⟨hL, ?_⟩
    simp (disch := (first | (simp only [ne_eq,Nat.reduceEqDiff,not_false_eq_true,Nat.reduceLT]; done) | omega | (simp only [yz] <;> omega) | fail)) only [↓yp,yq0,yq1,yq2,yq3,yq4,yl,ys0,ys1,Nat.reduceAdd,Nat.reduceMul,Nat.reduceSub,Nat.reduceBEq,Nat.reduceEqDiff,Nat.reduceLT,Nat.reduceLeDiff,reduceIte,Int.reduceAdd,Int.reduceSub,Int.reduceMul,Int.reduceLT,Int.reduceLE,Int.reduceEq,Int.reduceToNat,Int.reduceNeg,zed,zee,zfr,zhw,ysu,yrg,ysv,ysw]
    refine ⟨by rw [en], _, hlen _ hc1l, hend _ hc1l hc1t, (by rw [← hH1]; exact ((FrX.refl _ _).put _).put _), ?_⟩
    first | exact hs1 | exact ⟨hs1, zdc hb1⟩ | exact ⟨hs1, rfl⟩
end Go.Am
/- Copies of streets, with what room they are known to have. -/
namespace Go.Am
open Go.Proofs
variable {T : Tab} {P : Program} {N L : Nat} {H : AHeap} {Q : Bool → Value → AHeap → Prop}
/-- Streets that lie at the beginning of a row. -/
theorem sl_cut {b : Nat} {l : List Str} {c : List Value} (hb : b < H.size) (h : cellsOf (H.get b) = some c) (hc : c.take (l.length * 9) = flat l) : Sl H (some ⟨b, 0, none⟩) l := by
  have hl := flat_length l
  obtain ⟨r, rfl⟩ : ∃ r, c = flat l ++ r := ⟨c.drop (l.length * 9), by rw [← hc, List.take_append_drop]⟩
  refine ⟨fun _ => ⟨b, 0, _, rfl, hb, h, fun i s hs => ?_⟩, fun b' o s c' _ ha hcc => ?_⟩
  · have hi : i < l.length := (List.getElem?_eq_some_iff.1 hs).1
    have e : ((flat l ++ r).drop (0 + i * 9)).take 9 = s.enc := by
      rw [Nat.zero_add, List.drop_append_of_le_length (by omega), List.take_append_of_le_length (by rw [List.length_drop]; omega)]
      exact flat_drop l i s hs
    unfold part
    simp only [e,enc_len,show Nat.beq 9 9 = true by rfl,cond_true]
  · cases ha
    rw [h] at hcc
    cases hcc
    rw [List.drop_zero, ← hl, List.take_left]
end Go.Am
