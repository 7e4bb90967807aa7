import Derived.Test.YtaieoelbpnjoiaaT41
set_option linter.unusedSimpArgs false
set_option linter.unusedVariables false
namespace Go.Am
open Go.Proofs
variable {T : Tab} {P : Program} {N L : Nat} {H : AHeap} {Q : Bool → Value → AHeap → Prop}
def kvs : List Stt → List Value
 | [] => []
 | s :: l => .int .i64 s.1 :: .int .u64 s.2 :: kvs l
theorem kvs_len : ∀ l, (kvs l).length = l.length * 2
 | [] => rfl
 | s :: l => by simp only [kvs,List.length_cons,kvs_len l]; omega
theorem kvs_app : ∀ l l', kvs (l ++ l') = kvs l ++ kvs l'
 | [], _ => rfl
 | s :: l, l' => by simp only [List.cons_append,kvs,kvs_app l l']
theorem kvs_part : ∀ {l : List Stt} {i : Nat} {s : Stt}, l[i]? = some s → part (kvs l) (i * 2) 3 = some (kv s)
 | [], i, s, h => by simp at h
 | t :: l, 0, s, h => by
  simp only [List.getElem?_cons_zero,Option.some.injEq] at h
  subst h
  rfl
 | t :: l, i + 1, s, h => by
  have := kvs_part (l := l) (i := i) (s := s) (by simpa using h)
  rw [← this]
  unfold part
  simp only [kvs,show (i + 1) * 2 = i * 2 + 1 + 1 by omega,List.drop_succ_cons]
structure RowB (H : AHeap) (v : Value) (l : List Stt) (own : List Nat) (cl : Prop) : Prop where
 nil : l = [] → v = .slice none 0 0
 cons : l ≠ [] → ∃ b cp, v = .slice (some ⟨b, 0, none⟩) l.length cp ∧ b ∈ own ∧ cellsOf (H.get b) = some (kvs l) ∧ (cl ∨ ∃ al, cp = OPEN + 2 ∧ (∀ j ∈ al, j ∈ own ∧ j ≠ b) ∧ H.get b = .rw (kvs l) 166 true al)
structure EXr (base : Nat) (a₀ : Int) (H : AHeap) (km kd : Nat) (st : Ex) (own : Nat → List Nat) : Prop where
 mp : MpB (H.get km) st.F
 km0 : base ≤ km
 km1 : km < H.size
 kd0 : base ≤ kd
 kd1 : kd < H.size
 ne : km ≠ kd
 arr : ∃ vs : List Value, H.get kd = .rw vs 178 false [] ∧ vs.length = 241 ∧ ∀ t : Nat, t < 241 → ∃ v, vs[t]? = some v ∧ RowB H v (st.D t) (own t) ((t : Int) = a₀)
 disj : ∀ t t', t < 241 → t' < 241 → t ≠ t' → ∀ b ∈ own t, b ∉ own t'
 ownb : ∀ t < 241, ∀ b ∈ own t, base ≤ b ∧ b < H.size ∧ b ≠ km ∧ b ≠ kd
structure FrE (H H'' : AHeap) (km kd : Nat) (own own' : Nat → List Nat) (k : Nat) : Prop where
 size : H.size ≤ H''.size
 same : ∀ k, k < H.size → k ≠ km → k ≠ kd → (∀ t < 241, k ∉ own t) → H''.get k = H.get k
 grow : ∀ t < 241, ∀ b ∈ own' t, b ∈ own t ∨ H.size ≤ b
 row : ∀ q ∈ own k, q < H.size → H''.get q = H.get q
 ownk : own' k = own k
section
variable {base km kd : Nat} {a₀ : Int} {st : Ex} {own own' own'' : Nat → List Nat} {H' H'' : AHeap}
theorem FrE.refl (H : AHeap) (km kd : Nat) (own : Nat → List Nat) (k : Nat) : FrE H H km kd own own k := ⟨Nat.le_refl _, fun _ _ _ _ _ => rfl, fun _ _ _ h => .inl h, fun _ _ _ => rfl, rfl⟩
theorem FrE.trans {k : Nat} (f : FrE H H' km kd own own' k) (f' : FrE H' H'' km kd own' own'' k) : FrE H H'' km kd own own'' k where
 size := Nat.le_trans f.size f'.size
 same k hk h1 h2 h3 := by
  rw [f'.same k (Nat.lt_of_lt_of_le hk f.size) h1 h2 (fun t ht hm => by
   rcases f.grow t ht k hm with h | h
   ·exact h3 t ht h
   ·omega)]
  exact f.same k hk h1 h2 h3
 grow t ht b hb := by
  rcases f'.grow t ht b hb with h | h
  ·exact f.grow t ht b h
  ·exact .inr (Nat.le_trans f.size h)
 row q hq hlt := by
  rw [f'.row q (by rw [f.ownk]; exact hq) (Nat.lt_of_lt_of_le hlt f.size)]
  exact f.row q hq hlt
 ownk := f'.ownk.trans f.ownk
theorem FrE.of {k : Nat} (f : Fr H H') : FrE H H' km kd own own k := ⟨f.size, fun k hk _ _ _ => f.same k hk, fun _ _ _ h => .inl h, fun q _ hlt => f.same q hlt, rfl⟩
theorem EXr.keep (I : EXr base a₀ H km kd st own) (hs : H.size ≤ H'.size) (hm : H'.get km = H.get km) (hd : H'.get kd = H.get kd) (ho : ∀ t < 241, ∀ b ∈ own t, H'.get b = H.get b) : EXr base a₀ H' km kd st own where
 mp := by rw [hm]; exact I.mp
 km0 := I.km0
 km1 := Nat.lt_of_lt_of_le I.km1 hs
 kd0 := I.kd0
 kd1 := Nat.lt_of_lt_of_le I.kd1 hs
 ne := I.ne
 arr := by
  obtain ⟨vs, h1, h2, h3⟩ := I.arr
  refine ⟨vs, by rw [hd]; exact h1, h2, fun t ht => ?_⟩
  obtain ⟨v, q1, q2⟩ := h3 t ht
  refine ⟨v, q1, q2.nil, fun hne => ?_⟩
  obtain ⟨b, cp, r1, r2, r3, r4⟩ := q2.cons hne
  exact ⟨b, cp, r1, r2, by rw [ho t ht b r2]; exact r3, by rw [ho t ht b r2]; exact r4⟩
 disj := I.disj
 ownb t ht b hb := by
  obtain ⟨q1, q2, q3⟩ := I.ownb t ht b hb
  exact ⟨q1, Nat.lt_of_lt_of_le q2 hs, q3⟩
theorem EXr.fr (I : EXr base a₀ H km kd st own) (f : Fr H H') : EXr base a₀ H' km kd st own :=
 I.keep f.size (f.same _ I.km1) (f.same _ I.kd1) fun t ht b hb => f.same _ (I.ownb t ht b hb).2.1
theorem EXr.put (I : EXr base a₀ H km kd st own) {k : Nat} (h1 : k ≠ km) (h2 : k ≠ kd) (h3 : ∀ t < 241, k ∉ own t) (blk : ABlk) : EXr base a₀ (H.put k blk) km kd st own :=
 I.keep (by rw [zdf]; exact Nat.le_refl _) (zdd h1.symm) (zdd h2.symm) fun t ht b hb => zdd fun e => h3 t ht (by rw [← e]; exact hb)
theorem EXr.map (I : EXr base a₀ H km kd st own) {F : Fm} {blk : ABlk} (h : MpB blk F) : EXr base a₀ (H.put km blk) km kd ⟨F, st.D⟩ own where
 mp := by rw [zdc I.km1]; exact h
 km0 := I.km0
 km1 := by rw [zdf]; exact I.km1
 kd0 := I.kd0
 kd1 := by rw [zdf]; exact I.kd1
 ne := I.ne
 arr := by
  obtain ⟨vs, h1, h2, h3⟩ := I.arr
  refine ⟨vs, by rw [zdd (fun e => I.ne e.symm)]; exact h1, h2, fun t ht => ?_⟩
  obtain ⟨v, q1, q2⟩ := h3 t ht
  refine ⟨v, q1, q2.nil, fun hne => ?_⟩
  obtain ⟨b, cp, r1, r2, r3, r4⟩ := q2.cons hne
  exact ⟨b, cp, r1, r2, by rw [zdd (I.ownb t ht b r2).2.2.1]; exact r3, by rw [zdd (I.ownb t ht b r2).2.2.1]; exact r4⟩
 disj := I.disj
 ownb t ht b hb := by
  obtain ⟨q1, q2, q3⟩ := I.ownb t ht b hb
  exact ⟨q1, by rw [zdf]; exact q2, q3⟩
theorem due_append {H₁ : AHeap} {t bn cp : Nat} {v : Value} {s : Stt} {l : List Stt} {cl : Prop} (hncl : ¬ cl) (hr : RowB H₁ v l (own t) cl) (hb : ∀ b ∈ own t, base ≤ b ∧ b < H₁.size) (hL : L ≤ base) (hs : L ≤ H₁.size) (hn : srcCells H₁ ⟨bn, 0, none⟩ (1 * 2) = some [.int .i64 s.1, .int .u64 s.2]) (hl : l.length ≤ 100000)
  (hq : ∀ H₂ al, H₂.size = H₁.size + 1 → (∀ k, k < H₁.size → k ∉ own t → H₂.get k = H₁.get k) → H₂.get H₁.size = .rw (kvs (l ++ [s])) 166 true al → (∀ j ∈ al, j ∈ own t) → Q false (.slice (some ⟨H₁.size, 0, none⟩) (l.length + 1) (OPEN + 2)) H₂) :
  apK tabA H₁ 177 v (.slice (some ⟨bn, 0, none⟩) 1 cp) L Q := by
 by_cases hne : l = []
 ·subst hne
  rw [hr.nil rfl, apK_nil st_apS_177 hn (by omega) (by omega) (by omega) rfl, zba _ hs]
  exact hq _ [] (by rw [zde]) (fun k hk _ => zdb hk) (zda rfl) (fun j hj => by simp at hj)
 ·obtain ⟨b, cp, rfl, r2, -, r5⟩ := hr.cons hne
  obtain ⟨al, rfl, r3, r4⟩ := r5.resolve_left hncl
  rw [apK_more st_apS_177 hn (by omega) (by omega) (by omega) rfl r4 (by rw [kvs_len]) rfl, zba _ (le_minAl (by have := hb b r2; omega) (fun j hj => by have := hb j (r3 j hj).1; omega))]
  refine hq _ [b] (by simp only [zde,zdf,zdg]) (fun k hk hno => ?_) ?_ (fun j hj => by simp only [List.mem_singleton] at hj; subst hj; exact r2)
  ·rw [zdb (by simp only [zdf,zdg]; omega), zdd (fun e => hno (by rw [e]; exact r2)), get_kill (fun hm => hno (r3 k hm).1)]
  ·rw [zda (by simp only [zdf,zdg]), kvs_app]; rfl
theorem EXr.due (I : EXr base a₀ H km kd st own) {H₁ H₂ : AHeap} {t : Nat} {al : List Nat} {s : Stt} {vs : List Value} (ht : t < 241) (hv : H.get kd = .rw vs 178 false []) (f : Fr H H₁) (h1 : H₂.size = H₁.size + 1) (h2 : ∀ k, k < H₁.size → k ∉ own t → H₂.get k = H₁.get k) (h3 : H₂.get H₁.size = .rw (kvs (st.D t ++ [s])) 166 true al) (h4 : ∀ j ∈ al, j ∈ own t) :
  EXr base a₀ (H₂.put kd (.rw (zee t [.slice (some ⟨H₁.size, 0, none⟩) ((st.D t).length + 1) (OPEN + 2)] vs) 178 false [])) km kd ⟨st.F, fun u => if u = (t : Int) then st.D u ++ [s] else st.D u⟩ (fun u => if u = t then H₁.size :: own t else own u) := by
 have f1 := f.size
 have e1 : ∀ k, k < H.size → k ∉ own t → H₂.get k = H.get k := fun k hk hno => by rw [h2 k (by omega) hno, f.same k hk]
 have hkmo : km ∉ own t := fun h => (I.ownb t ht km h).2.2.1 rfl
 obtain ⟨vs', q1, q2, q3⟩ := I.arr
 rw [hv] at q1
 cases q1
 refine ⟨?_, I.km0, by rw [zdf]; have := I.km1; omega, I.kd0, by rw [zdf]; have := I.kd1; omega, I.ne, ?_, ?_, ?_⟩
 ·rw [zdd I.ne, e1 km I.km1 hkmo]
  exact I.mp
 ·refine ⟨_, zdc (by have := I.kd1; omega), ?_, fun u hu => ?_⟩
  ·unfold zee
   simp only [List.length_append,List.length_take,List.length_drop,List.length_cons,List.length_nil]
   omega
  ·by_cases e : u = t
   ·subst e
    refine ⟨.slice (some ⟨H₁.size, 0, none⟩) ((st.D u).length + 1) (OPEN + 2), ?_, ?_⟩
    ·unfold zee
     rw [List.append_assoc, List.getElem?_append_right (by rw [List.length_take]; omega), List.length_take, show u - min u vs.length = 0 by omega]
     rfl
    ·simp only [if_true]
     have hg : (H₂.put kd (.rw (zee u [.slice (some ⟨H₁.size, 0, none⟩) ((st.D u).length + 1) (OPEN + 2)] vs) 178 false [])).get H₁.size = .rw (kvs (st.D u ++ [s])) 166 true al := by rw [zdd (by have := I.kd1; omega)]; exact h3
     refine ⟨fun h => by simp at h, fun _ => ⟨H₁.size, OPEN + 2, by rw [List.length_append]; rfl, by simp, by rw [hg]; rfl, .inr ⟨al, rfl, fun j hj => ⟨List.mem_cons_of_mem _ (h4 j hj), fun e => ?_⟩, hg⟩⟩⟩
     have := (I.ownb u ht j (h4 j hj)).2.1
     omega
   ·obtain ⟨v, r1, r2⟩ := q3 u hu
    refine ⟨v, ?_, ?_⟩
    ·unfold zee
     simp only [List.length_cons,List.length_nil]
     by_cases hlt : u < t
     ·rw [List.append_assoc, List.getElem?_append_left (by rw [List.length_take]; omega), List.getElem?_take, if_pos hlt]; exact r1
     ·rw [List.getElem?_append_right (by rw [List.length_append, List.length_take]; simp; omega), List.getElem?_drop, List.length_append, List.length_take]
      simp only [List.length_cons,List.length_nil]
      rw [show t + (0 + 1) + (u - (min t vs.length + (0 + 1))) = u by omega]; exact r1
    ·have hne : ¬ ((u : Int) = (t : Int)) := by omega
     rw [if_neg e]
     simp only [if_neg hne]
     refine ⟨r2.nil, fun hn => ?_⟩
     obtain ⟨b, cp, p1, p2, p3, p4⟩ := r2.cons hn
     have hb := I.ownb u hu b p2
     have hg : (H₂.put kd (.rw (zee t [.slice (some ⟨H₁.size, 0, none⟩) ((st.D t).length + 1) (OPEN + 2)] vs) 178 false [])).get b = H.get b := by rw [zdd hb.2.2.2, e1 b hb.2.1 (I.disj u t hu ht e b p2)]
     exact ⟨b, cp, p1, p2, by rw [hg]; exact p3, by rw [hg]; exact p4⟩
 ·intro u u' hu hu' hne b hb
  have lt : ∀ w < 241, ∀ b ∈ own w, b < H₁.size := fun w hw b hb => by have := (I.ownb w hw b hb).2.1; omega
  by_cases e : u = t
  ·rw [if_pos e] at hb
   have e' : u' ≠ t := fun h => hne (e.trans h.symm)
   rw [if_neg e']
   rcases List.mem_cons.1 hb with rfl | hb
   ·exact fun h => by have := lt u' hu' _ h; omega
   ·exact I.disj t u' ht hu' (fun h => e' h.symm) b hb
  ·rw [if_neg e] at hb
   by_cases e' : u' = t
   ·rw [if_pos e']
    intro h
    rcases List.mem_cons.1 h with rfl | h
    ·have := lt u hu _ hb; omega
    ·exact I.disj u t hu ht e b hb h
   ·rw [if_neg e']
    exact I.disj u u' hu hu' hne b hb
 ·intro u hu b hb
  rw [zdf, h1]
  by_cases e : u = t
  ·rw [if_pos e] at hb
   rcases List.mem_cons.1 hb with rfl | hb
   ·have := I.km1
    have := I.kd1
    have := I.kd0
    exact ⟨by omega, by omega, by omega, by omega⟩
   ·obtain ⟨r1, r2, r3⟩ := I.ownb t ht b hb
    exact ⟨r1, by omega, r3⟩
  ·rw [if_neg e] at hb
   obtain ⟨r1, r2, r3⟩ := I.ownb u hu b hb
   exact ⟨r1, by omega, r3⟩
end
end Go.Am
namespace Go.Am
open Go.Proofs
variable {T : Tab} {P : Program} {N L : Nat} {H : AHeap} {Q : Bool → Value → AHeap → Prop}
theorem nodup_len {α : Type} [DecidableEq α] : ∀ {l S : List α}, l.Nodup → (∀ x ∈ l, x ∈ S) → l.length ≤ S.length
 | [], S, _, _ => Nat.zero_le _
 | x :: l, S, h, hs => by
  have h' := List.nodup_cons.1 h
  have hx := hs x (by simp)
  have hl : l.length ≤ (S.erase x).length := nodup_len h'.2 fun y hy => (List.mem_erase_of_ne (fun e => h'.1 (by rw [← e]; exact hy))).2 (hs y (List.mem_cons_of_mem _ hy))
  have he := List.length_erase_of_mem hx
  have hp := List.length_pos_of_mem hx
  simp only [List.length_cons]
  omega
def rfBody : Code → Code
 | .rangeFunc _ _ _ b => b
 | c => c
theorem rfBody_eq {x : Operand} {ps : Array Tmp} {a b : Code} : rfBody (.rangeFunc x ps a b) = b := rfl
structure ExC (H₀ : AHeap) (l : List Str) (C w ld : Int) (a : Option Addr) (cap : Nat) (sv : Value) (bt : Nat → Int) (dn : Int → Nat → Int) (S : List Stt) : Prop where
 sl : Sl H₀ a l
 g : Good C l ld
 hl : l.length ≤ 18
 bit : ∀ (N : Nat) (H'' : AHeap) (i : Nat), Fr H₀ H'' → i < l.length → acall tabA (aexec tabA Try.prog (N + 100)) 132 [sv, .int .i64 (i : Nat)] H'' = some (true, .int .u64 (bt i), H'', H''.size)
 or : ∀ s ∈ S, ∀ (i : Nat) (x y : Operand), i < l.length → binV tabA Try.prog .or 142 x y (.int .u64 s.2) (.int .u64 (bt i)) = some (.int .u64 (dn s.2 i))
 lenS : S.length ≤ 1000
 cells : sv.cells.toList = [sv]
 same6 : sameV 6 sv sv = true
def nxt (dn : Int → Nat → Int) (s : Stt) (i : Nat) (r : Str) (b : Bool) : Stt := (farL r b, dn s.2 i)
theorem FrE.km {H : AHeap} {km kd k : Nat} {own : Nat → List Nat} {blk : ABlk} (h : ∀ q ∈ own k, q ≠ km) : FrE H (H.put km blk) km kd own own k := ⟨by rw [zdf]; exact Nat.le_refl _, fun k _ h1 _ _ => zdd h1, fun _ _ _ h => .inl h, fun q hq _ => zdd (h q hq), rfl⟩
section
variable {H₀ Ha : AHeap} {l : List Str} {C w ld a₀ : Int} {a : Option Addr} {sv : Value} {cap km kd k4 k7 k10 k12 k14 k15 : Nat} {bt : Nat → Int} {dn : Int → Nat → Int} {S : List Stt} {s₀ here : Stt} {st : Ex} {own : Nat → List Nat} {e : VT} {h : Arv} {k : Nat}
structure LB (Ha : AHeap) (l : List Str) (C w ld : Int) (a : Option Addr) (cap : Nat) (sv : Value) (km kd k4 k7 k10 k12 k14 : Nat) (here : Stt) (k : Nat) (own : Nat → List Nat) (e : VT) : Prop where
 g4 : gt 110 e 4 = .pointer (some ⟨k4, 0, none⟩)
 g7 : gt 110 e 7 = .pointer (some ⟨k7, 0, none⟩)
 g10 : gt 110 e 10 = .pointer (some ⟨k10, 0, none⟩)
 g11 : gt 110 e 11 = .pointer (some ⟨kd, 0, none⟩)
 g12 : gt 110 e 12 = .pointer (some ⟨k12, 0, none⟩)
 g14 : gt 110 e 14 = .pointer (some ⟨k14, 0, none⟩)
 b4 : Ha.get k4 = .rw [.int .i64 C, .slice a l.length cap, .int .i64 w, .int .i64 ld, .int .i64 (-1)] 124 false []
 b7 : Ha.get k7 = .rw [sv] 52 false []
 b10 : Ha.get k10 = .rw [.map (some km)] 163 false []
 b12 : Ha.get k12 = .rw [.int .i64 (k : Nat)] 3 false []
 b14 : Ha.get k14 = .rw [.int .i64 here.1, .int .u64 here.2] 166 false []
 l4 : k4 < Ha.size
 l7 : k7 < Ha.size
 l10 : k10 < Ha.size
 l12 : k12 < Ha.size
 l14 : k14 < Ha.size
set_option maxHeartbeats 4000000 in
set_option maxRecDepth 10000 in
theorem c120b {lb i : Nat} {r : Str} {b : Bool} (X : ExC H₀ l C w ld a cap sv bt dn S) (f0 : Fr H₀ Ha) (E : EXr H₀.size a₀ Ha km kd st own) (I : ExI l w ld (nxt dn) s₀ a₀ S k st) (hhS : here ∈ S) (B : LB Ha l C w ld a cap sv km kd k4 k7 k10 k12 k14 here k own e)
  (g15 : gt 110 e 15 = .pointer (some ⟨k15, 0, none⟩)) (b15 : Ha.get k15 = .rw [.int .i64 (i : Nat), .bool b] 28 false []) (l15 : k15 < Ha.size) (hi : l[i]? = some r) (hk : k ≤ 240) (hak : a₀ ≤ k) (hL : L ≤ H₀.size) :
  W tabA Try.prog (N + 600) (some lb) (rfBody (sub [true, true, true, true, true, false, true, false, false, true, true, false, false, true, true, false, false, true, true, false, false, true, true, true, false] (bodyOf Try.f120))) L ⟨110, e, Ha, []⟩ (endK 110 [] fun e' H'' => ∃ own', EXr H₀.size a₀ H'' km kd (relax ld (nxt dn) here k st i r b) own' ∧ FrE Ha H'' km kd own own' k) := by
 have sz0 := f0.size
 have hilt := (List.getElem?_eq_some_iff.1 hi).1
 have hf := X.g.fit (List.mem_of_getElem? hi)
 have g4 := B.g4
 have g7 := B.g7
 have g10 := B.g10
 have g11 := B.g11
 have g12 := B.g12
 have g14 := B.g14
 have b4 := B.b4
 have b7 := B.b7
 have b10 := B.b10
 have b12 := B.b12
 have b14 := B.b14
 have l4 := B.l4
 have l7 := B.l7
 have l10 := B.l10
 have l12 := B.l12
 have l14 := B.l14
 have hor := X.or here hhS
 have hbit := X.bit
 have harr : arrL r b ld (k : Int) = arriveL r b ld k := by unfold arrL; rw [if_neg (by omega)]
 have h117 := fun (N : Nat) (H'' : AHeap) (f : Fr H₀ H'') => c117m (N := N) (C := C) (w := w) (cap := cap) (b := b) (m := (k : Int)) (X.sl.fr f) hi hf (by unfold okM; omega)
 have h94 := fun (N : Nat) (H'' : AHeap) (f : Fr H₀ H'') => c94 (N := N) (C := C) (w := w) (ld := ld) (cap := cap) (b := b) (X.sl.fr f) hi
 simp only [jobV,legV] at h117 h94
 rw [harr] at h117
 simp only [Try.f120,bodyOf,sub_nil,sub_seq0,sub_seq1,sub_block,sub_loop,sub_cond0,sub_cond1,rfBody_eq]
 rw [zah]
 refine W_seqI (fun e' H'' => Keep 110 [4, 7, 10, 11, 12, 14, 15] e e' ∧ gt 110 e' 16 = .int .i64 (arriveL r b ld k) ∧ Ha = H'') ?_ ?_
 ·simp (disch:=first|(simp only [yk,seval];done)|omega|(simp only [yz]<;>omega)|fail) only [↓yp,yq0,yq1,yq2,yq3,yq4,yl,ys0,ys1,seval,zed,zee,zfr,zhw,ysu,yrg,ysv,ysw,ysx,ysz,g4,g12,g15,b4,b12,b15]
  rw [h117 _ _ f0]
  simp (disch:=first|(simp only [yk,seval];done)|omega|(simp only [yz]<;>omega)|fail) only [↓yp,yq0,yq1,yq2,yq3,yq4,yl,ys0,ys1,seval,zed,zee,zfr,zhw,ysu,yrg,ysv,ysw,ysx,ysz]
  exact ⟨by (with_reducible repeat first|refine Keep.put ?_ (by decide)|refine Keep.none ?_|assumption|exact Keep.refl _ _ _), by simp (disch:=first|(simp only [yk,seval];done)|omega|(simp only [yz]<;>omega)|fail) only [yg,seval], rfl⟩
 rintro e1 _ ⟨k1, g16, rfl⟩
 refine W_seqI (fun e' H'' => Keep 110 [4, 7, 10, 11, 12, 14, 15] e e' ∧ gt 110 e' 16 = .int .i64 (arriveL r b ld k) ∧ gt 110 e' 18 = .int .i64 (farL r b) ∧ Ha = H'') ?_ ?_
 ·have q4 := (k1 4 (by simp)).trans g4
  have q15 := (k1 15 (by simp)).trans g15
  simp (disch:=first|(simp only [yk,seval];done)|omega|(simp only [yz]<;>omega)|fail) only [↓yp,yq0,yq1,yq2,yq3,yq4,yl,ys0,ys1,seval,zed,zee,zfr,zhw,ysu,yrg,ysv,ysw,ysx,ysz,q4,q15,b4,b15]
  rw [h94 _ _ f0]
  simp (disch:=first|(simp only [yk,seval];done)|omega|(simp only [yz]<;>omega)|fail) only [↓yp,yq0,yq1,yq2,yq3,yq4,yl,ys0,ys1,seval,zed,zee,zfr,zhw,ysu,yrg,ysv,ysw,ysx,ysz]
  exact ⟨by (with_reducible repeat first|refine Keep.put ?_ (by decide)|refine Keep.none ?_|assumption|exact Keep.refl _ _ _), by simp (disch:=first|(simp only [yk,seval];done)|omega|(simp only [yz]<;>omega)|fail) only [yg,seval,g16], by simp (disch:=first|(simp only [yk,seval];done)|omega|(simp only [yz]<;>omega)|fail) only [yg,seval], rfl⟩
 clear g16 k1
 rintro e2 _ ⟨k1, g16, g18, rfl⟩
 refine W_seqI (fun e' H'' => Keep 110 [4, 7, 10, 11, 12, 14, 15] e e' ∧ gt 110 e' 16 = .int .i64 (arriveL r b ld k) ∧ gt 110 e' 19 = .pointer (some ⟨Ha.size, 0, none⟩) ∧ Fr Ha H'' ∧ H''.size = Ha.size + 1 ∧ H''.get Ha.size = .rw [.int .i64 (farL r b), .int .u64 (dn here.2 i)] 166 false []) ?_ ?_
 ·have q7 := (k1 7 (by simp)).trans g7
  have q14 := (k1 14 (by simp)).trans g14
  have q15 := (k1 15 (by simp)).trans g15
  have hor2 := fun (x y : Operand) => hor i x y hilt
  refine W_draw [9, 10] rfl (by kernel_rfl) (by kernel_rfl) (by first|omega|(simp only [yz]<;>omega)) ?_
  simp (disch:=first|(simp only [yk,seval];done)|omega|(simp only [yz]<;>omega)|fail) only [↓yp,yq0,yq1,yq2,yq3,yq4,yl,ys0,ys1,seval,zed,zee,zfr,zhw,ysu,yrg,ysv,ysw,ysx,ysz,g18,q7,q14,q15,b7,b14,b15]
  rw [hbit _ _ _ f0 hilt]
  simp (disch:=first|(simp only [yk,seval];done)|omega|(simp only [yz]<;>omega)|fail) only [↓yp,yq0,yq1,yq2,yq3,yq4,yl,ys0,ys1,seval,zed,zee,zfr,zhw,ysu,yrg,ysv,ysw,ysx,ysz,g18,q7,q14,q15,b7,b14,b15,hor2,A_build st_bdS_166]
  rw [hbit _ _ _ f0 hilt, hbit _ _ _ (f0.allocd _) hilt, hbit _ _ _ (Fr.put (f0.allocd _) (by omega) _) hilt]
  simp (disch:=first|(simp only [yk,seval];done)|omega|(simp only [yz]<;>omega)|fail) only [↓yp,yq0,yq1,yq2,yq3,yq4,yl,ys0,ys1,seval,zed,zee,zfr,zhw,ysu,yrg,ysv,ysw,ysx,ysz]
  refine ⟨⟨X.same6, X.same6, X.same6⟩, by (with_reducible repeat first|refine Keep.put ?_ (by decide)|refine Keep.none ?_|assumption|exact Keep.refl _ _ _), ?_, ?_, by (repeat (first | exact Fr.refl _ | assumption | refine Fr.allocd ?_ _ | refine Fr.put ?_ (by first | omega | (simp only [yz] <;> omega)) _)), by (first | omega | (simp only [yz] <;> omega)), zdc (by first|omega|(simp only [yz]<;>omega))⟩
  ·simp (disch:=first|(simp only [yk,seval];done)|omega|(simp only [yz]<;>omega)|fail) only [yg,seval,g16]
  ·simp (disch:=first|(simp only [yk,seval];done)|omega|(simp only [yz]<;>omega)|fail) only [yg,seval]
 clear g16 g18 k1
 rintro e3 H3 ⟨k1, g16, g19, f3, sz3, b19⟩
 obtain ⟨th, hth⟩ : ∃ th, arriveL r b ld k = th := ⟨_, rfl⟩
 rw [hth] at g16
 obtain ⟨fo, hfo⟩ : ∃ fo, flk st.F (nxt dn here i r b) = fo := ⟨_, rfl⟩
 refine W_seqI (fun e' H'' => (th = -1 ∨ ∃ o, fo = some o ∧ o.m ≤ th) = False ∧ Keep 110 [4, 7, 10, 11, 12, 14, 15] e e' ∧ gt 110 e' 16 = .int .i64 th ∧ gt 110 e' 19 = .pointer (some ⟨Ha.size, 0, none⟩) ∧ Fr Ha H'' ∧ Ha.size < H''.size ∧ H''.get Ha.size = .rw [.int .i64 (farL r b), .int .u64 (dn here.2 i)] 166 false []) ?_ ?_
 ·have E3 := E.fr f3
  have q10 := (k1 10 (by simp)).trans g10
  have b10' := (f3.same _ l10).trans b10
  have done : (th = -1 ∨ ∃ o, fo = some o ∧ o.m ≤ th) → relax ld (nxt dn) here k st i r b = st := fun hc => by
   unfold relax
   rw [hth, hfo, if_pos hc]
  refine W_seqI (fun e' H'' => Keep 110 [4, 7, 10, 11, 12, 14, 15] e e' ∧ gt 110 e' 16 = .int .i64 th ∧ gt 110 e' 19 = .pointer (some ⟨Ha.size, 0, none⟩) ∧ gt 110 e' 20 = .pointer (some ⟨H3.size, 0, none⟩) ∧ gt 110 e' 21 = .bool fo.isSome ∧ Fr Ha H'' ∧ H''.size = H3.size + 1 ∧ H''.get Ha.size = .rw [.int .i64 (farL r b), .int .u64 (dn here.2 i)] 166 false [] ∧ H''.get H3.size = .rw [.int .i64 (orZero fo).m, .int .i64 (orZero fo).i, .bool (orZero fo).b, .int .i64 (orZero fo).c, .int .u64 (orZero fo).d] 168 false []) ?_ ?_
  ·simp (disch:=first|(simp only [yk,seval];done)|omega|(simp only [yz]<;>omega)|fail) only [↓yp,yq0,yq1,yq2,yq3,yq4,yl,ys0,ys1,seval,zed,zee,zfr,zhw,ysu,yrg,ysv,ysw,ysx,ysz,q10,g19,b10',b19]
   refine A_look (F := st.F) (s := nxt dn here i r b) (k := km) (by simp (disch:=first|(simp only [yk,seval];done)|omega|(simp only [yz]<;>omega)|fail) only [↓yp,yq0,yq1,yq2,yq3,yq4,yl,ys0,ys1,seval,zed,zee,zfr,zhw,ysu,yrg,ysv,ysw,ysx,ysz]) (by simp (disch:=first|(simp only [yk,seval];done)|omega|(simp only [yz]<;>omega)|fail) only [↓yp,yq0,yq1,yq2,yq3,yq4,yl,ys0,ys1,seval,zed,zee,zfr,zhw,ysu,yrg,ysv,ysw,ysx,ysz,nxt,kv]) E3.mp (by omega) ?_
   rw [hfo]
   simp (disch:=first|(simp only [yk,seval];done)|omega|(simp only [yz]<;>omega)|fail) only [↓yp,yq0,yq1,yq2,yq3,yq4,yl,ys0,ys1,seval,zed,zee,zfr,zhw,ysu,yrg,ysv,ysw,ysx,ysz,av]
   refine ⟨by (with_reducible repeat first|refine Keep.put ?_ (by decide)|refine Keep.none ?_|assumption|exact Keep.refl _ _ _), ?_, ?_, ?_, ?_, Fr.put (Fr.allocd f3 _) (by omega) _, by (first | omega | (simp only [yz] <;> omega)), by rw [zdd (by omega), zdb (by omega)]; exact b19, zdc (by first|omega|(simp only [yz]<;>omega))⟩
   ·simp (disch:=first|(simp only [yk,seval];done)|omega|(simp only [yz]<;>omega)|fail) only [yg,seval,g16]
   ·simp (disch:=first|(simp only [yk,seval];done)|omega|(simp only [yz]<;>omega)|fail) only [yg,seval,g19]
   ·simp (disch:=first|(simp only [yk,seval];done)|omega|(simp only [yz]<;>omega)|fail) only [yg,seval]
   ·simp (disch:=first|(simp only [yk,seval];done)|omega|(simp only [yz]<;>omega)|fail) only [yg,seval]
  clear g16 g19 k1 E3 q10 b10' f3 b19
  rintro e4 H4 ⟨k1, g16, g19, g20, g21, f4, sz4, b19, b20⟩
  have skip : (th = -1 ∨ ∃ o, fo = some o ∧ o.m ≤ th) → ∃ own', EXr H₀.size a₀ H4 km kd (relax ld (nxt dn) here k st i r b) own' ∧ FrE Ha H4 km kd own own' k := fun hc => by
   rw [done hc]
   exact ⟨own, E.fr f4, FrE.of f4⟩
  cases h1 : decide (th = -1)
  rotate_left
  ·simp (disch:=first|(simp only [yk,seval];done)|omega|(simp only [yz]<;>omega)|fail) only [↓yp,yq0,yq1,yq2,yq3,yq4,yl,ys0,ys1,seval,zed,zee,zfr,zhw,ysu,yrg,ysv,ysw,ysx,ysz,g16,g20,g21,b20,h1]
   exact skip (.inl (of_decide_eq_true h1))
  have h1' := of_decide_eq_false h1
  cases fo with
  | none =>
   simp only [Option.isSome_none] at g21
   simp (disch:=first|(simp only [yk,seval];done)|omega|(simp only [yz]<;>omega)|fail) only [↓yp,yq0,yq1,yq2,yq3,yq4,yl,ys0,ys1,seval,zed,zee,zfr,zhw,ysu,yrg,ysv,ysw,ysx,ysz,g16,g20,g21,b20,h1]
   refine ⟨by simp [h1'], by (with_reducible repeat first|refine Keep.put ?_ (by decide)|refine Keep.none ?_|assumption|exact Keep.refl _ _ _), ?_, ?_, f4, by omega, b19⟩
   ·simp (disch:=first|(simp only [yk,seval];done)|omega|(simp only [yz]<;>omega)|fail) only [yg,seval,g16]
   ·simp (disch:=first|(simp only [yk,seval];done)|omega|(simp only [yz]<;>omega)|fail) only [yg,seval,g19]
  | some o =>
   simp only [Option.isSome_some] at g21
   simp only [orZero] at b20
   cases h2 : decide (o.m ≤ th)
   ·have h2' := of_decide_eq_false h2
    simp (disch:=first|(simp only [yk,seval];done)|omega|(simp only [yz]<;>omega)|fail) only [↓yp,yq0,yq1,yq2,yq3,yq4,yl,ys0,ys1,seval,zed,zee,zfr,zhw,ysu,yrg,ysv,ysw,ysx,ysz,g16,g20,g21,b20,h1,h2]
    refine ⟨by simp [h1', h2'], by (with_reducible repeat first|refine Keep.put ?_ (by decide)|refine Keep.none ?_|assumption|exact Keep.refl _ _ _), ?_, ?_, f4, by omega, b19⟩
    ·simp (disch:=first|(simp only [yk,seval];done)|omega|(simp only [yz]<;>omega)|fail) only [yg,seval,g16]
    ·simp (disch:=first|(simp only [yk,seval];done)|omega|(simp only [yz]<;>omega)|fail) only [yg,seval,g19]
   ·simp (disch:=first|(simp only [yk,seval];done)|omega|(simp only [yz]<;>omega)|fail) only [↓yp,yq0,yq1,yq2,yq3,yq4,yl,ys0,ys1,seval,zed,zee,zfr,zhw,ysu,yrg,ysv,ysw,ysx,ysz,g16,g20,g21,b20,h1,h2]
    exact skip (.inr ⟨o, rfl, of_decide_eq_true h2⟩)
 clear g16 g19 k1 f3 b19 sz3
 clear e3 H3
 rintro e3 H3 ⟨hc, k1, g16, g19, f3, l19, b19⟩
 have hc' : ¬ (th = -1 ∨ ∃ o, fo = some o ∧ o.m ≤ th) := of_eq_false hc
 have hth1 : th ≠ -1 := fun h => hc' (.inl h)
 have hrl : relax ld (nxt dn) here k st i r b = ⟨fup st.F (nxt dn here i r b) ⟨th, i, b, here.1, here.2⟩, fun t => if t = th then st.D t ++ [nxt dn here i r b] else st.D t⟩ := by
  unfold relax
  rw [hth, hfo, if_neg hc']
 have hgt := arr_gt (b := b) hf (Int.natCast_nonneg k) (by rw [hth]; exact hth1)
 rw [hth] at hgt
 rw [hrl]
 obtain ⟨t, rfl⟩ : ∃ t : Nat, th = t := ⟨th.toNat, by omega⟩
 have ht241 : t < 241 := by omega
 refine W_seqI (fun e' H'' => Keep 110 [4, 7, 10, 11, 12, 14, 15] e e' ∧ gt 110 e' 16 = .int .i64 (t : Nat) ∧ gt 110 e' 19 = .pointer (some ⟨Ha.size, 0, none⟩) ∧ EXr H₀.size a₀ H'' km kd ⟨fup st.F (nxt dn here i r b) ⟨t, i, b, here.1, here.2⟩, st.D⟩ own ∧ FrE Ha H'' km kd own own k ∧ Ha.size < H''.size ∧ H''.get Ha.size = .rw [.int .i64 (farL r b), .int .u64 (dn here.2 i)] 166 false []) ?_ ?_
 ·have E3 := E.fr f3
  have q10 := (k1 10 (by simp)).trans g10
  have q14 := (k1 14 (by simp)).trans g14
  have q15 := (k1 15 (by simp)).trans g15
  have b10' := (f3.same _ l10).trans b10
  have b14' := (f3.same _ l14).trans b14
  have b15' := (f3.same _ l15).trans b15
  have hkm0 := E.km0
  have hkm1 := E.km1
  simp (disch:=first|(simp only [yk,seval];done)|omega|(simp only [yz]<;>omega)|fail) only [↓yp,yq0,yq1,yq2,yq3,yq4,yl,ys0,ys1,seval,zed,zee,zfr,zhw,ysu,yrg,ysv,ysw,ysx,ysz,q10,q14,q15,g16,g19,b10',b14',b15',b19,A_build st_bdS_168]
  refine A_upd (F := st.F) (s := nxt dn here i r b) (k := km) (v := ⟨t, i, b, here.1, here.2⟩) (by simp (disch:=first|(simp only [yk,seval];done)|omega|(simp only [yz]<;>omega)|fail) only [↓yp,yq0,yq1,yq2,yq3,yq4,yl,ys0,ys1,seval,zed,zee,zfr,zhw,ysu,yrg,ysv,ysw,ysx,ysz]) (by simp (disch:=first|(simp only [yk,seval];done)|omega|(simp only [yz]<;>omega)|fail) only [↓yp,yq0,yq1,yq2,yq3,yq4,yl,ys0,ys1,seval,zed,zee,zfr,zhw,ysu,yrg,ysv,ysw,ysx,ysz,nxt,kv]) (by simp (disch:=first|(simp only [yk,seval];done)|omega|(simp only [yz]<;>omega)|fail) only [↓yp,yq0,yq1,yq2,yq3,yq4,yl,ys0,ys1,seval,zed,zee,zfr,zhw,ysu,yrg,ysv,ysw,ysx,ysz,av]) E3.mp (by omega) ?_
  intro blk hblk
  simp (disch:=first|(simp only [yk,seval];done)|omega|(simp only [yz]<;>omega)|fail) only [↓yp,yq0,yq1,yq2,yq3,yq4,yl,ys0,ys1,seval,zed,zee,zfr,zhw,ysu,yrg,ysv,ysw,ysx,ysz]
  refine ⟨by (with_reducible repeat first|refine Keep.put ?_ (by decide)|refine Keep.none ?_|assumption|exact Keep.refl _ _ _), ?_, ?_, E3.map hblk, (FrE.of f3).trans (FrE.km fun q hq => (E.ownb k (by omega) q hq).2.2.1), by (first | omega | (simp only [yz] <;> omega)), ?_⟩
  ·simp (disch:=first|(simp only [yk,seval];done)|omega|(simp only [yz]<;>omega)|fail) only [yg,seval,g16]
  ·simp (disch:=first|(simp only [yk,seval];done)|omega|(simp only [yz]<;>omega)|fail) only [yg,seval,g19]
  ·rw [zdd (by omega)]; exact b19
 clear g16 g19 k1 f3 b19 l19
 clear e3 H3
 rintro e3 H3 ⟨k1, g16, g19, E3, fe, l19, b19⟩
 have sz3 := fe.size
 obtain ⟨vs, hv, hvl, hrow⟩ := E3.arr
 obtain ⟨v, hvt, hr⟩ := hrow t ht241
 have q11 := (k1 11 (by simp)).trans g11
 have hkd0 := E3.kd0
 have hkd1 := E3.kd1
 have hD : (st.D t).length ≤ 1000 := by
  have := nodup_len (I.nd t) (S := S) (fun x hx => by
   obtain ⟨y, h1, _⟩ := I.had t x hx
   exact I.sub x y h1)
  have := X.lenS
  omega
 refine W_drawR (pl := []) [5, 6, 8] [(3, 3)] (planB_of rfl (by decide) (by decide) rfl) (by kernel_rfl) (by kernel_rfl) (by kernel_rfl) (by first|omega|(simp only [yz]<;>omega)) ?_
 simp (disch:=first|(simp only [yk,seval];done)|omega|(simp only [yz]<;>omega)|fail) only [↓yp,yq0,yq1,yq2,yq3,yq4,yl,ys0,ys1,seval,zed,zee,zfr,zhw,ysu,yrg,ysv,ysw,ysx,ysz,q11,g16,g19,hv,hvt,b19,A_indexArr st_arS_178,A_buildSlice st_brS_177_1]
 refine due_append (own := own) (t := t) (base := H₀.size) (s := nxt dn here i r b) (H₁ := H3.alloc _) (l := st.D t) (cl := ((t : Int) = a₀)) (by omega) ⟨hr.nil, fun hne => ?_⟩ (fun b' hb' => ?_) hL (by first|omega|(simp only [yz]<;>omega)) (by unfold srcCells; simp (disch:=first|(simp only [yk,seval];done)|omega|(simp only [yz]<;>omega)|fail) only [yg,seval,nxt] <;> rfl) (by omega) ?_
 ·obtain ⟨b', cp, r1, r2, r3, r4⟩ := hr.cons hne
  exact ⟨b', cp, r1, r2, by rw [zdb (E3.ownb t ht241 b' r2).2.1]; exact r3, by rw [zdb (E3.ownb t ht241 b' r2).2.1]; exact r4⟩
 ·have := E3.ownb t ht241 b' hb'
  exact ⟨this.1, by rw [zde]; omega⟩
 intro H4 al z1 z2 z3 z4
 have z1' := z1
 rw [zde] at z1'
 have hv4 : H4.get kd = .rw vs 178 false [] := by rw [z2 kd (by first|omega|(simp only [yz]<;>omega)) (fun hm => (E3.ownb t ht241 kd hm).2.2.2 rfl), zdb hkd1]; exact hv
 have b194 : H4.get Ha.size = .rw [.int .i64 (farL r b), .int .u64 (dn here.2 i)] 166 false [] := by rw [z2 _ (by first|omega|(simp only [yz]<;>omega)) (fun hm => by have := (E.ownb t ht241 _ hm).2.1; omega), zdb l19]; exact b19
 have hfit : decide (t + 1 ≤ vs.length) = true := by simp; omega
 have hone : oneCells [Value.slice (some ⟨(H3.alloc (.rw [.int .i64 (farL r b), .int .u64 (dn here.2 i)] 166 false [])).size, 0, none⟩) ((st.D t).length + 1) (OPEN + 2)] = true := rfl
 have hkdA := E.kd1
 simp (disch:=first|(simp only [yk,seval];done)|omega|(simp only [yz]<;>omega)|fail) only [↓yp,yq0,yq1,yq2,yq3,yq4,yl,ys0,ys1,seval,zed,zee,zfr,zhw,ysu,yrg,ysv,ysw,ysx,ysz,q11,g16,g19,hv,hv4,hvt,b19,b194,A_indexArr st_arS_178,A_buildSlice st_brS_177_1,hfit]
 have D := E3.due (t := t) (s := nxt dn here i r b) ht241 hv (Fr.alloc H3 (.rw [.int .i64 (farL r b), .int .u64 (dn here.2 i)] 166 false [])) z1 z2 z3 z4
 rw [zde] at D
 have htk : (k : Nat) ≠ t := by omega
 refine ⟨_, D, fe.trans ⟨by (first | omega | (simp only [yz] <;> omega)), fun q hq h1 h2 h3 => ?_, fun u hu b' hb' => ?_, fun q hq hlt => ?_, if_neg htk⟩⟩
 ·rw [zdd h2, z2 q (by first|omega|(simp only [yz]<;>omega)) (h3 t ht241), zdb hq]
 ·split at hb'
  ·rename_i e
   subst e
   rcases List.mem_cons.1 hb' with rfl | hb'
   ·exact .inr (by omega)
   ·exact .inl hb'
  ·exact .inl hb'
 ·rw [zdd (E3.ownb k (by omega) q hq).2.2.2, z2 q (by first|omega|(simp only [yz]<;>omega)) (E3.disj k t (by omega) ht241 htk q hq), zdb hlt]
end
end Go.Am
