import Derived.Test.YtaieoelbpnjoiaaT44
set_option linter.unusedSimpArgs false
set_option linter.unusedVariables false
namespace Go.Am
open Go.Proofs
variable {T : Tab} {P : Program} {N L : Nat} {H : AHeap} {Q : Bool → Value → AHeap → Prop}
inductive Trc (F : Fm) (s₀ : Stt) : Stt → List (Int × Bool) → Prop
 | nil : Trc F s₀ s₀ []
 | snoc {s : Stt} {a : Arv} {ls : List (Int × Bool)} : s ≠ s₀ → flk F s = some a → Trc F s₀ (a.c, a.d) ls → Trc F s₀ s (ls ++ [(a.i, a.b)])
def lgs : List (Int × Bool) → List Value
 | [] => []
 | p :: l => .int .i64 p.1 :: .bool p.2 :: lgs l
theorem lgs_len : ∀ l, (lgs l).length = l.length * 2
 | [] => rfl
 | s :: l => by simp only [lgs,List.length_cons,lgs_len l]; omega
theorem lgs_app : ∀ l l', lgs (l ++ l') = lgs l ++ lgs l'
 | [], _ => rfl
 | s :: l, l' => by simp only [List.cons_append,lgs,lgs_app l l']
structure RowL (H : AHeap) (v : Value) (ls : List (Int × Bool)) (base : Nat) : Prop where
 nil : ls = [] → v = .slice none 0 0
 cons : ls ≠ [] → ∃ b al, v = .slice (some ⟨b, 0, none⟩) ls.length (OPEN + 2) ∧ base ≤ b ∧ b < H.size ∧ (∀ j ∈ al, base ≤ j) ∧ H.get b = .rw (lgs ls) 28 true al
section
variable {base base' : Nat} {H' H₁ H₂ : AHeap} {v : Value} {ls : List (Int × Bool)}
theorem RowL.fr (R : RowL H v ls base) (f : Fr H H') : RowL H' v ls base := ⟨R.nil, fun h => by
 obtain ⟨b, al, h1, h2, h3, h4, h5⟩ := R.cons h
 exact ⟨b, al, h1, h2, Nat.lt_of_lt_of_le h3 f.size, h4, by rw [f.same _ h3]; exact h5⟩⟩
theorem RowL.low (R : RowL H v ls base) (h : base' ≤ base) : RowL H v ls base' := ⟨R.nil, fun h' => by
 obtain ⟨b, al, h1, h2, h3, h4, h5⟩ := R.cons h'
 exact ⟨b, al, h1, by omega, h3, fun j hj => by have := h4 j hj; omega, h5⟩⟩
theorem leg_append {bn cp : Nat} {i : Int} {b : Bool} (hr : RowL H₁ v ls base) (hL : L ≤ base) (hs : base ≤ H₁.size) (hn : srcCells H₁ ⟨bn, 0, none⟩ (1 * 2) = some [.int .i64 i, .bool b]) (hl : ls.length ≤ 100000)
  (hq : ∀ v H₂, RowL H₂ v (ls ++ [(i, b)]) base → H₁.size ≤ H₂.size → (∀ k, k < base → H₂.get k = H₁.get k) → Q false v H₂) :
  apK tabA H₁ 65 v (.slice (some ⟨bn, 0, none⟩) 1 cp) L Q := by
 by_cases hne : ls = []
 ·subst hne
  rw [hr.nil rfl, apK_nil st_apS_65 hn (by omega) (by omega) (by omega) rfl, zba _ (by omega)]
  exact hq _ _ ⟨fun h => by simp at h, fun _ => ⟨H₁.size, [], rfl, hs, by rw [zde]; omega, fun j hj => by simp at hj, zda rfl⟩⟩ (by rw [zde]; omega) (fun k hk => zdb (by omega))
 ·obtain ⟨b₀, al, rfl, r2, r3, r4, r5⟩ := hr.cons hne
  rw [apK_more st_apS_65 hn (by omega) (by omega) (by omega) rfl r5 (by rw [lgs_len]) rfl, zba _ (le_minAl (by omega) (fun j hj => by have := r4 j hj; omega))]
  refine hq _ _ ⟨fun h => by simp at h, fun _ => ⟨H₁.size, [b₀], by rw [List.length_append]; rfl, hs, by simp only [zde,zdf,zdg]; omega, fun j hj => by simp only [List.mem_singleton] at hj; omega, ?_⟩⟩ (by simp only [zde,zdf,zdg]; omega) (fun k hk => ?_)
  ·rw [zda (by simp only [zdf,zdg]), lgs_app]; rfl
  ·rw [zdb (by simp only [zdf,zdg]; omega), zdd (by omega), get_kill (fun hm => by have := r4 k hm; omega)]
end
theorem binV_kv' {x y : Operand} {c d c' d' : Int} : binV tabA Try.prog .eql 166 x y (.agg ⟨[.int .i64 c, .int .u64 d]⟩) (.agg ⟨[.int .i64 c', .int .u64 d']⟩) = some (.bool (decide ((c, d) = (c', d')))) := binV_kv (s := (c, d)) (s' := (c', d'))
set_option maxHeartbeats 4000000 in
theorem c133 {F : Fm} {s₀ s : Stt} {ls : List (Int × Bool)} {k1 k2 k3 km : Nat} (ht : Trc F s₀ s ls) : ∀ {H : AHeap} {L M : Nat} {Q : Bool → Value → AHeap → Prop}, k1 < H.size → k2 < H.size → k3 < H.size → km < H.size →
  H.get k1 = .rw [.int .i64 s₀.1, .int .u64 s₀.2] 166 false [] → H.get k2 = .rw [.map (some km)] 163 false [] → MpB (H.get km) F → H.get k3 = .rw [.func (.func 133) ⟨[]⟩ ⟨[.pointer (some ⟨k1, 0, none⟩), .pointer (some ⟨k2, 0, none⟩), .pointer (some ⟨k3, 0, none⟩)]⟩] 180 false [] →
  L ≤ H.size → ls.length ≤ 1000 → 60 * (ls.length + 1) ≤ M → (∀ q v H', RowL H' v ls H.size → Fr H H' → Q q v H') →
  resK (acall tabA (aexec tabA Try.prog M) 133 [kv s, .pointer (some ⟨k1, 0, none⟩), .pointer (some ⟨k2, 0, none⟩), .pointer (some ⟨k3, 0, none⟩)] H) L Q := by
 induction ht with
 | nil =>
  intro H L M Q l1 l2 l3 lm b1 b2 mp b3 hL hlen hM hq
  obtain ⟨N, rfl⟩ : ∃ N, M = N + 60 := ⟨M - 60, by omega⟩
  refine call_some (R := fun v H' => v = .slice none 0 0 ∧ Fr H H') (k := 23) (rs := [.tmp 5]) rfl fn_133 rfl rfl rfl hL ?_ (by rintro v H' ⟨rfl, h⟩; exact hq _ _ _ ⟨fun _ => rfl, fun h => absurd rfl h⟩ h) (by rintro v H' ⟨rfl, h⟩ _; exact hq _ _ _ ⟨fun _ => rfl, fun h => absurd rfl h⟩ (Fr.refl H))
  simp (disch:=first|(simp only [yk,seval];done)|omega|(simp only [yz]<;>omega)|fail) only [↓yp,yq0,yq1,yq2,yq3,yq4,yl,ys0,ys1,seval,zed,zee,zfr,zhw,ysu,yrg,ysv,ysw,ysx,ysz,kv,b1,binV_kv']
  exact Fr.alloc _ _
 | @snoc s a ls hne hf ht ih =>
  intro H L M Q l1 l2 l3 lm b1 b2 mp b3 hL hlen hM hq
  rw [List.length_append, List.length_singleton] at hlen hM
  obtain ⟨N, rfl⟩ : ∃ N, M = N + 60 := ⟨M - 60, by omega⟩
  refine call_some (R := fun v H' => RowL H' v (ls ++ [(a.i, a.b)]) H.size ∧ Fr H H') (k := 23) (rs := [.tmp 5]) rfl fn_133 rfl rfl rfl hL ?_ (by rintro v H' ⟨h, h'⟩; exact hq _ _ _ h h') (by
   rintro v H' ⟨h, h'⟩ hg
   obtain ⟨b, al, rfl, -⟩ := h.cons (by simp)
   cases hg)
  have hd : decide ((s.1, s.2) = (s₀.1, s₀.2)) = false := decide_eq_false hne
  simp (disch:=first|(simp only [yk,seval];done)|omega|(simp only [yz]<;>omega)|fail) only [↓yp,yq0,yq1,yq2,yq3,yq4,yl,ys0,ys1,seval,zed,zee,zfr,zhw,ysu,yrg,ysv,ysw,ysx,ysz,kv,b1,b2,binV_kv',hd]
  refine A_look (F := F) (s := s) (k := km) (by simp (disch:=first|(simp only [yk,seval];done)|omega|(simp only [yz]<;>omega)|fail) only [↓yp,yq0,yq1,yq2,yq3,yq4,yl,ys0,ys1,seval,zed,zee,zfr,zhw,ysu,yrg,ysv,ysw,ysx,ysz]) (by simp (disch:=first|(simp only [yk,seval];done)|omega|(simp only [yz]<;>omega)|fail) only [↓yp,yq0,yq1,yq2,yq3,yq4,yl,ys0,ys1,seval,zed,zee,zfr,zhw,ysu,yrg,ysv,ysw,ysx,ysz,kv]) (by rw [zdb lm]; exact mp) (by first|omega|(simp only [yz]<;>omega)) ?_
  have p3 : part [.int .i64 a.m, .int .i64 a.i, .bool a.b, .int .i64 a.c, .int .u64 a.d] 3 3 = some (.agg ⟨[.int .i64 a.c, .int .u64 a.d]⟩) := rfl
  have p1 : part [.int .i64 a.m, .int .i64 a.i, .bool a.b, .int .i64 a.c, .int .u64 a.d] 1 3 = some (.agg ⟨[.int .i64 a.i, .bool a.b]⟩) := rfl
  simp (disch:=first|(simp only [yk,seval];done)|omega|(simp only [yz]<;>omega)|fail) only [↓yp,yq0,yq1,yq2,yq3,yq4,yl,ys0,ys1,seval,zed,zee,zfr,zhw,ysu,yrg,ysv,ysw,ysx,ysz,cond_false,hf,orZero,av,b3,zcn,p3]
  generalize hH2 : ((H.alloc (ABlk.rw [.int .i64 s.1, .int .u64 s.2] 166 false [])).alloc (ABlk.rw [.int .i64 0, .int .i64 0, .bool false, .int .i64 0, .int .u64 0] 168 false [])).put (H.size + 1) (ABlk.rw [.int .i64 a.m, .int .i64 a.i, .bool a.b, .int .i64 a.c, .int .u64 a.d] 168 false []) = H2
  have f2 : Fr H H2 := by rw [← hH2]; exact Fr.put (Fr.allocd (Fr.alloc _ _) _) (by omega) _
  have sz2 : H2.size = H.size + 2 := by rw [← hH2, zdf, zde, zde]
  have b6 : H2.get (H.size + 1) = .rw [.int .i64 a.m, .int .i64 a.i, .bool a.b, .int .i64 a.c, .int .u64 a.d] 168 false [] := by rw [← hH2, zdc (by first|omega|(simp only [yz]<;>omega))]
  clear hH2
  refine ih (by omega) (by omega) (by omega) (by omega) (by rw [f2.same _ l1]; exact b1) (by rw [f2.same _ l2]; exact b2) (by rw [f2.same _ lm]; exact mp) (by rw [f2.same _ l3]; exact b3) (by omega) (by omega) (by omega) ?_
  intro q v H3 hr f3
  have sz3 := f3.size
  have b63 := (f3.same (H.size + 1) (by omega)).trans b6
  simp (disch:=first|(simp only [yk,seval];done)|omega|(simp only [yz]<;>omega)|fail) only [↓yp,yq0,yq1,yq2,yq3,yq4,yl,ys0,ys1,seval,zed,zee,zfr,zhw,ysu,yrg,ysv,ysw,ysx,ysz,b63,p1,A_buildSlice st_brS_65_1]
  refine leg_append (i := a.i) (b := a.b) (hr.low (by omega) |>.fr (Fr.alloc H3 _)) (Nat.le_refl H.size) (by first|omega|(simp only [yz]<;>omega)) (by unfold srcCells; simp (disch:=first|(simp only [yk,seval];done)|omega|(simp only [yz]<;>omega)|fail) only [yg,seval,zda] <;> rfl) (by omega) ?_
  intro v' H4 hr4 sz4 old4
  rw [zde] at sz4
  simp (disch:=first|(simp only [yk,seval];done)|omega|(simp only [yz]<;>omega)|fail) only [↓yp,yq0,yq1,yq2,yq3,yq4,yl,ys0,ys1,seval,zed,zee,zfr,zhw,ysu,yrg,ysv,ysw,ysx,ysz]
  refine ⟨hr4, ⟨by omega, fun k hk => ?_⟩⟩
  rw [old4 k hk, zdb (by omega), f3.same k (by omega), f2.same k hk]
theorem c121 {F : Fm} {s₀ s : Stt} {ls : List (Int × Bool)} {km : Nat} (ht : Trc F s₀ s ls) (lm : km < H.size) (mp : MpB (H.get km) F) (hL : L ≤ H.size) (hlen : ls.length ≤ 1000) {M : Nat} (hM : 60 * (ls.length + 2) ≤ M)
  (hq : ∀ q v H', RowL H' v ls H.size → Fr H H' → (q = true → H' = H) → Q q v H') :
  resK (acall tabA (aexec tabA Try.prog M) 121 [.map (some km), kv s₀, kv s] H) L Q := by
 obtain ⟨N, rfl⟩ : ∃ N, M = N + 60 := ⟨M - 60, by omega⟩
 refine call_some (R := fun v H' => RowL H' v ls H.size ∧ Fr H H') (k := 12) (rs := [.tmp 6]) rfl fn_121 rfl rfl rfl hL ?_ (by rintro v H' ⟨h, h'⟩; exact hq _ _ _ h h' (fun h => by cases h)) (by
  rintro v H' ⟨h, h'⟩ hg
  refine hq _ _ _ ⟨h.nil, fun hne => ?_⟩ (Fr.refl H) (fun _ => rfl)
  obtain ⟨b, al, rfl, -⟩ := h.cons hne
  cases hg)
 simp (disch:=first|(simp only [yk,seval];done)|omega|(simp only [yz]<;>omega)|fail) only [↓yp,yq0,yq1,yq2,yq3,yq4,yl,ys0,ys1,seval,zed,zee,zfr,zhw,ysu,yrg,ysv,ysw,ysx,ysz,kv,cells_map,one_map]
 generalize hH2 : ((((H.alloc (ABlk.rw [.map (some km)] 163 false [])).alloc (ABlk.rw [.int .i64 s₀.1, .int .u64 s₀.2] 166 false [])).alloc (ABlk.rw [.int .i64 s.1, .int .u64 s.2] 166 false [])).alloc (ABlk.rw [.nilFunc] 180 false [])).put (H.size + 1 + 1 + 1)
  (ABlk.rw [.func (.func 133) ⟨[]⟩ ⟨[.pointer (some ⟨H.size + 1, 0, none⟩), .pointer (some ⟨H.size, 0, none⟩), .pointer (some ⟨H.size + 1 + 1 + 1, 0, none⟩)]⟩] 180 false []) = H2
 have f2 : Fr H H2 := by rw [← hH2]; exact Fr.put (Fr.allocd (Fr.allocd (Fr.allocd (Fr.alloc _ _) _) _) _) (by omega) _
 have sz2 : H2.size = H.size + 4 := by rw [← hH2, zdf, zde, zde, zde, zde]
 have b0 : H2.get H.size = .rw [.map (some km)] 163 false [] := by rw [← hH2]; simp (disch:=first|(simp only [yk,seval];done)|omega|(simp only [yz]<;>omega)|fail) only [yg,seval,zdd,zdb,zda]
 have b1 : H2.get (H.size + 1) = .rw [.int .i64 s₀.1, .int .u64 s₀.2] 166 false [] := by rw [← hH2]; simp (disch:=first|(simp only [yk,seval];done)|omega|(simp only [yz]<;>omega)|fail) only [yg,seval,zdd,zdb,zda]
 have b3 : H2.get (H.size + 1 + 1 + 1) = .rw [.func (.func 133) ⟨[]⟩ ⟨[.pointer (some ⟨H.size + 1, 0, none⟩), .pointer (some ⟨H.size, 0, none⟩), .pointer (some ⟨H.size + 1 + 1 + 1, 0, none⟩)]⟩] 180 false [] := by rw [← hH2, zdc (by first|omega|(simp only [yz]<;>omega))]
 clear hH2
 refine c133 (km := km) ht (by omega) (by omega) (by omega) (by omega) b1 b0 (by rw [f2.same _ lm]; exact mp) b3 (by omega) hlen (by omega) ?_
 intro q v H3 hr f3
 have sz3 := f3.size
 simp (disch:=first|(simp only [yk,seval];done)|omega|(simp only [yz]<;>omega)|fail) only [↓yp,yq0,yq1,yq2,yq3,yq4,yl,ys0,ys1,seval,zed,zee,zfr,zhw,ysu,yrg,ysv,ysw,ysx,ysz]
 exact ⟨hr.low (by omega), f2.trans f3⟩
end Go.Am
namespace Go.Am
open Go.Proofs
variable {T : Tab} {P : Program} {N L : Nat} {H : AHeap} {Q : Bool → Value → AHeap → Prop}
inductive Run (l : List Str) (w ld : Int) (nx : Stt → Nat → Str → Bool → Stt) (s₀ : Stt) (a₀ : Int) : List (Int × Bool) → Stt → Int → Prop
 | nil : Run l w ld nx s₀ a₀ [] s₀ a₀
 | snoc {ls : List (Int × Bool)} {x : Stt} {m : Int} {i : Nat} {r : Str} {b : Bool} : Run l w ld nx s₀ a₀ ls x m → l[i]? = some r → mayL r b w ld = true → nearL r b = x.1 → arriveL r b ld m ≠ -1 → m < arriveL r b ld m → Run l w ld nx s₀ a₀ (ls ++ [((i : Int), b)]) (nx x i r b) (arriveL r b ld m)
section
variable {l : List Str} {C w ld a₀ : Int} {nx : Stt → Nat → Str → Bool → Stt} {s₀ s : Stt} {S : List Stt} {st : Ex} {k : Int}
theorem Run.le {ls : List (Int × Bool)} {m : Int} (h : Run l w ld nx s₀ a₀ ls s m) : a₀ + ls.length ≤ m := by
 induction h with
 | nil => simp
 | snoc _ _ _ _ _ _ ih => simp only [List.length_append,List.length_singleton]; omega
theorem tr_run' (I : ExI l w ld nx s₀ a₀ S k st) (g : Good C l ld) (h0 : 0 ≤ a₀ ∧ a₀ ≤ 240) : ∀ {s : Stt} {a : Arv}, flk st.F s = some a → ∃ ls, Trc st.F s₀ s ls ∧ Run l w ld nx s₀ a₀ ls s a.m ∧ ∃ vs : List Stt, vs.Nodup ∧ vs.length = ls.length + 1 ∧ ∀ v ∈ vs, ∃ a', flk st.F v = some a' ∧ a'.m ≤ a.m := by
 suffices ∀ n : Nat, ∀ (s : Stt) (a : Arv), a.m - a₀ < n → flk st.F s = some a → ∃ ls, Trc st.F s₀ s ls ∧ Run l w ld nx s₀ a₀ ls s a.m ∧ ∃ vs : List Stt, vs.Nodup ∧ vs.length = ls.length + 1 ∧ ∀ v ∈ vs, ∃ a', flk st.F v = some a' ∧ a'.m ≤ a.m from
  fun {s a} h => this ((a.m - a₀).toNat + 1) s a (by omega) h
 intro n
 induction n with
 | zero =>
  intro s a hn h
  have := ((I.can _ _ h).le h0.2 g).1
  omega
 | succ n ih =>
  intro s a hn h
  by_cases he : s = s₀
  ·subst he
   have hb := I.beg
   rw [h] at hb
   cases hb
   exact ⟨[], .nil, .nil, [s], by simp, rfl, fun v hv => by
    simp only [List.mem_singleton] at hv
    subst hv
    exact ⟨_, h, Int.le_refl _⟩⟩
  ·obtain ⟨i, r, p, h1, h2, h3, h4, h5, h6, h7, h8, h9⟩ := I.bef s a h he
   obtain ⟨ls, t1, t2, vs, v1, v2, v3⟩ := ih (a.c, a.d) p (by omega) h6
   have hp := ((I.can _ _ h6).le h0.2 g).1
   refine ⟨ls ++ [(a.i, a.b)], .snoc he h t1, ?_, s :: vs, List.nodup_cons.2 ⟨fun hm => ?_, v1⟩, by simp only [List.length_cons,List.length_append,List.length_nil,v2], fun v hv => ?_⟩
   ·have := t2.snoc h2 h3 h4 (by omega) (by omega)
    rw [h1, ← h7]
    rw [← h5] at this
    exact this
   ·obtain ⟨a', q1, q2⟩ := v3 s hm
    rw [h] at q1
    cases q1
    omega
   ·rcases List.mem_cons.1 hv with rfl | hv
    ·exact ⟨a, h, Int.le_refl _⟩
    ·obtain ⟨a', q1, q2⟩ := v3 v hv
     exact ⟨a', q1, by omega⟩
theorem tr_run (I : ExI l w ld nx s₀ a₀ S k st) (g : Good C l ld) (h0 : 0 ≤ a₀ ∧ a₀ ≤ 240) {s : Stt} {a : Arv} (h : flk st.F s = some a) : ∃ ls, Trc st.F s₀ s ls ∧ Run l w ld nx s₀ a₀ ls s a.m ∧ ls.length < S.length := by
 obtain ⟨ls, t1, t2, vs, v1, v2, v3⟩ := tr_run' I g h0 h
 have := nodup_len v1 fun v hv => by
  obtain ⟨a', q, -⟩ := v3 v hv
  exact I.sub _ _ q
 exact ⟨ls, t1, t2, by omega⟩
end
theorem sameV_map {p : Option Nat} : sameV 6 (.map p) (.map p) = true := by unfold sameV; simp
theorem RowL.sameV6 {v : Value} {ls : List (Int × Bool)} {base : Nat} (R : RowL H v ls base) : sameV 6 v v = true := by
 by_cases h : ls = []
 ·rw [R.nil h]; unfold sameV; simp
 ·obtain ⟨b, al, rfl, -⟩ := R.cons h
  unfold sameV; simp
theorem shl10' {x y : Operand} : binV tabA Try.prog .shl 142 x y (.int .u64 1) (.int .i64 ((0 : Nat) : Int)) = some (.int .u64 1) := nr rfl
theorem sub11 {x y : Operand} : binV tabA Try.prog .sub 142 x y (.int .u64 1) (.int .u64 1) = some (.int .u64 0) := nr rfl
section
variable {l : List Str} {C w ld fr at₀ to : Int} {a : Option Addr} {cap : Nat}
set_option maxHeartbeats 4000000 in
theorem c92n (hs : Sl H a l) (g : Good C l ld) (hl : l.length ≤ 18) (h0 : 0 ≤ at₀ ∧ at₀ ≤ 240) (hf : 0 ≤ fr ∧ fr ≤ 7) (hL : L ≤ H.size) {M : Nat} (hM : 20000 ≤ M)
  (hn : ∀ H', Fr H H' → (∀ m, ¬ CanS l w ld (nxt dn0) (fr, 0) at₀ m (to, 0)) → ∀ q, Q q (.tuple ⟨[.slice none 0 0, .int .i64 0, .int .i64 1]⟩) H')
  (hq : ∀ q v ls H' m, Fr H H' → RowL H' v ls H.size → Run l w ld (nxt dn0) (fr, 0) at₀ ls (to, 0) m → ls.length ≤ 7 → CanS l w ld (nxt dn0) (fr, 0) at₀ m (to, 0) → (∀ m', CanS l w ld (nxt dn0) (fr, 0) at₀ m' (to, 0) → m ≤ m') → Q q (.tuple ⟨[v, .int .i64 m, .int .i64 0]⟩) H') :
  resK (acall tabA (aexec tabA Try.prog M) 92 [jobG C a l.length cap w ld (-1), .int .i64 fr, .int .i64 at₀, .slice none 0 0, .int .i64 to] H) L Q := by
 obtain ⟨N, rfl⟩ : ∃ N, M = N + 20000 := ⟨M - 20000, by omega⟩
 have hS : StS l (nxt dn0) (fr, 0) corS := ⟨corS_iff.2 ⟨hf.1, hf.2, rfl⟩, fun s hs i r b hi hn => corS_iff.2 (by
  have hg := g.st r (List.mem_of_getElem? hi)
  have hC := g.hC
  have := (corS_iff.1 hs).2.2
  unfold nxt farL dn0
  cases b <;> simp only [cond_true,cond_false] <;> omega)⟩
 have I := exTo_ok (w := w) g hS h0 241
 refine call_some (R := fun v H' => Fr H H' ∧ ((v = .tuple ⟨[.slice none 0 0, .int .i64 0, .int .i64 1]⟩ ∧ ∀ m, ¬ CanS l w ld (nxt dn0) (fr, 0) at₀ m (to, 0)) ∨
   ∃ u ls m, v = .tuple ⟨[u, .int .i64 m, .int .i64 0]⟩ ∧ RowL H' u ls H.size ∧ Run l w ld (nxt dn0) (fr, 0) at₀ ls (to, 0) m ∧ ls.length ≤ 7 ∧ CanS l w ld (nxt dn0) (fr, 0) at₀ m (to, 0) ∧ (∀ m', CanS l w ld (nxt dn0) (fr, 0) at₀ m' (to, 0) → m ≤ m')))
  (k := 43) (rs := [.tmp 10, .tmp 11, .tmp 12]) rfl fn_92 rfl rfl rfl hL ?_ ?_ ?_
 ·simp (disch := (first | (simp only [ne_eq,Nat.reduceEqDiff,not_false_eq_true,Nat.reduceLT]; done) | omega | (simp only [yz] <;> omega) | fail)) only [↓yp,yq0,yq1,yq2,yq3,yq4,yl,ys0,ys1,Nat.reduceAdd,Nat.reduceMul,Nat.reduceSub,Nat.reduceBEq,Nat.reduceEqDiff,Nat.reduceLT,Nat.reduceLeDiff,reduceIte,Int.reduceAdd,Int.reduceSub,Int.reduceMul,Int.reduceLT,Int.reduceLE,Int.reduceEq,Int.reduceToNat,Int.reduceNeg,zed,zee,zfr,zhw,ysu,yrg,ysv,ysw,ysx,ysz,jobG]
  have f1 : Fr H (H.alloc (.rw [.int .i64 C, .slice a l.length cap, .int .i64 w, .int .i64 ld, .int .i64 (-1)] 124 false [])) := Fr.alloc _ _
  refine c120 (exC0 (hs.fr f1) g hl) hS h0 (by first|omega|(simp only [yz]<;>omega)) (by omega) ?_
  intro km H2 f2 k1 k2 mp
  have f12 := f1.trans f2
  have sz2 := f12.size
  simp (disch := (first | (simp only [ne_eq,Nat.reduceEqDiff,not_false_eq_true,Nat.reduceLT]; done) | omega | (simp only [yz] <;> omega) | fail)) only [↓yp,yq0,yq1,yq2,yq3,yq4,yl,ys0,ys1,Nat.reduceAdd,Nat.reduceMul,Nat.reduceSub,Nat.reduceBEq,Nat.reduceEqDiff,Nat.reduceLT,Nat.reduceLeDiff,reduceIte,Int.reduceAdd,Int.reduceSub,Int.reduceMul,Int.reduceLT,Int.reduceLE,Int.reduceEq,Int.reduceToNat,Int.reduceNeg,zed,zee,zfr,zhw,ysu,yrg,ysv,ysw,ysx,ysz,lenV_slice zir,shl10',sub11,A_build st_bdS_166]
  have hmp : MpB (((H2.alloc (.rw [.int .i64 0, .int .u64 0] 166 false [])).put H2.size (.rw [.int .i64 to, .int .u64 0] 166 false [])).get km) (exTo l w ld (nxt dn0) (fr, 0) at₀ 241).F := by
   rw [zdd (by omega), zdb (by omega)]; exact mp
  refine A_look (F := (exTo l w ld (nxt dn0) (fr, 0) at₀ 241).F) (s := (to, 0)) (k := km) (by simp (disch := (first | (simp only [ne_eq,Nat.reduceEqDiff,not_false_eq_true,Nat.reduceLT]; done) | omega | (simp only [yz] <;> omega) | fail)) only [↓yp,yq0,yq1,yq2,yq3,yq4,yl,ys0,ys1,Nat.reduceAdd,Nat.reduceMul,Nat.reduceSub,Nat.reduceBEq,Nat.reduceEqDiff,Nat.reduceLT,Nat.reduceLeDiff,reduceIte,Int.reduceAdd,Int.reduceSub,Int.reduceMul,Int.reduceLT,Int.reduceLE,Int.reduceEq,Int.reduceToNat,Int.reduceNeg,zed,zee,zfr,zhw,ysu,yrg,ysv,ysw,ysx,ysz]) (by simp (disch := (first | (simp only [ne_eq,Nat.reduceEqDiff,not_false_eq_true,Nat.reduceLT]; done) | omega | (simp only [yz] <;> omega) | fail)) only [↓yp,yq0,yq1,yq2,yq3,yq4,yl,ys0,ys1,Nat.reduceAdd,Nat.reduceMul,Nat.reduceSub,Nat.reduceBEq,Nat.reduceEqDiff,Nat.reduceLT,Nat.reduceLeDiff,reduceIte,Int.reduceAdd,Int.reduceSub,Int.reduceMul,Int.reduceLT,Int.reduceLE,Int.reduceEq,Int.reduceToNat,Int.reduceNeg,zed,zee,zfr,zhw,ysu,yrg,ysv,ysw,ysx,ysz,kv]) hmp (by first|omega|(simp only [yz]<;>omega)) ?_
  cases hfl : flk (exTo l w ld (nxt dn0) (fr, 0) at₀ 241).F (to, 0) with
  | none =>
   simp (disch := (first | (simp only [ne_eq,Nat.reduceEqDiff,not_false_eq_true,Nat.reduceLT]; done) | omega | (simp only [yz] <;> omega) | fail)) only [↓yp,yq0,yq1,yq2,yq3,yq4,yl,ys0,ys1,Nat.reduceAdd,Nat.reduceMul,Nat.reduceSub,Nat.reduceBEq,Nat.reduceEqDiff,Nat.reduceLT,Nat.reduceLeDiff,reduceIte,Int.reduceAdd,Int.reduceSub,Int.reduceMul,Int.reduceLT,Int.reduceLE,Int.reduceEq,Int.reduceToNat,Int.reduceNeg,zed,zee,zfr,zhw,ysu,yrg,ysv,ysw,ysx,ysz,cond_true,orZero,av,Option.isSome_none,Option.isSome_some]
   refine ⟨?_, .inl fun m hm => ?_⟩
   ·exact Fr.put (Fr.allocd (Fr.put (Fr.allocd f12 _) (by omega) _) _) (by omega) _
   ·obtain ⟨x, h1, -⟩ := ex_least g hS h0 hm
    rw [hfl] at h1
    cases h1
  | some ar =>
   obtain ⟨ls, t1, t2, t3⟩ := tr_run I g h0 hfl
   have hc8 : corS.length = 8 := rfl
   have t7 : ls.length ≤ 7 := by omega
   have hlen : ls.length ≤ 240 := by have := t2.le; have := (I.can _ _ hfl).le h0.2 g; omega
   have hleast : ∀ m', CanS l w ld (nxt dn0) (fr, 0) at₀ m' (to, 0) → ar.m ≤ m' := fun m' hm => by
    obtain ⟨x, h1, h2⟩ := ex_least g hS h0 hm
    rw [hfl] at h1
    cases h1
    exact h2
   simp (disch := (first | (simp only [ne_eq,Nat.reduceEqDiff,not_false_eq_true,Nat.reduceLT]; done) | omega | (simp only [yz] <;> omega) | fail)) only [↓yp,yq0,yq1,yq2,yq3,yq4,yl,ys0,ys1,Nat.reduceAdd,Nat.reduceMul,Nat.reduceSub,Nat.reduceBEq,Nat.reduceEqDiff,Nat.reduceLT,Nat.reduceLeDiff,reduceIte,Int.reduceAdd,Int.reduceSub,Int.reduceMul,Int.reduceLT,Int.reduceLE,Int.reduceEq,Int.reduceToNat,Int.reduceNeg,zed,zee,zfr,zhw,ysu,yrg,ysv,ysw,ysx,ysz,cond_true,orZero,av,Option.isSome_none,Option.isSome_some]
   have f3 : Fr H ((((H2.alloc (.rw [.int .i64 0, .int .u64 0] 166 false [])).put H2.size (.rw [.int .i64 to, .int .u64 0] 166 false [])).alloc (.rw [.int .i64 0, .int .i64 0, .bool false, .int .i64 0, .int .u64 0] 168 false [])).put (H2.size + 1) (.rw [.int .i64 ar.m, .int .i64 ar.i, .bool ar.b, .int .i64 ar.c, .int .u64 ar.d] 168 false [])) := Fr.put (Fr.allocd (Fr.put (Fr.allocd f12 _) (by omega) _) _) (by omega) _
   have b14 : ((((H2.alloc (.rw [.int .i64 0, .int .u64 0] 166 false [])).put H2.size (.rw [.int .i64 to, .int .u64 0] 166 false [])).alloc (.rw [.int .i64 0, .int .i64 0, .bool false, .int .i64 0, .int .u64 0] 168 false [])).put (H2.size + 1) (.rw [.int .i64 ar.m, .int .i64 ar.i, .bool ar.b, .int .i64 ar.c, .int .u64 ar.d] 168 false [])).get H2.size = .rw [.int .i64 to, .int .u64 0] 166 false [] := by
    rw [zdd (by omega), zdb (by first|omega|(simp only [yz]<;>omega)), zdc (by first|omega|(simp only [yz]<;>omega))]
   have b15 : ((((H2.alloc (.rw [.int .i64 0, .int .u64 0] 166 false [])).put H2.size (.rw [.int .i64 to, .int .u64 0] 166 false [])).alloc (.rw [.int .i64 0, .int .i64 0, .bool false, .int .i64 0, .int .u64 0] 168 false [])).put (H2.size + 1) (.rw [.int .i64 ar.m, .int .i64 ar.i, .bool ar.b, .int .i64 ar.c, .int .u64 ar.d] 168 false [])).get (H2.size + 1) = .rw [.int .i64 ar.m, .int .i64 ar.i, .bool ar.b, .int .i64 ar.c, .int .u64 ar.d] 168 false [] := by
    rw [zdc (by first|omega|(simp only [yz]<;>omega))]
   have hmp3 : MpB (((((H2.alloc (.rw [.int .i64 0, .int .u64 0] 166 false [])).put H2.size (.rw [.int .i64 to, .int .u64 0] 166 false [])).alloc (.rw [.int .i64 0, .int .i64 0, .bool false, .int .i64 0, .int .u64 0] 168 false [])).put (H2.size + 1) (.rw [.int .i64 ar.m, .int .i64 ar.i, .bool ar.b, .int .i64 ar.c, .int .u64 ar.d] 168 false [])).get km) (exTo l w ld (nxt dn0) (fr, 0) at₀ 241).F := by
    rw [zdd (by omega), zdb (by first|omega|(simp only [yz]<;>omega))]; exact hmp
   have sz3 : ((((H2.alloc (.rw [.int .i64 0, .int .u64 0] 166 false [])).put H2.size (.rw [.int .i64 to, .int .u64 0] 166 false [])).alloc (.rw [.int .i64 0, .int .i64 0, .bool false, .int .i64 0, .int .u64 0] 168 false [])).put (H2.size + 1) (.rw [.int .i64 ar.m, .int .i64 ar.i, .bool ar.b, .int .i64 ar.c, .int .u64 ar.d] 168 false [])).size = H2.size + 2 := by simp only [zdf,zde]
   generalize ((((H2.alloc (.rw [.int .i64 0, .int .u64 0] 166 false [])).put H2.size (.rw [.int .i64 to, .int .u64 0] 166 false [])).alloc (.rw [.int .i64 0, .int .i64 0, .bool false, .int .i64 0, .int .u64 0] 168 false [])).put (H2.size + 1) (.rw [.int .i64 ar.m, .int .i64 ar.i, .bool ar.b, .int .i64 ar.c, .int .u64 ar.d] 168 false [])) = H3 at f3 b14 b15 hmp3 sz3 ⊢
   obtain ⟨fl, v, H4, mm, hres, hLm, hr, f4, hff⟩ := resK_elim (Q := fun q v H' => RowL H' v ls H3.size ∧ Fr H3 H' ∧ (q = true → H' = H3)) (c121 (L := H3.size) (M := N + 19993) (km := km) t1 (by omega) hmp3 (Nat.le_refl _) (by omega) (by omega) fun q v H' h1 h2 h3 => ⟨h1, h2, h3⟩)
   simp only [kv] at hres
   have b154 : H4.get (H2.size + 1) = .rw [.int .i64 ar.m, .int .i64 ar.i, .bool ar.b, .int .i64 ar.c, .int .u64 ar.d] 168 false [] := by rw [f4.same _ (by omega)]; exact b15
   have b144 : H4.get H2.size = .rw [.int .i64 to, .int .u64 0] 166 false [] := by rw [f4.same _ (by omega)]; exact b14
   have sz4 := f4.size
   cases fl with
   | true =>
    have := hff rfl
    subst this
    refine W_draw [] rfl (by kernel_rfl) (by kernel_rfl) (by first|omega|(simp only [yz]<;>omega)) ?_
    simp (disch := (first | (simp only [ne_eq,Nat.reduceEqDiff,not_false_eq_true,Nat.reduceLT]; done) | omega | (simp only [yz] <;> omega) | fail)) only [↓yp,yq0,yq1,yq2,yq3,yq4,yl,ys0,ys1,Nat.reduceAdd,Nat.reduceMul,Nat.reduceSub,Nat.reduceBEq,Nat.reduceEqDiff,Nat.reduceLT,Nat.reduceLeDiff,reduceIte,Int.reduceAdd,Int.reduceSub,Int.reduceMul,Int.reduceLT,Int.reduceLE,Int.reduceEq,Int.reduceToNat,Int.reduceNeg,zed,zee,zfr,zhw,ysu,yrg,ysv,ysw,ysx,ysz,b14,b15,hres,A_build st_bdS_166]
    exact ⟨⟨sameV_map, hr.sameV6, hr.sameV6⟩, f3.trans f4, .inr ⟨_, ls, _, rfl, hr.low (by omega), t2, t7, I.can _ _ hfl, hleast⟩⟩
   | false =>
    refine W_draw [4] rfl (by kernel_rfl) (by kernel_rfl) (by first|omega|(simp only [yz]<;>omega)) ?_
    simp (disch := (first | (simp only [ne_eq,Nat.reduceEqDiff,not_false_eq_true,Nat.reduceLT]; done) | omega | (simp only [yz] <;> omega) | fail)) only [↓yp,yq0,yq1,yq2,yq3,yq4,yl,ys0,ys1,Nat.reduceAdd,Nat.reduceMul,Nat.reduceSub,Nat.reduceBEq,Nat.reduceEqDiff,Nat.reduceLT,Nat.reduceLeDiff,reduceIte,Int.reduceAdd,Int.reduceSub,Int.reduceMul,Int.reduceLT,Int.reduceLE,Int.reduceEq,Int.reduceToNat,Int.reduceNeg,zed,zee,zfr,zhw,ysu,yrg,ysv,ysw,ysx,ysz,b14,b15,b144,b154,hres,A_build st_bdS_166]
    exact ⟨⟨⟨sameV_map, sameV_map⟩, hr.sameV6, hr.sameV6⟩, f3.trans f4, .inr ⟨_, ls, _, rfl, hr.low (by omega), t2, t7, I.can _ _ hfl, hleast⟩⟩
 ·rintro v H' ⟨f, ⟨rfl, h⟩ | ⟨u, ls, m, rfl, h1, h2, h3, h4, h5⟩⟩
  ·exact hn _ f h _
  ·exact hq _ _ _ _ _ f h1 h2 h3 h4 h5
 ·rintro v H' ⟨f, ⟨rfl, h⟩ | ⟨u, ls, m, rfl, h1, h2, h3, h4, h5⟩⟩ hg
  ·exact hn _ (Fr.refl H) h _
  ·refine hq _ _ _ _ _ (Fr.refl H) ⟨h1.nil, fun hne => ?_⟩ h2 h3 h4 h5
   obtain ⟨b, al, rfl, -⟩ := h1.cons hne
   cases hg
end
end Go.Am
