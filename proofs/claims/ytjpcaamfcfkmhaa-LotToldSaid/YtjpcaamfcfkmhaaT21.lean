import Derived.Test.YtjpcaamfcfkmhaaT14
import Derived.Test.YtjpcaamfcfkmhaaT20
set_option linter.unusedSimpArgs false
set_option linter.unusedVariables false
namespace Go.Am
variable {P : Program}
def inV (H : AHeap) : Value → Prop
 | .pointer (some a) => H.get a.block ≠ .dead
 | .slice (some a) _ _ => H.get a.block ≠ .dead
 | .map (some r) => H.get r ≠ .dead
 | .chan r => H.get (r.getD 0 / OPEN / OPEN / OPEN) ≠ .dead
 | .func fn first captured => (∀ l, fn = .yield l → H.get l ≠ .dead) ∧ (∀ v ∈ first, inV H v) ∧ (∀ v ∈ captured, inV H v)
 | .iface _ v => inV H v
 | .agg cs => ∀ v ∈ cs, inV H v
 | .tuple vs => ∀ v ∈ vs, inV H v
 | _ => True
noncomputable def Place.only (σ : Place) (H : AHeap) : Place := ⟨fun k => open Classical in if H.get k = .dead then none else σ.at_ k, σ.room⟩
section
variable {σ : Place} {H : AHeap}
theorem only_some {k : Nat} {p : Nat × Nat} (h : (σ.only H).at_ k = some p) : H.get k ≠ .dead ∧ σ.at_ k = some p := by
 unfold Place.only at h
 simp only at h
 split at h
 ·cases h
 ·rename_i h0; exact ⟨h0, h⟩
theorem only_at {k : Nat} (h : H.get k ≠ .dead) : (σ.only H).at_ k = σ.at_ k := by
 unfold Place.only
 simp only
 rw [if_neg h]
theorem only_agree : Agree (σ.only H) σ := fun k p h => ⟨(only_some h).2, rfl⟩
theorem okv_only : ∀ v, okv σ v → inV H v → okv (σ.only H) v
 | .pointer none => fun _ _ => by simp [okv]
 | .pointer (some a) => fun hv hi => by
  simp only [okv,inV] at hv hi ⊢
  rw [only_at hi]; exact hv
 | .slice none l c => fun hv _ => by
  simp only [okv] at hv ⊢
  exact hv
 | .slice (some a) l c => fun hv hi => by
  simp only [okv,inV] at hv hi ⊢
  rw [only_at hi]
  exact hv
 | .map none => fun _ _ => by simp [okv]
 | .map (some r) => fun hv hi => by
  simp only [okv,inV] at hv hi ⊢
  rw [only_at hi]; exact hv
 | .chan r => fun hv hi => by
  simp only [okv,inV] at hv hi ⊢
  rw [only_at hi]; exact hv
 | .func fn first captured => fun hv hi => by
  simp only [okv,inV] at hv hi ⊢
  obtain ⟨h1, h2, h3⟩ := hv
  obtain ⟨k1, k2, k3⟩ := hi
  refine ⟨?_, fun v hm => okv_only v (h2 v hm) (k2 v hm), fun v hm => okv_only v (h3 v hm) (k3 v hm)⟩
  cases fn <;> simp only [okfn] at h1 ⊢
  rename_i l
  rw [only_at (k1 l rfl)]; exact h1
 | .iface t v => fun hv hi => by
  simp only [okv,inV] at hv hi ⊢
  exact okv_only v hv hi
 | .agg cs => fun hv hi => by
  simp only [okv,inV] at hv hi ⊢
  exact fun v hm => okv_only v (hv v hm) (hi v hm)
 | .tuple cs => fun hv hi => by
  simp only [okv,inV] at hv hi ⊢
  exact fun v hm => okv_only v (hv v hm) (hi v hm)
 | .bool _ => fun _ _ => by simp [okv]
 | .int _ _ => fun _ _ => by simp [okv]
 | .float _ _ => fun _ _ => by simp [okv]
 | .complex _ _ _ => fun _ _ => by simp [okv]
 | .string _ => fun _ _ => by simp [okv]
 | .nilFunc => fun _ _ => by simp [okv]
 | .nilIface => fun _ _ => by simp [okv]
theorem only_ren {v : Value} (hv : okv σ v) (hi : inV H v) : ren (σ.only H) v = ren σ v := (only_agree.ren (okv_only v hv hi)).symm
theorem only_map {l : List Value} (hv : ∀ v ∈ l, okv σ v) (hi : ∀ v ∈ l, inV H v) : l.map (ren (σ.only H)) = l.map (ren σ) := List.map_congr_left fun v hm => only_ren (hv v hm) (hi v hm)
end
def inB (H : AHeap) : ABlk → Prop
 | .dead => True
 | .rw c _ _ al => (∀ v ∈ c, inV H v) ∧ ∀ j ∈ al, H.get j ≠ .dead
 | .map es _ => ∀ e ∈ es, inV H e.1 ∧ inV H e.2.1
 | _ => False
theorem Holds.only {σ : Place} {H : AHeap} {w : World} {room b s : Nat} {k : ABlk} (h : Holds σ w room b s k) (hi : inB H k) : Holds (σ.only H) w room b s k := by
 cases k with
 | dead => trivial
 | ro c => exact hi.elim
 | rw c e o al =>
  obtain ⟨h0, h1, rest, h2, h3, h4⟩ := h
  exact ⟨h0, fun v hv => okv_only v (h1 v hv) (hi.1 v hv), rest, by rw [h2, only_map h1 hi.1], h3, h4⟩
 | map es clock =>
  obtain ⟨h0, h1, h2⟩ := h
  refine ⟨h0, fun e he => ⟨okv_only _ (h1 e he).1 (hi e he).1, okv_only _ (h1 e he).2 (hi e he).2⟩, ?_⟩
  rw [h2]
  congr 3
  exact List.map_congr_left fun e he => by rw [only_ren (h1 e he).1 (hi e he).1, only_ren (h1 e he).2 (hi e he).2]
 | loop => exact hi.elim
 | defer => exact hi.elim
theorem inB_al {H : AHeap} {k : ABlk} (hi : inB H k) (hd : k ≠ .dead) : ∃ al, k.al = some al ∧ ∀ j ∈ al, H.get j ≠ .dead := by
 cases k with
 | dead => exact absurd rfl hd
 | ro c => exact hi.elim
 | rw c e o al => exact ⟨al, rfl, hi.2⟩
 | map es clock => exact ⟨[], rfl, fun j hj => by simp at hj⟩
 | loop => exact hi.elim
 | defer => exact hi.elim
theorem apart {σ : Place} {H H₀ : AHeap} {w : World} (r : Rel σ H₀ w) (hl : Less H H₀) (hb : ∀ k, inB H (H.get k)) {k k' b s s' : Nat} (hk : H.get k ≠ .dead) (hk' : H.get k' = .dead) (h : σ.at_ k = some (b, s)) (h' : σ.at_ k' = some (b, s')) : H₀.get k' = .dead := by
 have hne : k ≠ k' := fun e => by rw [e] at hk; exact hk hk'
 have he : H.get k = H₀.get k := (hl.2 k).resolve_right hk
 obtain ⟨al, h1, h2⟩ := inB_al (hb k) hk
 rw [he] at h1
 rcases r.excl k k' b s s' h h' hne al h1 with h3 | ⟨h3, _⟩
 ·exact h3
 ·exact absurd hk' (h2 k' h3)
theorem SCall.frame {f : FuncId} {args : List Value} {H H₀ H' H'' : AHeap} {v : Value} {m : Nat} (h : SCall P f args H v H' m) (hl : Less H H₀) (ha : ∀ x ∈ args, inV H x) (hb : ∀ k, inB H (H.get k))
  (hs : H''.size = H'.size) (hg1 : ∀ k, k < H.size → H.get k = .dead → H''.get k = H₀.get k) (hg2 : ∀ k, (k < H.size → H.get k ≠ .dead) → H''.get k = H'.get k) : SCall P f args H₀ v H'' m := by
 intro F n σ w hF hR hargs
 have hR1 : Rel (σ.only H) H w := by
  refine ⟨fun k b s hp => ?_, fun k b s hp => ?_, fun k k' b s s' hk hk' hne al hal => ?_⟩
  ·rw [hl.1]; exact hR.lt k b s (only_some hp).2
  ·obtain ⟨h0, h1⟩ := only_some hp
   have he : H.get k = H₀.get k := (hl.2 k).resolve_right h0
   have := hR.holds k b s h1
   rw [← he] at this
   exact this.only (hb k)
  ·obtain ⟨h0, h1⟩ := only_some hk
   obtain ⟨h2, h3⟩ := only_some hk'
   have he : H.get k = H₀.get k := (hl.2 k).resolve_right h0
   have he' : H.get k' = H₀.get k' := (hl.2 k').resolve_right h2
   rw [he] at hal
   rw [he']
   exact hR.excl k k' b s s' h1 h3 hne al hal
 have hmap : args.map (ren (σ.only H)) = args.map (ren σ) := only_map hargs ha
 have h1 := h F n (σ.only H) w hF hR1 fun x hx => okv_only x (hargs x hx) (ha x hx)
 rw [hmap] at h1
 refine h1.mono ?_
 rintro e w' ⟨τ, rfl, k1, k2, x⟩
 have hagr := x.agr hR1
 -- the old places, and the new ones
 let υ : Place := ⟨fun k => if k < H.size then σ.at_ k else τ.at_ k, fun k => if k < H.size then σ.room k else τ.room k⟩
 have υlt : ∀ k, k < H.size → υ.at_ k = σ.at_ k ∧ υ.room k = σ.room k := fun k hk => ⟨if_pos hk, if_pos hk⟩
 have υge : ∀ k, ¬ k < H.size → υ.at_ k = τ.at_ k ∧ υ.room k = τ.room k := fun k hk => ⟨if_neg hk, if_neg hk⟩
 have τυ : Agree τ υ := fun k p hp => by
  by_cases hk : k < H.size
  ·rw [(x.agree k hk).1] at hp
   obtain ⟨_, h3⟩ := only_some hp
   exact ⟨(υlt k hk).1.trans h3, (υlt k hk).2.trans ((x.agree k hk).2).symm⟩
  ·exact ⟨(υge k hk).1.trans hp, (υge k hk).2⟩
 have συ : Agree σ υ := fun k p hp => by
  obtain ⟨b, s⟩ := p
  have hk := (hR.lt k b s hp).1
  rw [← hl.1] at hk
  exact ⟨(υlt k hk).1.trans hp, (υlt k hk).2⟩
 -- blocks that are not there stay
 have hstay : ∀ k b s, H.get k = .dead → H₀.get k ≠ .dead → σ.at_ k = some (b, s) → w'.heap[b]? = w.heap[b]? := fun k b s hd h0 hp =>
  x.frame b (hR.lt k b s hp).2 fun k' s' _ hp' => by
   obtain ⟨h3, h4⟩ := only_some hp'
   exact h0 (apart hR hl hb h3 hd h4 hp)
 have hsize : H.size ≤ H'.size := x.hsize
 refine ⟨υ, by rw [τυ.ren k1], τυ.okv k1, ⟨fun k b s hp => ?_, fun k b s hp => ?_, fun k k' b s s' hk hk' hne al hal => ?_⟩, ⟨fun k hk => υlt k (by rw [hl.1]; exact hk), by rw [hs, ← hl.1]; exact hsize, x.wsize, x.os, x.tape, x.output, fun k hm hk => ?_, fun b hb' hn => x.frame b hb' fun k s hm hp => hn k s hm (only_some hp).2, fun k b s hk hp => ?_⟩⟩
 ·by_cases hk : k < H.size
  ·rw [(υlt k hk).1] at hp
   exact ⟨by rw [hs]; omega, Nat.lt_of_lt_of_le (hR.lt k b s hp).2 x.wsize⟩
  ·rw [(υge k hk).1] at hp
   rw [hs]; exact k2.lt k b s hp
 ·by_cases hk : k < H.size
  ·rw [(υlt k hk).1] at hp
   rw [(υlt k hk).2]
   by_cases hd : H.get k = .dead
   ·rw [hg1 k hk hd]
    by_cases h0 : H₀.get k = .dead
    ·rw [h0]; trivial
    ·exact (hR.holds k b s hp).agree συ (hstay k b s hd h0 hp)
   ·rw [hg2 k fun _ => hd]
    have hp' : τ.at_ k = some (b, s) := by rw [(x.agree k hk).1, only_at hd]; exact hp
    have := k2.holds k b s hp'
    rw [(x.agree k hk).2] at this
    exact this.agree τυ rfl
  ·rw [(υge k hk).1] at hp
   rw [(υge k hk).2, hg2 k fun h => absurd h hk]
   exact (k2.holds k b s hp).agree τυ rfl
 ·-- a block of the call, and one that is not there
  have mixed : ∀ q q' b s s', (q < H.size → H.get q ≠ .dead) → q' < H.size → H.get q' = .dead → υ.at_ q = some (b, s) → υ.at_ q' = some (b, s') → H₀.get q' = .dead := fun q q' b s s' hq hq1 hd hp hp' => by
   rw [(υlt q' hq1).1] at hp'
   by_cases hk : q < H.size
   ·rw [(υlt q hk).1] at hp
    exact apart hR hl hb (hq hk) hd hp hp'
   ·rw [(υge q hk).1] at hp
    rcases x.fresh q b s (by omega) hp with h3 | ⟨k0, s0, _, h4⟩
    ·have := (hR.lt q' b s' hp').2; omega
    ·obtain ⟨h5, h6⟩ := only_some h4
     exact apart hR hl hb h5 hd h6 hp'
  have back : ∀ q p, (q < H.size → H.get q ≠ .dead) → υ.at_ q = some p → τ.at_ q = some p := fun q p hq hp => by
   by_cases hk : q < H.size
   ·rw [(υlt q hk).1] at hp
    rw [(x.agree q hk).1, only_at (hq hk)]; exact hp
   ·rw [(υge q hk).1] at hp; exact hp
  by_cases hd : k < H.size ∧ H.get k = .dead
  ·obtain ⟨h3, h4⟩ := hd
   rw [hg1 k h3 h4] at hal
   by_cases hd' : k' < H.size ∧ H.get k' = .dead
   ·obtain ⟨h5, h6⟩ := hd'
    rw [(υlt k h3).1] at hk
    rw [(υlt k' h5).1] at hk'
    rw [hg1 k' h5 h6]
    exact hR.excl k k' b s s' hk hk' hne al hal
   ·have := mixed k' k b s' s (fun h5 h6 => hd' ⟨h5, h6⟩) h3 h4 hk' hk
    rw [this] at hal
    cases hal
  ·have hkk : k < H.size → H.get k ≠ .dead := fun h5 h6 => hd ⟨h5, h6⟩
   rw [hg2 k hkk] at hal
   by_cases hd' : k' < H.size ∧ H.get k' = .dead
   ·obtain ⟨h5, h6⟩ := hd'
    rw [hg1 k' h5 h6]
    exact .inl (mixed k k' b s s' hkk h5 h6 hk hk')
   ·have hkk' : k' < H.size → H.get k' ≠ .dead := fun h5 h6 => hd' ⟨h5, h6⟩
    rw [hg2 k' hkk']
    exact k2.excl k k' b s s' (back k _ hkk hk) (back k' _ hkk' hk') hne al hal
 ·by_cases hd : H.get k = .dead
  ·exact hg1 k (by rw [hl.1]; exact hk) hd
  ·rw [hg2 k fun _ => hd, x.keep k hm (by rw [hl.1]; exact hk)]
   exact (hl.2 k).resolve_right hd
 ·have hk' : ¬ k < H.size := by rw [hl.1]; omega
  rw [(υge k hk').1] at hp
  rcases x.fresh k b s (by omega) hp with h3 | ⟨k0, s0, h3, h4⟩
  ·exact .inl h3
  ·exact .inr ⟨k0, s0, h3, (only_some h4).2⟩
end Go.Am
namespace Go.Am
variable {T : Tab} {P : Program}
def keyL (l : List (Nat × ABlk)) (k : Nat) : Bool := l.any fun p => Nat.beq p.1 k
theorem keyL_iff {l : List (Nat × ABlk)} {k : Nat} : keyL l k = true ↔ ∃ p ∈ l, p.1 = k := by
 unfold keyL
 rw [List.any_eq_true]
 exact ⟨fun ⟨p, h1, h2⟩ => ⟨p, h1, Nat.eq_of_beq_eq_true h2⟩, fun ⟨p, h1, h2⟩ => ⟨p, h1, by rw [h2]; exact Nat.beq_refl k⟩⟩
def inVb (l : List (Nat × ABlk)) : Nat → Value → Bool
 | 0, _ => false
 | n + 1, v => match v with
  | .pointer (some a) => keyL l a.block
  | .slice (some a) _ _ => keyL l a.block
  | .map (some r) => keyL l r
  | .chan _ => false
  | .func fn first captured => (match fn with
   | .yield _ => false
   | _ => true) && (first.toList.all (inVb l n) && captured.toList.all (inVb l n))
  | .iface _ v => inVb l n v
  | .agg cs => cs.toList.all (inVb l n)
  | .tuple vs => vs.toList.all (inVb l n)
  | _ => true
def inBb (l : List (Nat × ABlk)) : ABlk → Bool
 | .rw c _ _ al => c.all (inVb l 6) && al.all (keyL l)
 | .map es _ => es.all fun e => inVb l 6 e.1 && inVb l 6 e.2.1
 | _ => false
def closedE (e : Loud) : Bool :=
 (e.l.all fun p => Nat.blt p.1 e.s && (inBb e.l p.2 && keyL e.l' p.1)) && (e.args.all (inVb e.l 6) && ((e.l'.all fun p => !Nat.blt p.1 e.s || keyL e.l p.1) && Nat.ble e.s e.s'))
theorem hp_alive {s : Nat} : ∀ {l : List (Nat × ABlk)} {k : Nat}, (∀ p ∈ l, p.2 ≠ .dead) → k < s → keyL l k = true → (hpOf s l).get k ≠ .dead
 | [], k, _, _, h => by cases h
 | p :: l, k, hd, hk, h => by
  rw [hpOf]
  by_cases e : k = p.1
  ·rw [e, AHeap.get_put_same _ _ (by rw [hpOf_size]; omega)]
   exact hd p (by simp)
  ·rw [AHeap.get_put_other _ _ e]
   refine hp_alive (fun q hq => hd q (List.mem_cons_of_mem _ hq)) hk ?_
   rw [keyL_iff] at h ⊢
   obtain ⟨q, h1, h2⟩ := h
   rcases List.mem_cons.1 h1 with rfl | h1
   ·exact absurd h2.symm e
   ·exact ⟨q, h1, h2⟩
theorem hp_dead {s : Nat} {l : List (Nat × ABlk)} {k : Nat} (h : keyL l k = false) : (hpOf s l).get k = .dead := by
 rcases hpOf_get s l k with e | ⟨p, h1, h2, _⟩
 ·exact e
 ·have : keyL l k = true := keyL_iff.2 ⟨p, h1, h2⟩
  rw [this] at h; cases h
theorem inVb_ok {s : Nat} {l : List (Nat × ABlk)} (hd : ∀ p ∈ l, p.2 ≠ .dead) (hs : ∀ p ∈ l, p.1 < s) : ∀ (n : Nat) (v : Value), inVb l n v = true → inV (hpOf s l) v := by
 have hk : ∀ k, keyL l k = true → (hpOf s l).get k ≠ .dead := fun k h => by
  obtain ⟨p, h1, h2⟩ := keyL_iff.1 h
  exact hp_alive hd (by rw [← h2]; exact hs p h1) h
 intro n
 induction n with
 | zero => intro v h; cases h
 | succ n ih =>
  intro v h
  cases v with
  | pointer a => cases a with
   | none => simp [inV]
   | some a => simp only [inV]; exact hk _ h
  | slice a x y => cases a with
   | none => simp [inV]
   | some a => simp only [inV]; exact hk _ h
  | map r => cases r with
   | none => simp [inV]
   | some r => simp only [inV]; exact hk _ h
  | chan r => cases h
  | func fn first captured =>
   simp only [inVb,Bool.and_eq_true,List.all_eq_true] at h
   obtain ⟨h1, h2, h3⟩ := h
   simp only [inV]
   refine ⟨fun l' e => (by rw [e] at h1; cases h1), fun v hv => ih v (h2 v (by simpa using hv)), fun v hv => ih v (h3 v (by simpa using hv))⟩
  | iface t v =>
   simp only [inV]
   exact ih v h
  | agg cs =>
   simp only [inVb,List.all_eq_true] at h
   simp only [inV]
   exact fun v hv => ih v (h v (by simpa using hv))
  | tuple cs =>
   simp only [inVb,List.all_eq_true] at h
   simp only [inV]
   exact fun v hv => ih v (h v (by simpa using hv))
  | bool _ => simp [inV]
  | int _ _ => simp [inV]
  | float _ _ => simp [inV]
  | complex _ _ _ => simp [inV]
  | string _ => simp [inV]
  | nilFunc => simp [inV]
  | nilIface => simp [inV]
theorem inBb_alive {l : List (Nat × ABlk)} {b : ABlk} (h : inBb l b = true) : b ≠ .dead := by
 intro e
 subst e
 cases h
def putL (H : AHeap) : List (Nat × ABlk) → AHeap
 | [] => H
 | p :: l => (putL H l).put p.1 p.2
theorem putL_size {H : AHeap} : ∀ l, (putL H l).size = H.size
 | [] => rfl
 | p :: l => by rw [putL, AHeap.size_put, putL_size l]
theorem putL_no {H : AHeap} {k : Nat} : ∀ {l : List (Nat × ABlk)}, keyL l k = false → (putL H l).get k = H.get k
 | [], _ => rfl
 | p :: l, h => by
  have h1 : k ≠ p.1 := fun e => by
   have : keyL (p :: l) k = true := keyL_iff.2 ⟨p, by simp, e.symm⟩
   rw [this] at h; cases h
  rw [putL, AHeap.get_put_other _ _ h1]
  refine putL_no ?_
  cases h2 : keyL l k with
  | false => rfl
  | true =>
   obtain ⟨q, h3, h4⟩ := keyL_iff.1 h2
   have : keyL (p :: l) k = true := keyL_iff.2 ⟨q, by simp [h3], h4⟩
   rw [this] at h; cases h
theorem putL_hp {H : AHeap} {s : Nat} (hs : H.size = s) {k : Nat} (hk : k < s) : ∀ {l : List (Nat × ABlk)}, keyL l k = true → (putL H l).get k = (hpOf s l).get k
 | [], h => by cases h
 | p :: l, h => by
  rw [putL, hpOf]
  by_cases e : k = p.1
  ·rw [e, AHeap.get_put_same _ _ (by rw [putL_size]; omega), AHeap.get_put_same _ _ (by rw [hpOf_size]; omega)]
  ·rw [AHeap.get_put_other _ _ e, AHeap.get_put_other _ _ e]
   refine putL_hp hs hk ?_
   rw [keyL_iff] at h ⊢
   obtain ⟨q, h1, h2⟩ := h
   rcases List.mem_cons.1 h1 with rfl | h1
   ·exact absurd h2.symm e
   ·exact ⟨q, h1, h2⟩
def allocN (H : AHeap) : Nat → AHeap
 | 0 => H
 | n + 1 => (allocN H n).alloc .dead
theorem allocN_size {H : AHeap} : ∀ n, (allocN H n).size = H.size + n
 | 0 => rfl
 | n + 1 => by rw [allocN, AHeap.size_alloc, allocN_size n]; omega
theorem allocN_old {H : AHeap} {k : Nat} (hk : k < H.size) : ∀ n, (allocN H n).get k = H.get k
 | 0 => rfl
 | n + 1 => by rw [allocN, AHeap.get_alloc_other _ _ (by rw [allocN_size]; omega), allocN_old hk n]
theorem allocN_new {H : AHeap} {k : Nat} (hk : H.size ≤ k) : ∀ n, (allocN H n).get k = .dead
 | 0 => AHeap.get_ge (by show ¬ k < H.size; omega)
 | n + 1 => by
  rw [allocN]
  by_cases e : k = (allocN H n).size
  ·rw [e, AHeap.get_alloc_same]
  ·rw [AHeap.get_alloc_other _ _ e, allocN_new hk n]
def mixH (H : AHeap) (s' : Nat) (l' : List (Nat × ABlk)) : AHeap := putL (allocN H (s' - H.size)) l'
def Loud.Ok2 (P : Program) (e : Loud) : Prop := e.Ok P ∧ closedE e = true
theorem Loud.framed {e : Loud} (h : e.Ok2 P) {H : AHeap} (hs : Nat.beq e.s H.size = true) (hl : lessL H e.l = true) : SCall P e.f e.args H e.v (mixH H e.s' e.l') e.m := by
 obtain ⟨⟨_, h1⟩, h2⟩ := h
 unfold closedE at h2
 simp only [Bool.and_eq_true,List.all_eq_true] at h2
 obtain ⟨c1, c2, c3, c4⟩ := h2
 have hd : ∀ p ∈ e.l, p.2 ≠ .dead := fun p hp => inBb_alive (c1 p hp).2.1
 have hlt : ∀ p ∈ e.l, p.1 < e.s := fun p hp => Nat.le_of_ble_eq_true (c1 p hp).1
 have hsz : e.s = H.size := Nat.eq_of_beq_eq_true hs
 have hss : e.s ≤ e.s' := Nat.le_of_ble_eq_true c4
 have hms : (allocN H (e.s' - H.size)).size = e.s' := by rw [allocN_size]; omega
 refine SCall.frame h1 (less_of hs hl) (fun x hx => inVb_ok hd hlt 6 x (c2 x hx)) (fun k => ?_) (by unfold mixH; rw [putL_size, hms, hpOf_size]) (fun k hk hdead => ?_) (fun k hk => ?_)
 ·rcases hpOf_get e.s e.l k with h3 | ⟨p, h3, _, h5⟩
  ·rw [h3]; trivial
  ·rw [h5]
   have h6 := (c1 p h3).2.1
   cases hb : p.2 with
   | dead => trivial
   | rw c el o al =>
    rw [hb] at h6
    simp only [inBb,Bool.and_eq_true,List.all_eq_true] at h6
    refine ⟨fun v hv => inVb_ok hd hlt 6 v (h6.1 v hv), fun j hj => ?_⟩
    obtain ⟨q, h7, h8⟩ := keyL_iff.1 (h6.2 j hj)
    exact hp_alive hd (by rw [← h8]; exact hlt q h7) (h6.2 j hj)
   | map es n =>
    rw [hb] at h6
    simp only [inBb,List.all_eq_true,Bool.and_eq_true] at h6
    exact fun en hen => ⟨inVb_ok hd hlt 6 _ (h6 en hen).1, inVb_ok hd hlt 6 _ (h6 en hen).2⟩
   | ro c => rw [hb] at h6; cases h6
   | loop => rw [hb] at h6; cases h6
   | defer => rw [hb] at h6; cases h6
 ·rw [hpOf_size] at hk
  have h3 : keyL e.l k = false := by
   cases h4 : keyL e.l k with
   | false => rfl
   | true => exact absurd hdead (hp_alive hd hk h4)
  have h4 : keyL e.l' k = false := by
   cases h5 : keyL e.l' k with
   | false => rfl
   | true =>
    obtain ⟨p, h6, h7⟩ := keyL_iff.1 h5
    have := c3 p h6
    rw [h7, h3] at this
    simp only [Bool.or_eq_true,Bool.not_eq_true',Bool.false_eq_true,or_false] at this
    have hb : Nat.blt k e.s = true := Nat.ble_eq_true_of_le hk
    rw [hb] at this; cases this
  unfold mixH
  rw [putL_no h4, allocN_old (by omega)]
 ·rw [hpOf_size] at hk
  unfold mixH
  by_cases hk' : k < e.s'
  ·cases h5 : keyL e.l' k with
   | true => exact putL_hp hms hk' h5
   | false =>
    have h6 : ¬ k < e.s := fun h7 => by
     have h8 : keyL e.l k = true := by
      cases h9 : keyL e.l k with
      | true => rfl
      | false => exact absurd (hp_dead h9) (hk h7)
     obtain ⟨p, h10, h11⟩ := keyL_iff.1 h8
     have := (c1 p h10).2.2
     rw [h11, h5] at this
     cases this
    rw [putL_no h5, hp_dead h5, allocN_new (by omega)]
  ·rw [AHeap.get_ge (by rw [putL_size, hms]; exact hk'), AHeap.get_ge (by rw [hpOf_size]; exact hk')]
def louds2 (P : Program) : List Loud → Prop
 | [] => True
 | e :: l => e.Ok2 P ∧ louds2 P l
noncomputable def framF (ls : List Loud) (f : FuncId) (args : List Value) (H : AHeap) (no : Option (Bool × Value × AHeap × Nat)) : Option (Bool × Value × AHeap × Nat) := List.rec (motive := fun _ => Option (Bool × Value × AHeap × Nat)) no
 (fun e _ ih => Loud.rec (motive := fun _ => Option (Bool × Value × AHeap × Nat)) (fun f' args' s l v s' l' m => Bool.rec (motive := fun _ => Option (Bool × Value × AHeap × Nat)) ih
  (Bool.rec (motive := fun _ => Option (Bool × Value × AHeap × Nat)) ih (some (false, v, mixH H s' l', m)) (eqL (sameV 6) args' args && (Nat.beq s H.size && lessL H l))) (Nat.beq f' f)) e) ls
theorem framF_ok {f : FuncId} {args : List Value} {H : AHeap} {no : Option (Bool × Value × AHeap × Nat)} {b : Bool} {v : Value} {H' : AHeap} {m : Nat} : ∀ {ls : List Loud}, louds2 P ls → framF ls f args H no = some (b, v, H', m) →
  (b = false ∧ HasFn P f ∧ SCall P f args H v H' m) ∨ no = some (b, v, H', m)
 | [], _, h => .inr h
 | e :: ls, hl, h => by
  have hok := hl.1
  obtain ⟨f', args', s, l, v', s', l', m'⟩ := e
  have h' : Bool.rec (motive := fun _ => Option (Bool × Value × AHeap × Nat)) (framF ls f args H no)
   (Bool.rec (motive := fun _ => Option (Bool × Value × AHeap × Nat)) (framF ls f args H no) (some (false, v', mixH H s' l', m')) (eqL (sameV 6) args' args && (Nat.beq s H.size && lessL H l))) (Nat.beq f' f) = some (b, v, H', m) := h
  rw [boolRec_eq, boolRec_eq] at h'
  cases e1 : Nat.beq f' f
  ·rw [e1] at h'; exact framF_ok hl.2 h'
  ·rw [e1] at h'
   cases e2 : (eqL (sameV 6) args' args && (Nat.beq s H.size && lessL H l))
   ·rw [e2] at h'; exact framF_ok hl.2 h'
   ·rw [e2] at h'
    simp only [Bool.and_eq_true] at e2
    have h'' : some (false, v', mixH H s' l', m') = some (b, v, H', m) := h'
    cases h''
    have hf : f' = f := Nat.eq_of_beq_eq_true e1
    subst hf
    have ha := eqL_ok (sameV_ok 6) e2.1
    subst ha
    exact .inl ⟨rfl, hok.1.1, Loud.framed hok e2.2.1 e2.2.2⟩
end Go.Am
namespace Go.Am
open Go.Proofs
def decI : List Value → Option (List Int)
 | [] => some []
 | .int .i64 n :: l => match decI l with
  | some t => some (n :: t)
  | none => none
 | _ => none
theorem decI_ok : ∀ {l : List Value} {t : List Int}, decI l = some t → l = tv t
 | [], t, h => by cases h; rfl
 | .int .i64 n :: l, t, h => by
  rw [decI] at h
  split at h
  ·rename_i t' h'
   cases h
   rw [decI_ok h']; rfl
  ·cases h
 | .int .i8 n :: l, t, h => by cases h
 | .int .i16 n :: l, t, h => by cases h
 | .int .i32 n :: l, t, h => by cases h
 | .int .u8 n :: l, t, h => by cases h
 | .int .u16 n :: l, t, h => by cases h
 | .int .u32 n :: l, t, h => by cases h
 | .int .u64 n :: l, t, h => by cases h
 | .bool b :: l, t, h => by cases h
def decPk : List Int → Option (List Pk)
 | [] => some []
 | s :: w :: o :: f :: l => match decPk l with
  | some ps => some (⟨s, w, o, f⟩ :: ps)
  | none => none
 | _ => none
theorem decPk_ok : ∀ {t : List Int} {ps : List Pk}, decPk t = some ps → tv t = pkE.fl ps
 | [], ps, h => by cases h; rfl
 | s :: w :: o :: f :: l, ps, h => by
  rw [decPk] at h
  split at h
  ·rename_i t' h'
   cases h
   show Value.int .i64 s :: .int .i64 w :: .int .i64 o :: .int .i64 f :: tv l = _
   rw [decPk_ok h']; rfl
  ·cases h
def decGd : List Int → Option (List Gd)
 | [] => some []
 | f :: p :: l => match decGd l with
  | some ps => some (⟨f, p⟩ :: ps)
  | none => none
 | _ => none
theorem decGd_ok : ∀ {t : List Int} {ps : List Gd}, decGd t = some ps → tv t = gdE.fl ps
 | [], ps, h => by cases h; rfl
 | f :: p :: l, ps, h => by
  rw [decGd] at h
  split at h
  ·rename_i t' h'
   cases h
   show Value.int .i64 f :: .int .i64 p :: tv l = _
   rw [decGd_ok h']; rfl
  ·cases h
def Pk.okB (p : Pk) : Bool := (decide (0 ≤ p.s) && decide (p.s ≤ 6)) && ((decide (0 ≤ p.w) && decide (p.w ≤ p.s)) && ((decide (0 ≤ p.o) && decide (p.o ≤ p.s)) && (decide (0 ≤ p.f) && decide (p.f ≤ p.o))))
theorem Pk.okB_ok {p : Pk} (h : p.okB = true) : p.Ok := by
 simp only [Pk.okB,Bool.and_eq_true,decide_eq_true_eq] at h
 exact ⟨h.1, h.2.1, h.2.2.1, h.2.2.2⟩
def Gd.okB (g : Gd) : Bool := (decide (0 ≤ g.fo) && decide (g.fo ≤ 100)) && (decide (0 ≤ g.pr) && decide (g.pr ≤ 100))
theorem Gd.okB_ok {g : Gd} (h : g.okB = true) : g.Ok := by
 simp only [Gd.okB,Bool.and_eq_true,decide_eq_true_eq] at h
 exact ⟨h.1, h.2⟩
def sackB (n : Int) : Bool := decide (0 ≤ n) && decide (n ≤ 6)
def rowI (H : AHeap) (a : Option Addr) (n : Nat) : Option (List Int) := match a with
 | some a => match a.spot, cellsOf (H.get a.block) with
  | none, some c => bif Nat.blt a.block H.size && Nat.beq ((c.drop a.off).take n).length n then decI ((c.drop a.off).take n) else none
  | _, _ => none
 | none => none
theorem rowI_ok {α : Type} {E : Enc α} {H : AHeap} {a : Option Addr} {l : List α} {t : List Int} (h : rowI H a (l.length * E.z) = some t) (he : tv t = E.fl l) : Rw E H a l := by
 unfold rowI at h
 split at h
 ·rename_i a
  split at h
  ·rename_i c hs hc
   cases hb : (Nat.blt a.block H.size && Nat.beq ((c.drop a.off).take (l.length * E.z)).length (l.length * E.z))
   ·rw [hb] at h; cases h
   ·rw [hb, cond_true] at h
    simp only [Bool.and_eq_true] at hb
    obtain ⟨b, o, s⟩ := a
    simp only at hs hc hb h
    subst hs
    exact ⟨fun _ => ⟨b, o, c, rfl, by have h1 := hb.1; simp [Nat.blt] at h1; omega, hc, by rw [decI_ok h, he]⟩⟩
  ·cases h
 ·cases h
theorem rowI_len {H : AHeap} {a : Option Addr} {n : Nat} {t : List Int} (h : rowI H a n = some t) : t.length = n := by
 unfold rowI at h
 split at h
 ·rename_i a
  split at h
  ·rename_i c hs hc
   cases hb : (Nat.blt a.block H.size && Nat.beq ((c.drop a.off).take n).length n)
   ·rw [hb] at h; cases h
   ·rw [hb, cond_true] at h
    simp only [Bool.and_eq_true] at hb
    have := decI_ok h
    have h2 := Nat.eq_of_beq_eq_true hb.2
    rw [this, tv_len] at h2
    exact h2
  ·cases h
 ·cases h
def work4 (args : List Value) (H : AHeap) : Option (List Pk × List Int × Value) := match args with
 | [.agg w, .agg m] => match w.toList with
  | [.slice a n cap, g, lo, mp] => bif Nat.ble n 4 then match rowI H a (n * 4), decI m.toList with
    | some t, some ms => match decPk t with
     | some ps => bif (ps.all Pk.okB && (Nat.beq ms.length 4 && ms.all sackB)) && (sameV 5 g g && (sameV 5 lo lo && sameV 5 mp mp)) then some (ps, ms, g) else none
     | none => none
    | _, _ => none
   else none
  | _ => none
 | _ => none
structure Work4 (args : List Value) (H : AHeap) (ps : List Pk) (ms : List Int) (g : Value) : Prop where
 ex : ∃ a cap lo mp, args = [.agg ⟨[.slice a ps.length cap, g, lo, mp]⟩, .agg ⟨tv ms⟩] ∧ Rw pkE H a ps ∧ sameV 5 lo lo = true ∧ sameV 5 mp mp = true
 pl : ps.length ≤ 4
 pk : ∀ p ∈ ps, p.Ok
 ml : ms.length = 4
 mb : ∀ n ∈ ms, 0 ≤ n ∧ n ≤ 6
 sg : sameV 5 g g = true
theorem work4_ok {args : List Value} {H : AHeap} {ps : List Pk} {ms : List Int} {g : Value} (h : work4 args H = some (ps, ms, g)) : Work4 args H ps ms g := by
 unfold work4 at h
 split at h
 ·rename_i w m
  split at h
  ·rename_i a n cap g' lo mp hw
   cases hn : Nat.ble n 4
   ·rw [hn] at h; cases h
   ·rw [hn, cond_true] at h
    split at h
    ·rename_i t ms' ht hm
     split at h
     ·rename_i ps' hps
      cases hb : (ps'.all Pk.okB && (Nat.beq ms'.length 4 && ms'.all sackB)) && (sameV 5 g' g' && (sameV 5 lo lo && sameV 5 mp mp))
      ·rw [hb] at h; cases h
      ·rw [hb, cond_true] at h
       cases h
       simp only [Bool.and_eq_true,List.all_eq_true] at hb
       obtain ⟨⟨h1, h2, h3⟩, h4, h5, h6⟩ := hb
       have hd := decPk_ok hps
       have hl : n = ps.length := by
        have e1 := rowI_len ht
        have e2 := congrArg List.length hd
        rw [tv_len, fl_length, e1] at e2
        rw [show pkE.z = 4 from rfl] at e2
        omega
       subst hl
       obtain ⟨w⟩ := w
       obtain ⟨m⟩ := m
       simp only at hw hm
       subst hw
       exact ⟨⟨a, cap, lo, mp, by rw [← decI_ok hm], rowI_ok (E := pkE) ht hd, h5, h6⟩, Nat.le_of_ble_eq_true hn, fun p hp => Pk.okB_ok (h1 p hp), Nat.eq_of_beq_eq_true h2, fun n hn => by have := h3 n hn; simpa [sackB] using this, h4⟩
     ·cases h
    ·cases h
  ·cases h
 ·cases h
def nat120 (args : List Value) (H : AHeap) : Option (Bool × Value × AHeap × Nat) := match work4 args H with
 | some (ps, ms, _) => some (true, .agg ⟨[.int .i64 (isum ms), .int .i64 (isum (fo false ps ms))]⟩, H, H.size)
 | none => none
def nat92 (args : List Value) (H : AHeap) : Option (Bool × Value × AHeap × Nat) := match work4 args H with
 | some (ps, ms, .slice a n _) => bif Nat.ble n 4 then match rowI H a (n * 2) with
   | some t => match decGd t with
    | some gs => bif gs.all Gd.okB then some (true, .agg ⟨(grd ps gs ms).enc⟩, H, H.size) else none
    | none => none
   | none => none
  else none
 | _ => none
theorem nat120_ok {args : List Value} {H : AHeap} {r : Bool × Value × AHeap × Nat} {N : Nat} (h : nat120 args H = some r) : acall tabA (aexec tabA Try.prog (N + 400)) 120 args H = some r := by
 unfold nat120 at h
 split at h
 ·rename_i ps ms g hw
  cases h
  obtain ⟨⟨a, cap, lo, mp, rfl, h1, h2, h3⟩, h4, h5, h6, h7, h8⟩ := work4_ok hw
  exact c120 h1 h4 h5 h6 h7 h8 h2 h3
 ·cases h
theorem nat92_ok {args : List Value} {H : AHeap} {r : Bool × Value × AHeap × Nat} {N : Nat} (h : nat92 args H = some r) : acall tabA (aexec tabA Try.prog (N + 600)) 92 args H = some r := by
 unfold nat92 at h
 split at h
 ·rename_i ps ms a' n cap' hw
  cases hn : Nat.ble n 4
  ·rw [hn] at h; cases h
  ·rw [hn, cond_true] at h
   split at h
   ·rename_i t ht
    split at h
    ·rename_i gs hg
     cases hb : gs.all Gd.okB
     ·rw [hb] at h; cases h
     ·rw [hb, cond_true] at h
      cases h
      rw [List.all_eq_true] at hb
      have hd := decGd_ok hg
      have hl : n = gs.length := by
       have e1 := rowI_len ht
       have e2 := congrArg List.length hd
       rw [tv_len, fl_length, e1] at e2
       rw [show gdE.z = 2 from rfl] at e2
       omega
      subst hl
      obtain ⟨⟨a, cap, lo, mp, rfl, h1, h2, h3⟩, h4, h5, h6, h7, h8⟩ := work4_ok hw
      exact c92 h1 h4 h5 (rowI_ok (E := gdE) ht hd) (Nat.le_of_ble_eq_true hn) (fun g hg => Gd.okB_ok (hb g hg)) h6 h7 h2 h3
    ·cases h
   ·cases h
 ·cases h
def sumB (n : Int) : Bool := decide (0 ≤ n) && decide (n ≤ 1000000)
def nat76 (args : List Value) (H : AHeap) : Option (Bool × Value × AHeap × Nat) := match args with
 | [.agg m] => match decI m.toList with
  | some ms => bif Nat.beq ms.length 4 && ms.all sumB then some (true, .int .i64 (isum ms), H, H.size) else none
  | none => none
 | _ => none
theorem nat76_ok {args : List Value} {H : AHeap} {r : Bool × Value × AHeap × Nat} {N : Nat} (h : nat76 args H = some r) : acall tabA (aexec tabA Try.prog (N + 200)) 76 args H = some r := by
 unfold nat76 at h
 split at h
 ·rename_i m
  split at h
  ·rename_i ms hm
   cases hb : (Nat.beq ms.length 4 && ms.all sumB)
   ·rw [hb] at h; cases h
   ·rw [hb, cond_true] at h
    cases h
    simp only [Bool.and_eq_true,List.all_eq_true] at hb
    obtain ⟨m⟩ := m
    simp only at hm
    rw [decI_ok hm]
    exact c76 (Nat.eq_of_beq_eq_true hb.1) fun x hx => by have := hb.2 x hx; simpa [sumB] using this
  ·cases h
 ·cases h
def natM (f : FuncId) (args : List Value) (H : AHeap) : Option (Bool × Value × AHeap × Nat) :=
 bif Nat.beq f 120 then nat120 args H else bif Nat.beq f 92 then nat92 args H else bif Nat.beq f 76 then nat76 args H else none
theorem natM_ok {f : FuncId} {args : List Value} {H : AHeap} {r : Bool × Value × AHeap × Nat} (h : natM f args H = some r) : ∃ N, acall tabA (aexec tabA Try.prog N) f args H = some r := by
 unfold natM at h
 cases h1 : Nat.beq f 120
 ·rw [h1, cond_false] at h
  cases h2 : Nat.beq f 92
  ·rw [h2, cond_false] at h
   cases h3 : Nat.beq f 76
   ·rw [h3] at h; cases h
   ·rw [h3, cond_true] at h
    rw [Nat.eq_of_beq_eq_true h3]
    exact ⟨0 + 200, nat76_ok h⟩
  ·rw [h2, cond_true] at h
   rw [Nat.eq_of_beq_eq_true h2]
   exact ⟨0 + 600, nat92_ok h⟩
 ·rw [h1, cond_true] at h
  rw [Nat.eq_of_beq_eq_true h1]
  exact ⟨0 + 400, nat120_ok h⟩
noncomputable def tabN : Tab := ⟨tab.und, tab.inf, tab.fn, natM, tab.plan⟩
theorem tabN_fits : tabN.Fits Try.prog where
 und := tab_fits.und
 inf := tab_fits.inf
 fn := tab_fits.fn
 mixed := tab_fits.mixed
 memo f args H b v H' m h := by
  obtain ⟨N, h⟩ := natM_ok h
  obtain ⟨⟨fn, c, hc⟩, h2, h3⟩ := acall_ok tabA_fits (aexec_ok tabA_fits N).1 h
  exact ⟨⟨fn, c, hc.1, hc.2, hc.3⟩, h2, h3⟩
noncomputable def Tab.knows4 (T : Tab) (ks ls : List Loud) (qs : List Quiet) : Tab := ⟨T.und, T.inf, T.fn, fun f args H => loudF ks f args H (framF ls f args H (quietsF qs f args H (T.memo f args H))), T.plan⟩
theorem Tab.knows4_fits {T : Tab} {P : Program} (hT : T.Fits P) {ks ls : List Loud} {qs : List Quiet} (hk : louds P ks) (hl : louds2 P ls) (hq : quiets P qs) : (T.knows4 ks ls qs).Fits P where
 und := hT.und
 inf := hT.inf
 fn := hT.fn
 mixed := hT.mixed
 memo f args H b v H' m h := by
  rcases loudF_ok hk h with ⟨rfl, h1, h2⟩ | h
  ·exact ⟨h1, h2, fun h => by cases h⟩
  ·rcases framF_ok hl h with ⟨rfl, h1, h2⟩ | h
   ·exact ⟨h1, h2, fun h => by cases h⟩
   ·rcases quietsF_ok hq h with ⟨rfl, rfl, h1, h2⟩ | h
    ·exact ⟨h1, h2, fun _ => ⟨rfl, rfl⟩⟩
    ·exact hT.memo _ _ _ _ _ _ _ h
theorem ok2 {P : Program} {e : Loud} (h : e.Ok P) (hc : closedE e = true) : e.Ok2 P := ⟨h, hc⟩
end Go.Am
