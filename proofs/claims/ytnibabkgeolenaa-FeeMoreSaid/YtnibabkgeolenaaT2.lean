/- Cuts of slices. -/
import Derived.Test.YtnibabkgeolenaaT1
set_option linter.unusedSimpArgs false
set_option linter.unusedVariables false
namespace Go.Am
variable {T : Tab} {P : Program} {σ : Place} {H : AHeap} {w : World} {t : Operand → Option Value} {ρ : Operand → Value}

/-- How far a slice is known to reach, where its end is open. -/
def known (H : AHeap) (a : Addr) (len size cap : Nat) : Nat :=
  bif Nat.beq cap (OPEN + size) then
    match H.get a.block with
    | .rw c _ _ _ => bif Nat.blt len ((c.length - a.off) / size) then (c.length - a.off) / size else len
    | _ => len
  else len
theorem known_ok (r : Rel σ H w) {a : Addr} {len size cap : Nat} (hp : (σ.at_ a.block).isSome = true) (h : len ≤ σ.cap (some a) cap) : len ≤ known H a len size cap ∧ known H a len size cap ≤ σ.cap (some a) cap := by
  unfold known
  cases hc : Nat.beq cap (OPEN + size)
  · exact ⟨Nat.le_refl _, h⟩
  · have := Nat.eq_of_beq_eq_true hc
    subst this
    simp only [cond_true]
    split
    · rename_i c e o al hg
      cases hl : Nat.blt len ((c.length - a.off) / size)
      · exact ⟨Nat.le_refl _, h⟩
      · have hlt := lt_of_blt hl
        refine ⟨by simp only [cond_true]; omega, ?_⟩
        obtain ⟨p, hp⟩ := Option.isSome_iff_exists.1 hp
        obtain ⟨b, s⟩ := p
        have hh := r.holds _ _ _ hp
        rw [hg] at hh
        obtain ⟨_, _, rest, _, h3, _⟩ := hh
        simp only [cond_true,Place.cap]
        rw [if_neg (Nat.not_lt.2 (Nat.le_add_right _ _)), Nat.add_sub_cancel_left]
        exact Nat.div_le_div_right (by omega)
    · exact ⟨Nat.le_refl _, h⟩

def aSlice (T : Tab) (t : Operand → Option Value) (H : AHeap) (ty : TypeId) (x : Operand) (lo hi mx : Option Operand) : Option (Value × AHeap × Nat) :=
  match t x, T.und ty, abound t lo, abound t hi, abound t mx with
  | some (.pointer (some a)), some (.array n e), some vl, some vh, some vm =>
    match T.inf e, abounds n n vl vh vm with
    | some i, some (l, h, m) => bif Nat.blt m OPEN then
        some (.slice (some ⟨a.block, a.off + (bif Nat.beq m l then 0 else l * i.size), none⟩) (h - l) (m - l), H, H.size) else none
    | _, _ => none
  | some (.slice a len cap), some (.slice e), some vl, some vh, some vm =>
    match T.inf e with
    | some i =>
      bif Nat.blt cap OPEN then
        match abounds len cap vl vh vm with
        | some (l, h, m) => bif Nat.blt m OPEN then
            match a with
            | none => some (.slice none (h - l) (m - l), H, H.size)
            | some a => some (.slice (some ⟨a.block, a.off + (bif Nat.beq m l then 0 else l * i.size), none⟩) (h - l) (m - l), H, H.size)
          else none
        | none => none
      else
        match a with
        | none => none
        | some a =>
        match abounds len (known H a len i.size cap) vl vh vm with
        | some (l, h, m) =>
          bif vm.isSome then (bif Nat.blt m OPEN then some (.slice (some ⟨a.block, a.off + (bif Nat.beq m l then 0 else l * i.size), none⟩) (h - l) (m - l), H, H.size) else none)
          else bif (Nat.blt l (known H a len i.size cap) || Nat.beq l 0) && Nat.beq cap (OPEN + i.size) then
            some (.slice (some ⟨a.block, a.off + l * i.size, none⟩) (h - l) cap, H, H.size)
          else bif Nat.beq h l && Nat.blt a.off OPEN && Nat.blt l OPEN && Nat.blt i.size OPEN && Nat.beq cap (OPEN + i.size) then
            some (.chan (some (tailZ a.block a.off l i.size)), H, H.size)
          else none
        | _ => none
    | none => none
  | _, _, _, _, _ => none

theorem aSlice_ok (hT : T.Fits P) {o : Oper} {ty : TypeId} {x : Operand} {lo hi mx : Option Operand} (ho : o.op = .slice ty x lo hi mx) (r : Rel σ H w) (hρ : Evals σ t ρ) {v : Value} {H' : AHeap} {m : Nat}
    (h : aSlice T t H ty x lo hi mx = some (v, H', m)) : Runs P (execOp ρ o) σ H w v H' m := by
  unfold aSlice at h
  split at h
  · rename_i a n e vl vh vm hx hty hl hh hm
    split at h
    · rename_i i l h1 m1 hi' hb
      cases hlt : Nat.blt m1 OPEN
      · rw [hlt] at h; cases h
      · rw [hlt] at h; cases h
        obtain ⟨e1, e2⟩ := hρ _ _ hx
        simp only [okv] at e2
        simp only [ren,Option.map_some] at e1
        have hrun := abounds_ok (P := P) hb (abound_ok hρ hl) (abound_ok hρ hh) (abound_ok hρ hm) false w
        have hm1 : m1 - l < OPEN := by have := lt_of_blt hlt; omega
        refine Runs.same r ?_ ?_
        · simp only [ren,Option.map_some,Place.cap,hm1,if_true]
          rw [← pick_add e2]
          simp [execOp, ho, e1, Instr.sliceAt, run_und hT hty, Instr.sureAddr, hrun, run_size hT hi']
        · rw [okv]; exact ⟨rfl, e2.2, fun hc => by omega⟩
    · cases h
  · rename_i a len cap e vl vh vm hx hty hl hh hm
    obtain ⟨e1, e2⟩ := hρ _ _ hx
    have B1 := abound_ok hρ hl
    have B2 := abound_ok hρ hh
    have B3 := abound_ok hρ hm
    split at h
    · rename_i i hi'
      cases hcl : Nat.blt cap OPEN
      · -- open
        simp only [hcl,cond_false] at h
        split at h
        · cases h
        rename_i a
        split at h
        · rename_i l h1 m1 hb
          have hge : OPEN ≤ cap := by
            rcases Nat.lt_or_ge cap OPEN with h' | h'
            · rw [blt_true h'] at hcl; cases hcl
            · exact h'
          rw [okv] at e2
          obtain ⟨o1, o2, o3⟩ := e2
          obtain ⟨o4, o5⟩ := o3 hge
          simp only [ren,Option.map_some] at e1
          obtain ⟨kn1, kn2⟩ := known_ok (size := i.size) r o2 o5
          generalize hkn : known H a len i.size cap = kn at *
          obtain ⟨b1, b2, b3, b4⟩ := abounds_le hb kn1
          have hb' := abounds_more hb kn2
          have hrun := abounds_ok (P := P) hb' B1 B2 B3 true w
          cases hvm : vm.isSome
          · simp only [hvm,cond_false] at h
            have hvn : vm = none := by simpa using hvm
            subst hvn
            simp only at hrun
            cases hc : ((Nat.blt l kn || Nat.beq l 0) && Nat.beq cap (OPEN + i.size))
            · rw [hc] at h
              simp only [cond_false] at h
              cases hd : (Nat.beq h1 l && Nat.blt a.off OPEN && Nat.blt l OPEN && Nat.blt i.size OPEN && Nat.beq cap (OPEN + i.size))
              · rw [hd] at h; cases h
              · rw [hd] at h
                simp only [cond_true,Option.some.injEq,Prod.mk.injEq] at h
                obtain ⟨rfl, rfl, rfl⟩ := h
                simp only [Bool.and_eq_true] at hd
                obtain ⟨⟨⟨⟨d1, d2⟩, d3⟩, d4⟩, d5⟩ := hd
                have hcap : cap = OPEN + i.size := Nat.eq_of_beq_eq_true d5
                subst hcap
                obtain rfl : h1 = l := Nat.eq_of_beq_eq_true d1
                obtain ⟨D1, D2, D3, D4⟩ := tailZ_dec (k := a.block) (lt_of_blt d2) (lt_of_blt d3) (lt_of_blt d4)
                have ha' : (⟨a.block, a.off, none⟩ : Addr) = a := by cases a; simp_all
                have t1 : σ.tailC (tailZ a.block a.off h1 i.size) = σ.cap (some a) (OPEN + i.size) := by
                  unfold Place.tailC
                  rw [D4, D3, D1, ha']
                have t2 : σ.tailA (tailZ a.block a.off h1 i.size) = if σ.cap (some a) (OPEN + i.size) = h1 then some (σ.addr a) else some ((σ.addr a).add (h1 * i.size)) := by
                  unfold Place.tailA
                  rw [D4, D3, D2, D1, ha']
                  simp only [t1]
                refine Runs.same r ?_ ?_
                · simp only [ren,Option.getD_some,t1,t2,D2]
                  simp [execOp, ho, e1, Instr.sliceAt, Instr.slice, run_und hT hty, hrun, run_size hT hi']
                · simp only [okv,Option.getD_some,D4]
                  exact o2
            · rw [hc] at h; cases h
              simp only [Bool.and_eq_true,Bool.or_eq_true] at hc
              have hcap : cap = OPEN + i.size := Nat.eq_of_beq_eq_true hc.2
              subst hcap
              have hpos : 0 < i.size := by omega
              have hCeq : ∀ off, σ.cap (some ⟨a.block, off, none⟩) (OPEN + i.size) = (σ.room a.block - off) / i.size := by
                intro off; simp only [Place.cap]; rw [if_neg (Nat.not_lt.2 (Nat.le_add_right _ _)), Nat.add_sub_cancel_left]
              have ha' : a = ⟨a.block, a.off, none⟩ := by cases a; simp_all
              have hC : σ.cap (some a) (OPEN + i.size) = (σ.room a.block - a.off) / i.size := by
                have := hCeq a.off; rw [← ha'] at this; exact this
              have hcapl : σ.cap (some ⟨a.block, a.off + l * i.size, none⟩) (OPEN + i.size) = σ.cap (some a) (OPEN + i.size) - l := by
                rw [hCeq, hC, Nat.sub_add_eq, Nat.mul_comm l, Nat.sub_mul_div]
              have hlen : l ≤ kn := Nat.le_trans b1 (Nat.le_trans b2 b3)
              refine Runs.same r ?_ ?_
              · simp only [ren,Option.map_some,hcapl]
                rw [← addr_off σ ⟨o1, o2⟩]
                have hpick : (if σ.cap (some a) (OPEN + i.size) = l then some (σ.addr a) else some ((σ.addr a).add (l * i.size))) = some ((σ.addr a).add (l * i.size)) := by
                  split
                  · rename_i e0
                    rcases hc.1 with hc1 | hc1
                    · have := lt_of_blt hc1; omega
                    · have : l = 0 := Nat.eq_of_beq_eq_true hc1
                      subst this; simp [Addr.add]
                  · rfl
                simp [execOp, ho, e1, Instr.sliceAt, Instr.slice, run_und hT hty, hrun, run_size hT hi', hpick]
              · rw [okv]
                refine ⟨rfl, o2, fun _ => ⟨by omega, ?_⟩⟩
                rw [hcapl]
                omega
          · simp only [hvm,cond_true] at h
            obtain ⟨z, rfl⟩ := Option.isSome_iff_exists.1 hvm
            simp only at hrun
            cases hlt : Nat.blt m1 OPEN
            · rw [hlt] at h; cases h
            · rw [hlt] at h; cases h
              have hm1 : m1 - l < OPEN := by have := lt_of_blt hlt; omega
              refine Runs.same r ?_ ?_
              · simp only [ren,Option.map_some]
                rw [show σ.cap (some ⟨a.block, a.off + (bif Nat.beq m1 l then 0 else l * i.size), none⟩) (m1 - l) = m1 - l from by simp [Place.cap, hm1]]
                rw [← pick_add ⟨o1, o2⟩]
                simp [execOp, ho, e1, Instr.sliceAt, Instr.slice, run_und hT hty, hrun, run_size hT hi', apply_ite]
              · rw [okv]; exact ⟨rfl, o2, fun hc => by omega⟩
        · cases h
      · simp only [hcl,cond_true] at h
        have hcl' : cap < OPEN := lt_of_blt hcl
        split at h
        · rename_i l h1 m1 hb
          have hrun := abounds_ok (P := P) hb B1 B2 B3 true w
          cases hlt : Nat.blt m1 OPEN
          · rw [hlt] at h; cases h
          · rw [hlt] at h
            have hm1 : m1 - l < OPEN := by have := lt_of_blt hlt; omega
            simp only [cond_true] at h
            split at h
            · cases h
              simp only [ren,Option.map_none,Place.cap,hcl',if_true] at e1
              refine Runs.same r ?_ (by rw [okv]; exact hm1)
              simp [execOp, ho, e1, Instr.sliceAt, Instr.slice, run_und hT hty, hrun, run_size hT hi', ren, Place.cap, hm1]
            · rename_i a
              cases h
              rw [okv] at e2
              obtain ⟨o1, o2, _⟩ := e2
              simp only [ren,Option.map_some,Place.cap,hcl',if_true] at e1
              refine Runs.same r ?_ ?_
              · simp only [ren,Option.map_some,Place.cap,hm1,if_true]
                rw [← pick_add ⟨o1, o2⟩]
                simp [execOp, ho, e1, Instr.sliceAt, Instr.slice, run_und hT hty, hrun, run_size hT hi', apply_ite]
              · rw [okv]; exact ⟨rfl, o2, fun hc => by omega⟩
        · cases h
    · cases h
  · cases h

end Go.Am
/- Appended elements, lengths, copies, cleared cells. -/
namespace Go.Am
variable {T : Tab} {P : Program} {σ : Place} {H : AHeap} {w : World} {t : Operand → Option Value} {ρ : Operand → Value}

def srcCells (H : AHeap) (a : Addr) (n : Nat) : Option (List Value) :=
  match cellsOf (H.get a.block) with
  | some c => bif Nat.beq ((c.drop a.off).take n).length n then some ((c.drop a.off).take n) else none
  | none => none

theorem add_shift (b s off j : Nat) : (⟨b, s + off, none⟩ : Addr).add j = ⟨b, s + (off + j), none⟩ := by
  unfold Addr.add; split
  · rename_i h0; subst h0; simp
  · simp [Nat.add_assoc]

theorem srcCells_ok (r : Rel σ H w) {a : Addr} {n : Nat} {l : List Value} (ha : a.spot = none ∧ (σ.at_ a.block).isSome = true) (h : srcCells H a n = some l) :
    l.length = n ∧ (∀ v ∈ l, okv σ v) ∧ ∀ j v, (l.map (ren σ))[j]? = some v → w.cell? ((σ.addr a).add j) = some v := by
  unfold srcCells at h
  split at h
  · rename_i c hc
    cases hl : Nat.beq ((c.drop a.off).take n).length n
    · rw [hl] at h; cases h
    · rw [hl] at h
      simp only [cond_true,Option.some.injEq] at h
      subst h
      obtain ⟨p, hp⟩ := Option.isSome_iff_exists.1 ha.2
      obtain ⟨b, s⟩ := p
      have hadd : σ.addr a = ⟨b, s + a.off, none⟩ := by simp [Place.addr, hp]
      have hcell := r.cells hp hc
      have hget : ∀ j v, ((c.drop a.off).take n)[j]? = some v → c[a.off + j]? = some v := by
        intro j v hj
        rw [List.getElem?_take] at hj
        split at hj
        · rwa [List.getElem?_drop] at hj
        · cases hj
      refine ⟨Nat.eq_of_beq_eq_true hl, fun v hv => ?_, fun j v hj => ?_⟩
      · obtain ⟨j, hj⟩ := List.getElem?_of_mem hv
        exact (hcell _ _ (hget j v hj)).1
      · rw [List.getElem?_map] at hj
        cases hu : ((c.drop a.off).take n)[j]? with
        | none => rw [hu] at hj; cases hj
        | some u =>
          rw [hu] at hj; simp only [Option.map_some,Option.some.injEq] at hj; subst hj
          rw [hadd, add_shift]
          exact (hcell _ _ (hget j u hu)).2
  · cases h

theorem run_append_zero (ty t' e : TypeId) (i : TypeInfo) (ht : P.underlying t' = some (.slice e)) (hi : P.info? e = some i)
    (base xa : Option Addr) (sl sc xc : Nat) (h : sl ≤ sc) :
    (Builtin.append_ #[t', t'] ty #[.slice base sl sc, .slice xa 0 xc]).run P w = .ok (.slice base sl sc) w := by
  have hf : (Builtin.firstCells i.size 0 (.slice xa 0 xc)).run P w = .ok #[] w := by
    cases xa with
    | none => simp [Builtin.firstCells]
    | some a => simp [Builtin.firstCells, loadCells, loadCellsFrom]
  cases base <;> simp [Builtin.append_, run_underlying ht, sizeOf, typeInfo, hi, Builtin.lenOf, h, hf, storeCells]

theorem run_append_inplace (ty t' e : TypeId) (i : TypeInfo) (ht : P.underlying t' = some (.slice e)) (hi : P.info? e = some i)
    (a x : Addr) (sl sc n xc : Nat) (news : List Value) (hl : news.length = n * i.size) (hnews : ∀ j u, news[j]? = some u → w.cell? (x.add j) = some u)
    (h : sl + n ≤ sc) {w' : World} (hst : (storeCells (a.add (sl * i.size)) news 0).run P w = .ok () w') :
    (Builtin.append_ #[t', t'] ty #[.slice (some a) sl sc, .slice (some x) n xc]).run P w = .ok (.slice (some a) (sl + n) sc) w' := by
  have hf := run_firstCells_some (P := P) w i.size n x n xc news hl hnews
  simp [Builtin.append_, run_underlying ht, sizeOf, typeInfo, hi, Builtin.lenOf, h, hf, hst]

/-- A new block for what was there and what is appended. -/
theorem grown_ok (r : Rel σ H w) (c : List Value) (hc : ∀ v ∈ c, okv σ v) (e : TypeId) (need G size : Nat) (hlen : c.length = need * size) (hsz : 0 < size) (hG : need ≤ G) (zs : List Value)
    (hz : zs.length = (G - need) * size) :
    Rel (σ.add H.size w.heap.size (G * size)) (H.alloc (.rw c e true [])) (w.drew.alloc (.cells ((c.map (ren σ)) ++ zs).toArray e)) ∧
    Ext σ H w (σ.add H.size w.heap.size (G * size)) (H.alloc (.rw c e true [])) (w.drew.alloc (.cells ((c.map (ren σ)) ++ zs).toArray e)) H.size ∧
    okv (σ.add H.size w.heap.size (G * size)) (.slice (some ⟨H.size, 0, none⟩) need (OPEN + size)) ∧
    ren (σ.add H.size w.heap.size (G * size)) (.slice (some ⟨H.size, 0, none⟩) need (OPEN + size)) = .slice (some ⟨w.heap.size, 0, none⟩) need G := by
  have r' : Rel σ H w.drew := r.heap_eq rfl
  have hcap : (σ.add H.size w.heap.size (G * size)).cap (some ⟨H.size, 0, none⟩) (OPEN + size) = G := by
    simp only [Place.cap,Place.room_same]
    rw [if_neg (Nat.not_lt.2 (Nat.le_add_right _ _)), Nat.add_sub_cancel_left, Nat.sub_zero, Nat.mul_div_cancel _ hsz]
  refine ⟨?_, ?_, ?_, ?_⟩
  · refine r'.alloc _ _ _ ⟨rfl, fun v hv => (r'.agree_add _ _).okv (hc v hv), zs, ?_, ?_, fun h => by cases h⟩ (.inr ⟨[], rfl⟩)
    · rw [(r.agree_add _ _).map hc]
      exact World.alloc_heap_new w.drew _
    · rw [hlen, hz, ← Nat.add_mul]; congr 1; omega
  · have h1 := Ext.heap_eq (w' := w.drew) r rfl rfl rfl rfl
    have h2 := Ext.alloc r' (.cells ((c.map (ren σ)) ++ zs).toArray e) (.rw c e true []) (G * size)
    have := h1.trans h2
    rwa [Nat.min_self] at this
  · rw [okv]
    refine ⟨rfl, by simp [Place.add_same], fun _ => ⟨by omega, ?_⟩⟩
    rw [hcap]; exact hG
  · simp only [ren,Option.map_some,hcap]
    simp [Place.addr, Place.add_same]

def aAppend (T : Tab) (t : Operand → Option Value) (H : AHeap) (tys : Array TypeId) (args : Array Operand) : Option (Value × AHeap × Nat) :=
  match tys.toList, args.toList with
  | [ty, ty'], [s, x] =>
    bif Nat.beq ty ty' then
      match T.und ty, t s, t x with
      | some (.slice e), some (.slice base sl sc), some (.slice xa n xc) =>
        match T.inf e with
        | some i =>
          bif Nat.beq n 0 then
            (bif Nat.ble OPEN sc || Nat.ble sl sc then some (.slice base sl sc, H, H.size) else none)
          else match xa with
          | none => none
          | some xa =>
            match srcCells H xa (n * i.size), i.zero with
            | some news, some z =>
              bif Nat.blt 0 i.size && Nat.beq z.cells.size i.size && Nat.ble (sl + n) 9223372036854775807 && Nat.ble ((sl + n) * i.bytes) 140737488355328 && oneCells news then
                match base with
                | none =>
                  bif Nat.beq sl 0 && Nat.beq sc 0 then
                    some (.slice (some ⟨H.size, 0, none⟩) n (OPEN + i.size), H.alloc (.rw news e true []), H.size)
                  else none
                | some a =>
                  bif Nat.blt sc OPEN then
                    bif Nat.ble (sl + n) sc then
                      match aWrite H a.block (a.off + sl * i.size) news with
                      | some (H', m) => some (.slice (some a) (sl + n) sc, H', m)
                      | none => none
                    else match srcCells H a (sl * i.size) with
                      | some olds => some (.slice (some ⟨H.size, 0, none⟩) (sl + n) (OPEN + i.size), H.alloc (.rw (olds ++ news) e true []), H.size)
                      | none => none
                  else bif Nat.ble (sl + n) (known H a sl i.size sc) then
                    match aWrite H a.block (a.off + sl * i.size) news with
                    | some (H', m) => some (.slice (some a) (sl + n) sc, H', m)
                    | none => none
                  else match H.get a.block with
                    | .rw c e' true al =>
                      bif Nat.beq e e' && Nat.beq a.off 0 && Nat.beq c.length (sl * i.size) && Nat.beq sc (OPEN + i.size) then
                        some (.slice (some ⟨H.size, 0, none⟩) (sl + n) (OPEN + i.size), ((H.kill al).put a.block (.ro c)).alloc (.rw (c ++ news) e true [a.block]), minAl a.block al)
                      else none
                    | _ => none
              else none
            | _, _ => none
        | none => none
      | some (.slice e), some (.slice base sl sc), some (.chan _) =>
        match T.inf e with
        | some _ => (bif Nat.ble OPEN sc || Nat.ble sl sc then some (.slice base sl sc, H, H.size) else none)
        | none => none
      | _, _, _ => none
    else none
  | _, _ => none

theorem exec_builtin {o : Oper} {b : Builtin} {args : Array Operand} {tys : Array TypeId} (ho : o.op = .call { callee := .builtin b, args, argTypes := tys }) :
    execOp ρ o = builtin b tys o.type (args.map fun | .const _ => true | _ => false) (args.map ρ) := by
  simp only [execOp,ho,resolve,invoke]; rfl

theorem aAppend_ok (hT : T.Fits P) {o : Oper} {tys : Array TypeId} {args : Array Operand} (ho : o.op = .call { callee := .builtin .append, args, argTypes := tys }) (r : Rel σ H w) (hρ : Evals σ t ρ)
    {v : Value} {H' : AHeap} {m : Nat} (h : aAppend T t H tys args = some (v, H', m)) : Runs P (execOp ρ o) σ H w v H' m := by
  unfold aAppend at h
  split at h
  · rename_i ty ty' s x htys hargs
    cases hty : Nat.beq ty ty'
    · rw [hty] at h; cases h
    · rw [hty] at h
      simp only [cond_true] at h
      have := Nat.eq_of_beq_eq_true hty
      subst this
      obtain rfl : tys = #[ty, ty] := by apply Array.ext'; simpa using htys
      obtain rfl : args = #[s, x] := by apply Array.ext'; simpa using hargs
      split at h
      · rename_i e base sl sc xa n xc hu hs hx
        obtain ⟨s1, s2⟩ := hρ _ _ hs
        obtain ⟨x1, x2⟩ := hρ _ _ hx
        simp only [ren] at s1 x1
        have hexec : execOp ρ o = (do pure (.value (← Builtin.append_ #[ty, ty] o.type #[ρ s, ρ x]))) := by rw [exec_builtin ho]; simp only [builtin,List.map_toArray,List.map_cons,List.map_nil]
        split at h
        · rename_i i hi
          have hP := hT.und _ _ hu
          have hI := hT.inf _ _ hi
          cases hn : Nat.beq n 0
          · simp only [hn,cond_false] at h
            have hn0 : 0 < n := Nat.pos_of_ne_zero fun e => by subst e; cases hn
            split at h
            · cases h
            · rename_i xa
              rw [okv] at x2
              have xok : xa.spot = none ∧ (σ.at_ xa.block).isSome = true := ⟨x2.1, x2.2.1⟩
              simp only [Option.map_some] at x1
              split at h
              · rename_i news z hnews hz
                obtain ⟨n1, n2, n3⟩ := srcCells_ok r xok hnews
                cases hb : (Nat.blt 0 i.size && Nat.beq z.cells.size i.size && Nat.ble (sl + n) 9223372036854775807 && Nat.ble ((sl + n) * i.bytes) 140737488355328 && oneCells news)
                · rw [hb] at h; cases h
                · rw [hb] at h
                  simp only [cond_true] at h
                  simp only [Bool.and_eq_true] at hb
                  obtain ⟨⟨⟨⟨b1, b2⟩, b3⟩, b4⟩, b5⟩ := hb
                  have hsz : 0 < i.size := lt_of_blt b1
                  have hzs : z.cells.size = i.size := Nat.eq_of_beq_eq_true b2
                  have h63 : sl + n ≤ 9223372036854775807 := Nat.le_of_ble_eq_true b3
                  have h47 : (sl + n) * i.bytes ≤ 140737488355328 := Nat.le_of_ble_eq_true b4
                  have zlen : ∀ k, (Builtin.zeroCells z.cells k).toList.length = k * i.size := fun k => by
                    have := size_zeroCells z.cells k; rw [hzs] at this; simpa using this
                  split at h
                  · -- nil
                    cases hb0 : (Nat.beq sl 0 && Nat.beq sc 0)
                    · rw [hb0] at h; cases h
                    · rw [hb0] at h
                      simp only [cond_true] at h
                      cases h
                      simp only [Bool.and_eq_true] at hb0
                      obtain rfl : sl = 0 := Nat.eq_of_beq_eq_true hb0.1
                      obtain rfl : sc = 0 := Nat.eq_of_beq_eq_true hb0.2
                      have hc0 : σ.cap none 0 = 0 := by simp [Place.cap, OPEN]
                      simp only [Option.map_none,hc0] at s1
                      simp only [Nat.zero_add] at h63 h47
                      have hrun := run_append_nil (P := P) w ty o.type e i z hP hI hz (σ.addr xa) n (σ.cap (some xa) xc) (news.map (ren σ)) (by rw [List.length_map, n1]) n3 hn0 (by omega) (by omega)
                      obtain ⟨g1, g2, g3, g4⟩ := grown_ok r news n2 e n (grownCap w n 0 e) i.size n1 hsz (grownCap_ge _ _ _ _) (Builtin.zeroCells z.cells (grownCap w n 0 e - n)).toList (zlen _)
                      refine ⟨_, _, _, ?_, .inl rfl, g3, g1, g2⟩
                      rw [g4, hexec, s1, x1]
                      simp only [Sem.run_bind,hrun,Result.andThen_ok,Sem.run_pure]
                      congr 3
                      apply Array.ext'; simp
                  · rename_i a
                    rw [okv] at s2
                    have aok : a.spot = none ∧ (σ.at_ a.block).isSome = true := ⟨s2.1, s2.2.1⟩
                    simp only [Option.map_some] at s1
                    cases hcl : Nat.blt sc OPEN
                    · -- open
                      simp only [hcl,cond_false] at h
                      have hge : OPEN ≤ sc := by
                        rcases Nat.lt_or_ge sc OPEN with h' | h'
                        · rw [blt_true h'] at hcl; cases hcl
                        · exact h'
                      obtain ⟨o4, o5⟩ := s2.2.2 hge
                      cases hkn : Nat.ble (sl + n) (known H a sl i.size sc)
                      rotate_left
                      · rw [hkn] at h
                        simp only [cond_true] at h
                        have hle : sl + n ≤ σ.cap (some a) sc := Nat.le_trans (Nat.le_of_ble_eq_true hkn) (known_ok r aok.2 o5).2
                        split at h
                        · rename_i H1 m1 hw
                          cases h
                          obtain ⟨p, hp⟩ := Option.isSome_iff_exists.1 aok.2
                          obtain ⟨b, sh⟩ := p
                          obtain ⟨w', h5, h6, h7⟩ := aWrite_ok (P := P) r hp n2 hw
                          have hst : (storeCells ((σ.addr a).add (sl * i.size)) (news.map (ren σ)) 0).run P w = .ok () w' := by
                            rw [show σ.addr a = ⟨b, sh + a.off, none⟩ from by simp [Place.addr, hp], add_shift]; exact h5
                          have hrun := run_append_inplace (P := P) (w := w) o.type ty e i hP hI (σ.addr a) (σ.addr xa) sl (σ.cap (some a) sc) n (σ.cap (some xa) xc) (news.map (ren σ)) (by rw [List.length_map, n1]) n3 hle hst
                          refine ⟨σ, w', _, ?_, .inl rfl, ?_, h6, h7⟩
                          · rw [hexec, s1, x1]
                            simp only [Sem.run_bind,hrun,Result.andThen_ok,Sem.run_pure,ren,Option.map_some]
                          · rw [okv]; exact ⟨s2.1, s2.2.1, fun _ => ⟨o4, hle⟩⟩
                        · cases h
                      rw [hkn] at h
                      simp only [cond_false] at h
                      split at h
                      · rename_i c e' al hget
                        cases hb6 : (Nat.beq e e' && Nat.beq a.off 0 && Nat.beq c.length (sl * i.size) && Nat.beq sc (OPEN + i.size))
                        · rw [hb6] at h; cases h
                        · rw [hb6] at h
                          simp only [cond_true] at h
                          cases h
                          simp only [Bool.and_eq_true] at hb6
                          obtain ⟨⟨⟨c1, c2⟩, c3⟩, c4⟩ := hb6
                          obtain rfl : e = e' := Nat.eq_of_beq_eq_true c1
                          have hoff : a.off = 0 := Nat.eq_of_beq_eq_true c2
                          have hclen : c.length = sl * i.size := Nat.eq_of_beq_eq_true c3
                          obtain rfl : sc = OPEN + i.size := Nat.eq_of_beq_eq_true c4
                          obtain ⟨p, hp⟩ := Option.isSome_iff_exists.1 aok.2
                          obtain ⟨b, sh⟩ := p
                          have hold := r.holds _ _ _ hp
                          rw [hget] at hold
                          obtain ⟨h0, h1, rest, h2, h3, _⟩ := hold
                          subst h0
                          have haddr : σ.addr a = ⟨b, 0, none⟩ := by simp [Place.addr, hp, hoff]
                          have hC : σ.cap (some a) (OPEN + i.size) = σ.room a.block / i.size := by
                            simp only [Place.cap]
                            rw [if_neg (Nat.not_lt.2 (Nat.le_add_right _ _)), Nat.add_sub_cancel_left, hoff, Nat.sub_zero]
                          have hlenC := (s2.2.2 hge).2
                          rw [hC] at hlenC s1
                          rw [haddr] at s1
                          have hbsz : b < w.heap.size := (r.lt _ _ _ hp).2
                          have hcell : ∀ i v, c[i]? = some v → w.cell? ⟨b, i, none⟩ = some (ren σ v) := fun j v hj => by
                            have := (r.cells hp (by rw [hget]; rfl) j v hj).2
                            rwa [Nat.zero_add] at this
                          have hma := minAl_le a.block al
                          by_cases hroom : sl + n ≤ σ.room a.block / i.size
                          · -- in place
                            have hfits : (sl + n) * i.size ≤ σ.room a.block := by
                              have := Nat.mul_le_mul_right i.size hroom
                              exact Nat.le_trans this (Nat.div_mul_le_self _ _)
                            have hnl : (news.map (ren σ)).length = n * i.size := by rw [List.length_map, n1]
                            rw [Nat.add_mul] at hfits
                            have hrun := run_append_room (P := P) w ty o.type e i hP hI b sl (σ.room a.block / i.size) _ h2 (σ.addr xa) n (σ.cap (some xa) xc) (news.map (ren σ)) hnl n3
                              (fun u hu => by obtain ⟨v, hv, rfl⟩ := List.mem_map.1 hu; rw [oneCell_ren]; exact oneCells_mem b5 v hv) hroom (by simp; omega)
                            have hrow : ((c.map (ren σ) ++ rest).toArray.toList.take (sl * i.size) ++ news.map (ren σ) ++ (c.map (ren σ) ++ rest).toArray.toList.drop (sl * i.size + (news.map (ren σ)).length)) =
                                (c ++ news).map (ren σ) ++ rest.drop (n * i.size) := by
                              rw [hnl, ← hclen]
                              simp only [List.map_append]
                              rw [List.take_append_of_le_length (by simp), List.take_of_length_le (by simp)]
                              congr 1
                              rw [List.drop_append, List.drop_of_length_le (by simp)]
                              simp
                            rw [hrow] at hrun
                            have hsame := heap_setRow_same w b ((c ++ news).map (ren σ) ++ rest.drop (n * i.size)).toArray _ _ _ h2
                            have hNew : Holds (σ.add H.size b (σ.room a.block)) (w.setRow b ((c ++ news).map (ren σ) ++ rest.drop (n * i.size)).toArray) (σ.room a.block) b 0 (.rw (c ++ news) e true [a.block]) := by
                              refine ⟨rfl, fun v hv => (r.agree_add _ _).okv ?_, rest.drop (n * i.size), ?_, ?_, fun h => by cases h⟩
                              · rcases List.mem_append.1 hv with hv | hv
                                · exact h1 v hv
                                · exact n2 v hv
                              · rw [(r.agree_add b (σ.room a.block)).map (l := c ++ news) (fun v hv => by
                                  rcases List.mem_append.1 hv with hv | hv
                                  · exact h1 v hv
                                  · exact n2 v hv)]
                                exact hsame
                              · simp; omega
                            have hcell' : ∀ j v, c[j]? = some v → (w.setRow b ((c ++ news).map (ren σ) ++ rest.drop (n * i.size)).toArray).cell? ⟨b, j, none⟩ = some (ren σ v) := fun j v hj => by
                              rw [cell_of_row _ b j _ _ _ hsame]
                              have hjlt : j < c.length := (List.getElem?_eq_some_iff.1 hj).1
                              simp only [List.getElem?_toArray,List.map_append,List.append_assoc]
                              rw [List.getElem?_append_left (by simpa using hjlt), List.getElem?_map, hj]; rfl
                            refine ⟨σ.add H.size b (σ.room a.block), _, _, ?_, .inl rfl, ?_, r.appended hp hget (by simp) (by simpa using hbsz) (.inl rfl) (fun j _ hj => heap_setRow_other _ _ _ hj) hcell' hNew,
                              Ext.appended r hp (by simp) (.inl rfl) (fun j _ hj => heap_setRow_other _ _ _ hj) rfl rfl rfl hma.1 hma.2⟩
                            · rw [hexec, s1, x1]
                              simp only [Sem.run_bind,hrun,Result.andThen_ok,Sem.run_pure,ren,Option.map_some]
                              congr 2
                              simp only [Place.addr,Place.add_same,Place.cap,Place.room_same]
                              rw [if_neg (Nat.not_lt.2 (Nat.le_add_right _ _)), Nat.add_sub_cancel_left, Nat.sub_zero]
                            · rw [okv]
                              refine ⟨rfl, by simp [Place.add_same], fun _ => ⟨by omega, ?_⟩⟩
                              simp only [Place.cap,Place.room_same]
                              rw [if_neg (Nat.not_lt.2 (Nat.le_add_right _ _)), Nat.add_sub_cancel_left, Nat.sub_zero]
                              exact hroom
                          · -- a new block
                            have hg' : σ.room a.block / i.size < sl + n := by omega
                            have hrun := run_append_grow (P := P) w ty o.type e i z hP hI hz ⟨b, 0, none⟩ sl (σ.room a.block / i.size) (c.map (ren σ)) (by simpa using hclen)
                              (fun j v hj => by
                                rw [List.getElem?_map] at hj
                                cases hu : c[j]? with
                                | none => rw [hu] at hj; cases hj
                                | some u =>
                                  rw [hu] at hj; simp only [Option.map_some,Option.some.injEq] at hj; subst hj
                                  have := add_shift b 0 0 j
                                  simp only [Nat.zero_add] at this
                                  rw [this]; exact hcell j u hu)
                              (σ.addr xa) n (σ.cap (some xa) xc) (news.map (ren σ)) (by rw [List.length_map, n1]) n3 hg' (by omega) (growslice_fits hg' h47)
                            generalize hG : grownCap w (sl + n) (σ.room a.block / i.size) e = G at hrun
                            have hGe : sl + n ≤ G := by rw [← hG]; exact grownCap_ge _ _ _ _
                            have harr : (c.map (ren σ)).toArray ++ (news.map (ren σ)).toArray ++ Builtin.zeroCells z.cells (G - (sl + n)) =
                                ((c ++ news).map (ren σ) ++ (Builtin.zeroCells z.cells (G - (sl + n))).toList).toArray := by apply Array.ext'; simp
                            rw [harr] at hrun
                            have hNew : Holds (σ.add H.size w.heap.size (G * i.size)) (w.drew.alloc (.cells ((c ++ news).map (ren σ) ++ (Builtin.zeroCells z.cells (G - (sl + n))).toList).toArray e)) (G * i.size) w.heap.size 0 (.rw (c ++ news) e true [a.block]) := by
                              refine ⟨rfl, fun v hv => (r.agree_add _ _).okv ?_, (Builtin.zeroCells z.cells (G - (sl + n))).toList, ?_, ?_, fun h => by cases h⟩
                              · rcases List.mem_append.1 hv with hv | hv
                                · exact h1 v hv
                                · exact n2 v hv
                              · rw [(r.agree_add w.heap.size (G * i.size)).map (l := c ++ news) (fun v hv => by
                                  rcases List.mem_append.1 hv with hv | hv
                                  · exact h1 v hv
                                  · exact n2 v hv)]
                                exact World.alloc_heap_new w.drew _
                              · rw [zlen, List.length_append, hclen, n1, ← Nat.add_mul, ← Nat.add_mul]; congr 1; omega
                            have hold' : ∀ j, j < w.heap.size → j ≠ w.heap.size → (w.drew.alloc (.cells ((c ++ news).map (ren σ) ++ (Builtin.zeroCells z.cells (G - (sl + n))).toList).toArray e)).heap[j]? = w.heap[j]? :=
                              fun j hj _ => heap_alloc_lt w.drew _ hj
                            refine ⟨σ.add H.size w.heap.size (G * i.size), _, _, ?_, .inl rfl, ?_, r.appended hp hget (by simp) (by simp) (.inr (Nat.le_refl _)) hold' (fun j v hj => by
                                rw [World.cell?_alloc_lt _ _ _ (by simpa using hbsz)]; exact hcell j v hj) hNew,
                              Ext.appended r hp (by simp) (.inr (Nat.le_refl _)) hold' rfl rfl rfl hma.1 hma.2⟩
                            · rw [hexec, s1, x1]
                              simp only [Sem.run_bind,hrun,Result.andThen_ok,Sem.run_pure,ren,Option.map_some]
                              congr 2
                              simp only [Place.addr,Place.add_same,Place.cap,Place.room_same]
                              rw [if_neg (Nat.not_lt.2 (Nat.le_add_right _ _)), Nat.add_sub_cancel_left, Nat.sub_zero, Nat.mul_div_cancel _ hsz]
                            · rw [okv]
                              refine ⟨rfl, by simp [Place.add_same], fun _ => ⟨by omega, ?_⟩⟩
                              simp only [Place.cap,Place.room_same]
                              rw [if_neg (Nat.not_lt.2 (Nat.le_add_right _ _)), Nat.add_sub_cancel_left, Nat.sub_zero, Nat.mul_div_cancel _ hsz]
                              exact hGe
                      · cases h
                    · -- closed
                      simp only [hcl,cond_true] at h
                      have hcl' : sc < OPEN := lt_of_blt hcl
                      have hcap : σ.cap (some a) sc = sc := by simp [Place.cap, hcl']
                      rw [hcap] at s1
                      cases hroom : Nat.ble (sl + n) sc
                      · simp only [hroom,cond_false] at h
                        have hg' : sc < sl + n := by
                          rcases Nat.lt_or_ge sc (sl + n) with h' | h'
                          · exact h'
                          · rw [Nat.ble_eq_true_of_le h'] at hroom; cases hroom
                        split at h
                        · rename_i olds holds
                          cases h
                          obtain ⟨o1, o2, o3⟩ := srcCells_ok r aok holds
                          have hrun := run_append_grow (P := P) w ty o.type e i z hP hI hz (σ.addr a) sl sc (olds.map (ren σ)) (by rw [List.length_map, o1]) o3 (σ.addr xa) n (σ.cap (some xa) xc) (news.map (ren σ))
                            (by rw [List.length_map, n1]) n3 hg' (by omega) (growslice_fits hg' h47)
                          obtain ⟨g1, g2, g3, g4⟩ := grown_ok r (olds ++ news) (fun v hv => by
                              rcases List.mem_append.1 hv with hv | hv
                              · exact o2 v hv
                              · exact n2 v hv) e (sl + n) (grownCap w (sl + n) sc e) i.size (by rw [List.length_append, o1, n1, Nat.add_mul]) hsz (grownCap_ge _ _ _ _)
                            (Builtin.zeroCells z.cells (grownCap w (sl + n) sc e - (sl + n))).toList (zlen _)
                          refine ⟨_, _, _, ?_, .inl rfl, g3, g1, g2⟩
                          rw [g4, hexec, s1, x1]
                          simp only [Sem.run_bind,hrun,Result.andThen_ok,Sem.run_pure]
                          congr 3
                          apply Array.ext'; simp
                        · cases h
                      · simp only [hroom,cond_true] at h
                        have hle : sl + n ≤ sc := Nat.le_of_ble_eq_true hroom
                        split at h
                        · rename_i H1 m1 hw
                          cases h
                          obtain ⟨p, hp⟩ := Option.isSome_iff_exists.1 aok.2
                          obtain ⟨b, sh⟩ := p
                          obtain ⟨w', h5, h6, h7⟩ := aWrite_ok (P := P) r hp n2 hw
                          have hst : (storeCells ((σ.addr a).add (sl * i.size)) (news.map (ren σ)) 0).run P w = .ok () w' := by
                            rw [show σ.addr a = ⟨b, sh + a.off, none⟩ from by simp [Place.addr, hp], add_shift]; exact h5
                          have hrun := run_append_inplace (P := P) (w := w) o.type ty e i hP hI (σ.addr a) (σ.addr xa) sl sc n (σ.cap (some xa) xc) (news.map (ren σ)) (by rw [List.length_map, n1]) n3 hle hst
                          refine ⟨σ, w', _, ?_, .inl rfl, ?_, h6, h7⟩
                          · rw [hexec, s1, x1]
                            simp only [Sem.run_bind,hrun,Result.andThen_ok,Sem.run_pure,ren,Option.map_some,hcap]
                          · rw [okv]; exact ⟨s2.1, s2.2.1, fun hc => by omega⟩
                        · cases h
              · cases h
          · simp only [hn,cond_true] at h
            obtain rfl : n = 0 := Nat.eq_of_beq_eq_true hn
            cases hb : (Nat.ble OPEN sc || Nat.ble sl sc)
            · rw [hb] at h; cases h
            · rw [hb] at h
              simp only [cond_true] at h
              cases h
              have hle : sl ≤ σ.cap base sc := by
                simp only [Bool.or_eq_true] at hb
                rcases Nat.lt_or_ge sc OPEN with h' | h'
                · have e1 : σ.cap base sc = sc := by simp [Place.cap, h']
                  rw [e1]
                  rcases hb with hb | hb
                  · have := Nat.le_of_ble_eq_true hb; omega
                  · exact Nat.le_of_ble_eq_true hb
                · cases base with
                  | none => rw [okv] at s2; omega
                  | some a => rw [okv] at s2; exact (s2.2.2 h').2
              have hrun := run_append_zero (P := P) (w := w) o.type ty e i hP hI (base.map σ.addr) (xa.map σ.addr) sl (σ.cap base sc) (σ.cap xa xc) hle
              refine Runs.same r ?_ s2
              rw [hexec, s1, x1]
              simp only [Sem.run_bind,hrun,Result.andThen_ok,Sem.run_pure,ren]
        · cases h
      · rename_i e base sl sc ch hu hs hx
        obtain ⟨s1, s2⟩ := hρ _ _ hs
        obtain ⟨x1, x2⟩ := hρ _ _ hx
        simp only [ren] at s1 x1
        have hexec : execOp ρ o = (do pure (.value (← Builtin.append_ #[ty, ty] o.type #[ρ s, ρ x]))) := by rw [exec_builtin ho]; simp only [builtin,List.map_toArray,List.map_cons,List.map_nil]
        split at h
        · rename_i i hi
          have hP := hT.und _ _ hu
          have hI := hT.inf _ _ hi
          cases hb : (Nat.ble OPEN sc || Nat.ble sl sc)
          · rw [hb] at h; cases h
          · rw [hb] at h
            simp only [cond_true] at h
            cases h
            have hle : sl ≤ σ.cap base sc := by
              simp only [Bool.or_eq_true] at hb
              rcases Nat.lt_or_ge sc OPEN with h' | h'
              · have e1 : σ.cap base sc = sc := by simp [Place.cap, h']
                rw [e1]
                rcases hb with hb | hb
                · have := Nat.le_of_ble_eq_true hb; omega
                · exact Nat.le_of_ble_eq_true hb
              · cases base with
                | none => rw [okv] at s2; omega
                | some a => rw [okv] at s2; exact (s2.2.2 h').2
            have hrun := run_append_zero (P := P) (w := w) o.type ty e i hP hI (base.map σ.addr) (σ.tailA (ch.getD 0)) sl (σ.cap base sc) (σ.tailC (ch.getD 0) - ch.getD 0 / OPEN % OPEN) hle
            refine Runs.same r ?_ s2
            rw [hexec, s1, x1]
            simp only [Sem.run_bind,hrun,Result.andThen_ok,Sem.run_pure,ren]
        · cases h
      · cases h
  · cases h

end Go.Am
