import Derived.Test.YtaieoelbpnjoiaaT43
set_option linter.unusedSimpArgs false
set_option linter.unusedVariables false
namespace Go.Am
open Go.Proofs
variable {T : Tab} {P : Program} {N L : Nat} {H : AHeap} {Q : Bool → Value → AHeap → Prop}
def nil241 : List Value := List.replicate 241 (.slice none 0 0)
theorem st_alS_178n : alS tabA 178 = some nil241 := by kernel_rfl
section
variable {H₀ Ha H' H'' : AHeap} {l : List Str} {C w ld a₀ : Int} {a : Option Addr} {sv : Value} {cap : Nat} {bt : Nat → Int} {dn : Int → Nat → Int} {S : List Stt} {s₀ : Stt}
theorem atake_fr' {lo : Nat} : ∀ {ds : List Nat} {H H' : AHeap}, atake ds H = some H' → (∀ q ∈ ds, lo ≤ q) → ∀ q, q < lo → H'.get q = H.get q
 | [], H, H', h, _, q, _ => by cases h; rfl
 | d :: ds, H, H', h, hl, q, hq => by
  unfold atake at h
  split at h
  ·have := atake_fr' h (fun p hp => hl p (List.mem_cons_of_mem _ hp)) q hq
   rw [this, zdd (by have := hl d (by simp); omega)]
  ·cases h
theorem atake_ne : ∀ {ds : List Nat} {H H' : AHeap}, atake ds H = some H' → ∀ q, q ∉ ds → H'.get q = H.get q
 | [], H, H', h, q, _ => by cases h; rfl
 | d :: ds, H, H', h, q, hq => by
  unfold atake at h
  split at h
  ·have := atake_ne h q (fun hp => hq (List.mem_cons_of_mem _ hp))
   rw [this, zdd (fun e => hq (by simp [e]))]
  ·cases h
theorem EXr.oldO {st : Ex} {own own' : Nat → List Nat} {km kd : Nat} (E : EXr H₀.size a₀ H km kd st own) (f0 : Fr H₀ H) (fe : FrO H H' km kd own own') : Fr H₀ H' where
 size := Nat.le_trans f0.size fe.size
 same k hk := by
  have h1 := f0.size
  rw [fe.same k (by omega) (by have := E.km0; omega) (by have := E.kd0; omega) (fun t ht hm => by have := (E.ownb t ht k hm).1; omega)]
  exact f0.same k hk
theorem aenv_mapN {n : Nat} {e : VT} : aenv n e (.const (.map none)) = some (.map none) := nr rfl
theorem cells_map {p : Option Nat} : (Value.map p).cells.toList = [.map p] := nr rfl
theorem one_map {p : Option Nat} {l : List Value} : oneCells (.map p :: l) = oneCells l := nr rfl
theorem nil241_get {u : Nat} (hu : u < 241) : nil241[u]? = some (.slice none 0 0) := by
 unfold nil241
 rw [List.getElem?_replicate, if_pos hu]
theorem nil241_len : nil241.length = 241 := by unfold nil241; rw [List.length_replicate]
theorem EXr.beg {base km kd bn t : Nat} {nx : Stt → Nat → Str → Bool → Stt} (hm : MpB (H.get km) [(s₀, ⟨t, 0, false, 0, 0⟩)]) (m0 : base ≤ km) (m1 : km < H.size) (d0 : base ≤ kd) (d1 : kd < H.size) (hne : km ≠ kd) (n0 : base ≤ bn) (n1 : bn < H.size) (nm : bn ≠ km) (nd : bn ≠ kd)
  (hd : H.get kd = .rw (zee t [.slice (some ⟨bn, 0, none⟩) 1 1] nil241) 178 false []) (hb : cellsOf (H.get bn) = some (kvs [s₀])) (ht : t < 241) : EXr base (t : Int) H km kd (exTo l w ld nx s₀ t 0) (fun u => if u = t then [bn] else []) := by
 have n241 := nil241_len
 refine ⟨hm, m0, m1, d0, d1, hne, ⟨_, hd, ?_, fun u hu => ?_⟩, ?_, ?_⟩
 ·unfold zee
  simp only [List.length_append,List.length_take,List.length_drop,List.length_cons,List.length_nil]
  omega
 ·by_cases e : u = t
  ·subst e
   refine ⟨.slice (some ⟨bn, 0, none⟩) 1 1, ?_, ?_⟩
   ·unfold zee
    rw [List.append_assoc, List.getElem?_append_right (by rw [List.length_take]; omega), List.length_take, show u - min u nil241.length = 0 by omega]
    rfl
   ·simp only [exTo,if_true]
    exact ⟨fun h => by simp at h, fun _ => ⟨bn, 1, rfl, by simp, hb, .inl trivial⟩⟩
  ·refine ⟨.slice none 0 0, ?_, ?_⟩
   ·unfold zee
    simp only [List.length_cons,List.length_nil]
    by_cases hlt : u < t
    ·rw [List.append_assoc, List.getElem?_append_left (by rw [List.length_take]; omega), List.getElem?_take, if_pos hlt]; exact nil241_get hu
    ·rw [List.getElem?_append_right (by rw [List.length_append, List.length_take]; simp; omega), List.getElem?_drop, List.length_append, List.length_take]
     simp only [List.length_cons,List.length_nil]
     rw [show t + (0 + 1) + (u - (min t nil241.length + (0 + 1))) = u by omega]; exact nil241_get hu
   ·have hne : ¬ ((u : Int) = (t : Int)) := by omega
    simp only [exTo,if_neg e,if_neg hne]
    exact ⟨fun _ => rfl, fun h => absurd rfl h⟩
 ·intro u u' hu hu' hne b hb hb'
  split at hb
  ·split at hb'
   ·omega
   ·simp at hb'
  ·simp at hb
 ·intro u hu b hb
  split at hb
  ·simp only [List.mem_singleton] at hb
   subst hb
   exact ⟨n0, n1, nm, nd⟩
  ·simp at hb
theorem retD_mk {rs : List ResultVar} {R : Value → AHeap → Prop} {n : Nat} {e : VT} {ds : List Nat} {v : Value} (h1 : ∀ k ∈ ds, L ≤ k) (h2 : L ≤ H.size) (h3 : atake ds H = some H') (h4 : resV T n e H' rs = some v) (h5 : R v H') : retD T L rs R .ret ⟨n, e, H, ds⟩ := ⟨h1, h2, H', h3, v, h4, h5⟩
structure Bg (H : AHeap) (l : List Str) (C w ld : Int) (a : Option Addr) (cap : Nat) (sv : Value) (fr at₀ : Int) (e : VT) (H' : AHeap) (j : Nat) : Prop where
 g1 : gt 110 e 1 = .int .i64 fr
 g2 : gt 110 e 2 = .int .i64 at₀
 g4 : gt 110 e 4 = .pointer (some ⟨H.size, 0, none⟩)
 g7 : gt 110 e 7 = .pointer (some ⟨H.size + 1, 0, none⟩)
 fr : Fr H H'
 sz : H'.size = H.size + j
 b4 : H'.get H.size = .rw [.int .i64 C, .slice a l.length cap, .int .i64 w, .int .i64 ld, .int .i64 (-1)] 124 false []
 b7 : H'.get (H.size + 1) = .rw [sv] 52 false []
set_option maxHeartbeats 4000000 in
set_option maxRecDepth 10000 in
theorem c120 {fr at₀ : Int} (X : ExC H l C w ld a cap sv bt dn S) (hS : StS l (nxt dn) (fr, 0) S) (h0 : 0 ≤ at₀ ∧ at₀ ≤ 240) (hL : L ≤ H.size) {M : Nat} (hM : 4000 ≤ M)
  (hq : ∀ km H', Fr H H' → H.size ≤ km → km < H'.size → MpB (H'.get km) (exTo l w ld (nxt dn) (fr, 0) at₀ 241).F → Q false (.map (some km)) H') :
  resK (acall tabA (aexec tabA Try.prog M) 120 [jobG C a l.length cap w ld (-1), .int .i64 fr, .int .i64 at₀, sv] H) L Q := by
 obtain ⟨N, rfl⟩ : ∃ N, M = N + 4000 := ⟨M - 4000, by omega⟩
 obtain ⟨t, rfl⟩ : ∃ t : Nat, at₀ = t := ⟨at₀.toNat, by omega⟩
 obtain ⟨v, H', m, h1, h2, km, rfl, f, k1, k2, k3⟩ : ∃ v H' m, acall tabA (aexec tabA Try.prog (N + 4000)) 120 [jobG C a l.length cap w ld (-1), .int .i64 fr, .int .i64 (t : Nat), sv] H = quietV v H H' m ∧ H.size ≤ m ∧ ∃ km, v = .map (some km) ∧ Fr H H' ∧ H.size ≤ km ∧ km < H'.size ∧ MpB (H'.get km) (exTo l w ld (nxt dn) (fr, 0) t 241).F := by
  refine call_anyD (k := 110) (rs := [.tmp 8]) rfl fn_120 rfl rfl rfl ?_
  simp only [jobG]
  refine W_seqI (fun e H' => Bg H l C w ld a cap sv fr t e H' 2) ?_ ?_
  ·simp (disch:=first|(simp only [yk,seval];done)|omega|(simp only [yz]<;>omega)|fail) only [↓yp,yq0,yq1,yq2,yq3,yq4,yl,ys0,ys1,seval,zed,zee,zfr,zhw,ysu,yrg,ysv,ysw,ysx,ysz,aenv_mapN]
   refine ⟨?_, ?_, ?_, ?_, by (repeat (first | exact Fr.refl _ | assumption | refine Fr.allocd ?_ _ | refine Fr.put ?_ (by first | omega | (simp only [yz] <;> omega)) _)), by (first | omega | (simp only [yz] <;> omega)), ?_, ?_⟩
   iterate 4 simp (disch:=first|(simp only [yk,seval];done)|omega|(simp only [yz]<;>omega)|fail) only [yg,seval]
   ·rw [zdb (by first|omega|(simp only [yz]<;>omega)), zda rfl]
   ·rw [zda (by first|omega|(simp only [yz]<;>omega)), X.cells]
  intro e1 H1 B1
  have sz1 := B1.sz
  refine W_seqI (fun e H' => Bg H l C w ld a cap sv fr t e H' 3 ∧ gt 110 e 9 = .pointer (some ⟨H.size + 1 + 1, 0, none⟩) ∧ H'.get (H.size + 1 + 1) = .rw [.int .i64 fr, .int .u64 0] 166 false []) ?_ ?_
  ·simp (disch:=first|(simp only [yk,seval];done)|omega|(simp only [yz]<;>omega)|fail) only [↓yp,yq0,yq1,yq2,yq3,yq4,yl,ys0,ys1,seval,zed,zee,zfr,zhw,ysu,yrg,ysv,ysw,ysx,ysz,B1.g1,A_build st_bdS_166]
   have f1 : Fr H1 ((H1.alloc (ABlk.rw [Value.int IntKind.i64 0, Value.int IntKind.u64 0] 166 false [])).put H1.size (ABlk.rw [Value.int IntKind.i64 fr, Value.int IntKind.u64 0] 166 false [])) := by (repeat (first | exact Fr.refl _ | assumption | refine Fr.allocd ?_ _ | refine Fr.put ?_ (by first | omega | (simp only [yz] <;> omega)) _))
   refine ⟨⟨?_, ?_, ?_, ?_, B1.fr.trans f1, by (first | omega | (simp only [yz] <;> omega)), ?_, ?_⟩, ?_, ?_⟩
   iterate 4 simp (disch:=first|(simp only [yk,seval];done)|omega|(simp only [yz]<;>omega)|fail) only [yg,seval,B1.g1,B1.g2,B1.g4,B1.g7]
   ·rw [f1.same _ (by omega)]; exact B1.b4
   ·rw [f1.same _ (by omega)]; exact B1.b7
   ·simp (disch:=first|(simp only [yk,seval];done)|omega|(simp only [yz]<;>omega)|fail) only [yg,seval,sz1]
   ·rw [show H.size + 1 + 1 = H1.size by omega, zdc (by first|omega|(simp only [yz]<;>omega))]
  clear B1 sz1
  clear e1 H1
  rintro e1 H1 ⟨B1, g9, b9⟩
  have sz1 := B1.sz
  refine W_seqI (fun e H' => Bg H l C w ld a cap sv fr t e H' 5 ∧ gt 110 e 9 = .pointer (some ⟨H.size + 1 + 1, 0, none⟩) ∧ H'.get (H.size + 1 + 1) = .rw [.int .i64 fr, .int .u64 0] 166 false [] ∧ gt 110 e 10 = .pointer (some ⟨H.size + 4, 0, none⟩) ∧ H'.get (H.size + 4) = .rw [.map (some (H.size + 3))] 163 false [] ∧ MpB (H'.get (H.size + 3)) [((fr, 0), ⟨t, 0, false, 0, 0⟩)]) ?_ ?_
  ·simp (disch:=first|(simp only [yk,seval];done)|omega|(simp only [yz]<;>omega)|fail) only [↓yp,yq0,yq1,yq2,yq3,yq4,yl,ys0,ys1,seval,zed,zee,zfr,zhw,ysu,yrg,ysv,ysw,ysx,ysz,A_make,g9,b9,B1.g2,A_build st_bdS_168]
   refine A_ins (k := H1.size) (s := (fr, 0)) (v := ⟨t, 0, false, 0, 0⟩) (F := []) ?_ ?_ ?_ ⟨[], 0, zda rfl, rfl⟩ (by omega) ?_
   ·simp (disch:=first|(simp only [yk,seval];done)|omega|(simp only [yz]<;>omega)|fail) only [yg,seval,zbs]
   ·simp (disch:=first|(simp only [yk,seval];done)|omega|(simp only [yz]<;>omega)|fail) only [yg,seval,zbs,kv]
   ·simp (disch:=first|(simp only [yk,seval];done)|omega|(simp only [yz]<;>omega)|fail) only [yg,seval,zbs,av]
   intro blk hblk
   have hsz : ((H1.alloc (.map [] 0)).put H1.size blk).size = H1.size + 1 := by rw [zdf, zde]
   have f1 : Fr H1 ((H1.alloc (.map [] 0)).put H1.size blk) := by (repeat (first | exact Fr.refl _ | assumption | refine Fr.allocd ?_ _ | refine Fr.put ?_ (by first | omega | (simp only [yz] <;> omega)) _))
   have hkm : ((H1.alloc (.map [] 0)).put H1.size blk).get H1.size = blk := zdc (by first|omega|(simp only [yz]<;>omega))
   obtain ⟨H2, e2⟩ : ∃ H2, (H1.alloc (.map [] 0)).put H1.size blk = H2 := ⟨_, rfl⟩
   rw [e2] at hsz f1 hkm ⊢
   clear e2
   simp (disch:=first|(simp only [yk,seval];done)|omega|(simp only [yz]<;>omega)|fail) only [↓yp,yq0,yq1,yq2,yq3,yq4,yl,ys0,ys1,seval,zed,zee,zfr,zhw,ysu,yrg,ysv,ysw,ysx,ysz,cells_map,one_map]
   have f2 : Fr H2 ((H2.alloc (ABlk.rw [Value.map none] 163 false [])).put H2.size (ABlk.rw [Value.map (some H1.size)] 163 false [])) := by (repeat (first | exact Fr.refl _ | assumption | refine Fr.allocd ?_ _ | refine Fr.put ?_ (by first | omega | (simp only [yz] <;> omega)) _))
   have f12 := f1.trans f2
   refine ⟨⟨?_, ?_, ?_, ?_, B1.fr.trans f12, by (first | omega | (simp only [yz] <;> omega)), ?_, ?_⟩, ?_, ?_, ?_, ?_, ?_⟩
   iterate 4 simp (disch:=first|(simp only [yk,seval];done)|omega|(simp only [yz]<;>omega)|fail) only [yg,seval,B1.g1,B1.g2,B1.g4,B1.g7]
   ·rw [f12.same _ (by omega)]; exact B1.b4
   ·rw [f12.same _ (by omega)]; exact B1.b7
   ·simp (disch:=first|(simp only [yk,seval];done)|omega|(simp only [yz]<;>omega)|fail) only [yg,seval,g9]
   ·rw [f12.same _ (by omega)]; exact b9
   ·simp (disch:=first|(simp only [yk,seval];done)|omega|(simp only [yz]<;>omega)|fail) only [yg,seval,hsz,sz1]
   ·rw [show H.size + 4 = H2.size by omega, zdc (by first|omega|(simp only [yz]<;>omega)), sz1]
   ·rw [show H.size + 3 = H1.size by omega, f2.same _ (by omega), hkm]; exact hblk
  clear B1 sz1 g9 b9
  clear e1 H1
  rintro e1 H1 ⟨B1, g9, b9, g10, b10, mp⟩
  have sz1 := B1.sz
  refine W_seqI (fun e H' => Bg H l C w ld a cap sv fr t e H' 6 ∧ gt 110 e 9 = .pointer (some ⟨H.size + 1 + 1, 0, none⟩) ∧ H'.get (H.size + 1 + 1) = .rw [.int .i64 fr, .int .u64 0] 166 false [] ∧ gt 110 e 10 = .pointer (some ⟨H.size + 4, 0, none⟩) ∧ H'.get (H.size + 4) = .rw [.map (some (H.size + 3))] 163 false [] ∧ MpB (H'.get (H.size + 3)) [((fr, 0), ⟨t, 0, false, 0, 0⟩)] ∧ gt 110 e 11 = .pointer (some ⟨H.size + 5, 0, none⟩) ∧ H'.get (H.size + 5) = .rw nil241 178 false []) ?_ ?_
  ·simp (disch:=first|(simp only [yk,seval];done)|omega|(simp only [yz]<;>omega)|fail) only [↓yp,yq0,yq1,yq2,yq3,yq4,yl,Nat.reduceAdd,Nat.reduceMul,Nat.reduceSub,Nat.reduceEqDiff,st_alS_178n]
   have f1 : Fr H1 (H1.alloc (ABlk.rw nil241 178 false [])) := by (repeat (first | exact Fr.refl _ | assumption | refine Fr.allocd ?_ _ | refine Fr.put ?_ (by first | omega | (simp only [yz] <;> omega)) _))
   refine ⟨rfl, rfl, ⟨?_, ?_, ?_, ?_, B1.fr.trans f1, by (first | omega | (simp only [yz] <;> omega)), ?_, ?_⟩, ?_, ?_, ?_, ?_, ?_, ?_, ?_⟩
   iterate 4 simp (disch:=first|(simp only [yk,seval];done)|omega|(simp only [yz]<;>omega)|fail) only [yg,seval,B1.g1,B1.g2,B1.g4,B1.g7]
   ·rw [f1.same _ (by omega)]; exact B1.b4
   ·rw [f1.same _ (by omega)]; exact B1.b7
   ·simp (disch:=first|(simp only [yk,seval];done)|omega|(simp only [yz]<;>omega)|fail) only [yg,seval,g9]
   ·rw [f1.same _ (by omega)]; exact b9
   ·simp (disch:=first|(simp only [yk,seval];done)|omega|(simp only [yz]<;>omega)|fail) only [yg,seval,g10]
   ·rw [f1.same _ (by omega)]; exact b10
   ·rw [f1.same _ (by omega)]; exact mp
   ·simp (disch:=first|(simp only [yk,seval];done)|omega|(simp only [yz]<;>omega)|fail) only [yg,seval,sz1]
   ·rw [show H.size + 5 = H1.size by omega, zda rfl]
  clear B1 sz1 g9 b9 g10 b10 mp
  clear e1 H1
  rintro e1 H1 ⟨B1, g9, b9, g10, b10, mp, g11, b11⟩
  have sz1 := B1.sz
  have hfit : decide (t + 1 ≤ nil241.length) = true := by rw [nil241_len]; simp; omega
  refine W_seqI (fun e H' => Bg H l C w ld a cap sv fr t e H' 7 ∧ gt 110 e 10 = .pointer (some ⟨H.size + 4, 0, none⟩) ∧ H'.get (H.size + 4) = .rw [.map (some (H.size + 3))] 163 false [] ∧ gt 110 e 11 = .pointer (some ⟨H.size + 5, 0, none⟩) ∧ EXr H.size t H' (H.size + 3) (H.size + 5) (exTo l w ld (nxt dn) (fr, 0) t 0) (fun u => if u = t then [H.size + 6] else [])) ?_ ?_
  ·simp (disch:=first|(simp only [yk,seval];done)|omega|(simp only [yz]<;>omega)|fail) only [↓yp,yq0,yq1,yq2,yq3,yq4,yl,ys0,ys1,seval,zed,zee,zfr,zhw,ysu,yrg,ysv,ysw,ysx,ysz,g9,b9,B1.g2,g11,b11,A_indexArr st_arS_178,A_buildSlice st_brS_177_1,hfit]
   obtain ⟨H2, e2⟩ : ∃ H2, (H1.alloc (ABlk.rw [Value.int IntKind.i64 fr, Value.int IntKind.u64 0] 166 false [])).put (H.size + 5) (ABlk.rw (zee t [.slice (some ⟨H1.size, 0, none⟩) 1 1] nil241) 178 false []) = H2 := ⟨_, rfl⟩
   have hsz : H2.size = H1.size + 1 := by rw [← e2, zdf, zde]
   have f0 : Fr H H2 := by rw [← e2]; exact Fr.put (B1.fr.trans (Fr.alloc _ _)) (by omega) _
   have old : ∀ q, q < H1.size → q ≠ H.size + 5 → H2.get q = H1.get q := fun q h1 h2 => by rw [← e2, zdd h2, zdb h1]
   have hd2 : H2.get (H.size + 5) = .rw (zee t [.slice (some ⟨H.size + 6, 0, none⟩) 1 1] nil241) 178 false [] := by rw [← e2, zdc (by first|omega|(simp only [yz]<;>omega)), sz1]
   have hb2 : H2.get (H.size + 6) = .rw [.int .i64 fr, .int .u64 0] 166 false [] := by rw [← e2, zdd (by omega), show H.size + 6 = H1.size by omega, zda rfl]
   show midN _ _ ((H1.alloc (ABlk.rw [Value.int IntKind.i64 fr, Value.int IntKind.u64 0] 166 false [])).put (H.size + 5) (ABlk.rw (zee t [.slice (some ⟨H1.size, 0, none⟩) 1 1] nil241) 178 false []))
   rw [e2]
   refine ⟨⟨?_, ?_, ?_, ?_, f0, by omega, ?_, ?_⟩, ?_, ?_, ?_, ?_⟩
   iterate 4 simp (disch:=first|(simp only [yk,seval];done)|omega|(simp only [yz]<;>omega)|fail) only [yg,seval,B1.g1,B1.g2,B1.g4,B1.g7]
   ·rw [old _ (by omega) (by omega)]; exact B1.b4
   ·rw [old _ (by omega) (by omega)]; exact B1.b7
   ·simp (disch:=first|(simp only [yk,seval];done)|omega|(simp only [yz]<;>omega)|fail) only [yg,seval,g10]
   ·rw [old _ (by omega) (by omega)]; exact b10
   ·simp (disch:=first|(simp only [yk,seval];done)|omega|(simp only [yz]<;>omega)|fail) only [yg,seval,g11]
   ·exact EXr.beg (by rw [old _ (by omega) (by omega)]; exact mp) (by omega) (by omega) (by omega) (by omega) (by omega) (by omega) (by omega) (by omega) (by omega) hd2 (by rw [hb2]; rfl) (by omega)
  clear B1 sz1 g9 b9 g10 b10 mp g11 b11 hfit
  clear e1 H1
  rintro e1 H1 ⟨B1, g10, b10, g11, E1⟩
  have sz1 := B1.sz
  have g4 := B1.g4
  have g7 := B1.g7
  have own0 : ∀ q, q < H.size + 6 → ∀ u < 241, q ∉ (fun u => if u = t then [H.size + 6] else []) u := fun q hq u hu hm => by
   simp only at hm
   split at hm
   ·simp at hm; omega
   ·simp at hm
  have fr1 := B1.fr
  have bq4 := B1.b4
  have bq7 := B1.b7
  clear B1
  generalize (fun u => if u = t then [H.size + 6] else []) = own at E1 own0
  simp (disch:=first|(simp only [yk,seval];done)|omega|(simp only [yz]<;>omega)|fail) only [↓yp,yq0,yq1,yq2,yq3,yq4,yl,ys0,ys1,seval,zed,zee,zfr,zhw,ysu,yrg,ysv,ysw,ysx,ysz]
  refine W_whileD 0 2600 (fun q e' H'' ds' => ∃ k : Nat, q = 241 - k ∧ k ≤ 241 ∧ gt 110 e' 33 = .int .i64 (k : Nat) ∧ Keep 110 [4, 7, 10, 11] e1 e' ∧ ∃ own', EXr H.size t H'' (H.size + 3) (H.size + 5) (exTo l w ld (nxt dn) (fr, 0) t k) own' ∧ FrO H1 H'' (H.size + 3) (H.size + 5) own own' ∧ DsOk H1.size H'' (H.size + 3) (H.size + 5) own' ds')
   ?_ 241 241 ⟨0, rfl, by omega, by simp (disch:=first|(simp only [yk,seval];done)|omega|(simp only [yz]<;>omega)|fail) only [yg,seval] <;> rfl, by (with_reducible repeat first|refine Keep.put ?_ (by decide)|refine Keep.none ?_|assumption|exact Keep.refl _ _ _), own, E1, FrO.of (Fr.refl _), ⟨List.nodup_nil, fun q hq => by simp at hq⟩⟩ (by omega) (by omega)
  rintro M q e' H2 ds' - ⟨k, rfl, hk, g33, kk, own', E2, fe, hds⟩
  have szE := fe.size
  have f2 : Fr H H2 := E1.oldO fr1 fe
  have at2 : ∀ q, q = H.size ∨ q = H.size + 1 ∨ q = H.size + 4 → q < H2.size ∧ q ≠ H.size + 3 ∧ q ≠ H.size + 5 ∧ (∀ u < 241, q ∉ own' u) ∧ H2.get q = H1.get q := fun q hq => by
   have n0 := own0 q (by omega)
   exact ⟨by omega, by omega, by omega, fe.no (by omega) n0, fe.same q (by omega) (by omega) (by omega) n0⟩
  have b42 := (at2 _ (.inl rfl)).2.2.2.2.trans bq4
  have b72 := (at2 _ (.inr (.inl rfl))).2.2.2.2.trans bq7
  have b102 := (at2 _ (.inr (.inr rfl))).2.2.2.2.trans b10
  have q4 := (kk 4 (by simp)).trans g4
  have q7 := (kk 7 (by simp)).trans g7
  have q10 := (kk 10 (by simp)).trans g10
  have q11 := (kk 11 (by simp)).trans g11
  simp (disch:=first|(simp only [yk,seval];done)|omega|(simp only [yz]<;>omega)|fail) only [↓yp,yq0,yq1,yq2,yq3,yq4,yl,ys0,ys1,seval,zed,zee,zfr,zhw,ysu,yrg,ysv,ysw,ysx,ysz,g33]
  refine ⟨fun hA => ?_, fun hA => ?_⟩
  ·have hk' : k ≤ 240 := by have := of_decide_eq_true hA; omega
   have hw2 : w64 ((k : Int) + 1) = ((k + 1 : Nat) : Int) := by rw [w64_of (by omega)]; omega
   refine W_skipI (by omega) ?_
   rw [zag]
   refine W_endQ (c120m (own := own') (ds := ds') (lo := H1.size) (k4 := H.size) (k7 := H.size + 1) (k10 := H.size + 4) X hS h0 f2 E2 (exTo_ok X.g hS h0 k) ?_ ?_ ?_ ?_ ?_ b42 b72 b102 ?_ hds (by omega) hk' (Nat.le_refl _)) ?_
   ·simp (disch:=first|(simp only [yk,seval];done)|omega|(simp only [yz]<;>omega)|fail) only [yg,seval,q4]
   ·simp (disch:=first|(simp only [yk,seval];done)|omega|(simp only [yz]<;>omega)|fail) only [yg,seval,q7]
   ·simp (disch:=first|(simp only [yk,seval];done)|omega|(simp only [yz]<;>omega)|fail) only [yg,seval,q10]
   ·simp (disch:=first|(simp only [yk,seval];done)|omega|(simp only [yz]<;>omega)|fail) only [yg,seval,q11]
   ·simp (disch:=first|(simp only [yk,seval];done)|omega|(simp only [yz]<;>omega)|fail) only [yg,seval,g33]
   ·intro q hq
    have := at2 q hq
    exact ⟨this.1, this.2.1, this.2.2.1, this.2.2.2.1⟩
   rintro e9 H9 ds9 ⟨k9, own9, E9, fe9, hds9⟩
   have sz9 := fe9.size
   have c33 := (k9 33 (by simp))
   simp (disch:=first|(simp only [yk,seval];done)|omega|(simp only [yz]<;>omega)|fail) only [yg,seval] at c33
   rw [g33] at c33
   have kk9 : Keep 110 [4, 7, 10, 11] e1 e9 := Keep.trans kk (Keep.trans (show Keep 110 [4, 7, 10, 11] e' _ by (with_reducible repeat first|refine Keep.put ?_ (by decide)|refine Keep.none ?_|assumption|exact Keep.refl _ _ _)) (fun p hp => k9 p (by simp at hp ⊢; omega)))
   simp (disch:=first|(simp only [yk,seval];done)|omega|(simp only [yz]<;>omega)|fail) only [↓yp,yq0,yq1,yq2,yq3,yq4,yl,ys0,ys1,seval,zed,zee,zfr,zhw,ysu,yrg,ysv,ysw,ysx,ysz,c33,hw2]
   refine ⟨241 - (k + 1), by omega, k + 1, rfl, by omega, ?_, by (with_reducible repeat first|refine Keep.put ?_ (by decide)|refine Keep.none ?_|assumption|exact Keep.refl _ _ _), own9, E9, fe.trans fe9, hds9⟩
   simp (disch:=first|(simp only [yk,seval];done)|omega|(simp only [yz]<;>omega)|fail) only [yg,seval]
  ·have hk2 : k = 241 := by have := of_decide_eq_false hA; omega
   subst hk2
   simp (disch:=first|(simp only [yk,seval];done)|omega|(simp only [yz]<;>omega)|fail) only [↓yp,yq0,yq1,yq2,yq3,yq4,yl,ys0,ys1,seval,zed,zee,zfr,zhw,ysu,yrg,ysv,ysw,ysx,ysz,q10,b102]
   obtain ⟨H3, hat⟩ := atake_all ds' H2 hds.nd fun q hq => (hds.dd q hq).2.2.1
   have sz3 := atake_size hat
   refine retD_mk (H' := H3) (v := .map (some (H.size + 3))) (fun q hq => by have := (hds.dd q hq).1; omega) (by omega) hat ?_ ⟨_, rfl, ⟨by omega, fun q hq => ?_⟩, by omega, by omega, ?_⟩
   ·simp (disch:=first|(simp only [yk,seval];done)|omega|(simp only [yz]<;>omega)|fail) only [yg,seval,zcr]
   ·rw [atake_fr' hat (lo := H1.size) (fun p hp => (hds.dd p hp).1) q (by omega)]
    exact f2.same q hq
   ·rw [atake_ne hat _ (fun hm => (hds.dd _ hm).2.2.2.1 rfl)]
    exact E2.mp
 rw [h1]
 unfold quietV
 rw [show gr (.map (some km)) = false from rfl, Bool.and_false]
 exact ⟨by omega, hq km H' f k1 k2 k3⟩
end
end Go.Am
namespace Go.Am
open Go.Proofs
variable {T : Tab} {P : Program} {N L : Nat} {H : AHeap} {Q : Bool → Value → AHeap → Prop}
theorem c110n {v : Int} : acall tabA (aexec tabA Try.prog (N + 40)) 110 [.slice none 0 0, .int .i64 v] H = some (true, .int .i64 (-1), H, H.size) := by
 refine call_quiet (k := 19) (rs := [.tmp 4]) rfl fn_110 rfl rfl rfl ?_ rfl
 simp (disch := (first | (simp only [ne_eq,Nat.reduceEqDiff,not_false_eq_true,Nat.reduceLT]; done) | omega | (simp only [yz] <;> omega) | fail)) only [↓yp,yq0,yq1,yq2,yq3,yq4,yl,ys0,ys1,Nat.reduceAdd,Nat.reduceMul,Nat.reduceSub,Nat.reduceBEq,Nat.reduceEqDiff,Nat.reduceLT,Nat.reduceLeDiff,reduceIte,Int.reduceAdd,Int.reduceSub,Int.reduceMul,Int.reduceLT,Int.reduceLE,Int.reduceEq,Int.reduceToNat,Int.reduceNeg,zed,zee,zfr,zhw,ysu,yrg,ysv,ysw,ysx,ysz,lenV_slice zir]
 rw [W_loop]
 simp (disch := (first | (simp only [ne_eq,Nat.reduceEqDiff,not_false_eq_true,Nat.reduceLT]; done) | omega | (simp only [yz] <;> omega) | fail)) only [↓yp,yq0,yq1,yq2,yq3,yq4,yl,ys0,ys1,Nat.reduceAdd,Nat.reduceMul,Nat.reduceSub,Nat.reduceBEq,Nat.reduceEqDiff,Nat.reduceLT,Nat.reduceLeDiff,reduceIte,Int.reduceAdd,Int.reduceSub,Int.reduceMul,Int.reduceLT,Int.reduceLE,Int.reduceEq,Int.reduceToNat,Int.reduceNeg,zed,zee,zfr,zhw,ysu,yrg,ysv,ysw,ysx,ysz]
 rw [show decide ((0 : Int) < ((0 : Nat) : Int)) = false from rfl]
 simp (disch := (first | (simp only [ne_eq,Nat.reduceEqDiff,not_false_eq_true,Nat.reduceLT]; done) | omega | (simp only [yz] <;> omega) | fail)) only [↓yp,yq0,yq1,yq2,yq3,yq4,yl,ys0,ys1,Nat.reduceAdd,Nat.reduceMul,Nat.reduceSub,Nat.reduceBEq,Nat.reduceEqDiff,Nat.reduceLT,Nat.reduceLeDiff,reduceIte,Int.reduceAdd,Int.reduceSub,Int.reduceMul,Int.reduceLT,Int.reduceLE,Int.reduceEq,Int.reduceToNat,Int.reduceNeg,zed,zee,zfr,zhw,ysu,yrg,ysv,ysw,ysx,ysz]
theorem c132n {v : Int} : acall tabA (aexec tabA Try.prog (N + 100)) 132 [.slice none 0 0, .int .i64 v] H = some (true, .int .u64 0, H, H.size) := by
 refine call_quiet (k := 13) (rs := [.tmp 4]) rfl fn_132 rfl rfl rfl ?_ rfl
 simp (disch:=first|(simp only [yk,seval];done)|omega|(simp only [yz]<;>omega)|fail) only [↓yp,yq0,yq1,yq2,yq3,yq4,yl,ys0,ys1,seval,zed,zee,zfr,zhw,ysu,yrg,ysv,ysw,ysx,ysz,c110n]
theorem or00 {x y : Operand} : binV tabA Try.prog .or 142 x y (.int .u64 0) (.int .u64 0) = some (.int .u64 0) := nr rfl
def corS : List Stt := (List.range 8).map fun c : Nat => ((c : Int), 0)
theorem corS_iff {s : Stt} : s ∈ corS ↔ 0 ≤ s.1 ∧ s.1 ≤ 7 ∧ s.2 = 0 := by
 unfold corS
 rw [List.mem_map]
 constructor
 ·rintro ⟨c, hc, rfl⟩
  rw [List.mem_range] at hc
  refine ⟨by simp only; omega, by simp only; omega, rfl⟩
 ·rintro ⟨h1, h2, h3⟩
  refine ⟨s.1.toNat, by rw [List.mem_range]; omega, ?_⟩
  rw [Int.toNat_of_nonneg h1, ← h3]
def dn0 (d : Int) (_ : Nat) : Int := d
theorem exC0 {l : List Str} {C w ld : Int} {a : Option Addr} {cap : Nat} (hs : Sl H a l) (g : Good C l ld) (hl : l.length ≤ 18) : ExC H l C w ld a cap (.slice none 0 0) (fun _ => 0) dn0 corS :=
 ⟨hs, g, hl, fun _ _ _ _ _ => c132n, fun s hs i x y _ => by rw [(corS_iff.1 hs).2.2]; exact or00, by decide, rfl, by simp [sameV]⟩
theorem bo166 {s s' : Stt} : binOp .eql 166 (kv s) (kv s') = (Op.equal 166 (kv s) (kv s') >>= fun b => pure (.bool b)) := by
 unfold kv
 simp only [binOp]
theorem eqb166 {x y : Operand} {c d c' d' : Int} : pureRun Try.prog (do eqGuard .eql 166 x y (kv (c, d)) (kv (c', d')); binOp .eql 166 (kv (c, d)) (kv (c', d'))) = some (.bool (decide ((c, d) = (c', d')))) := by
 rw [pureRun_bind]
 rw [show pureRun Try.prog (eqGuard .eql 166 x y (kv (c, d)) (kv (c', d'))) = some () by kernel_rfl]
 rw [Option.bind_some, bo166, pureRun_bind, eqKv]
 rfl
theorem binV_kv {x y : Operand} {s s' : Stt} : binV tabA Try.prog .eql 166 x y (kv s) (kv s') = some (.bool (decide (s = s'))) := by
 obtain ⟨c, d⟩ := s
 obtain ⟨c', d'⟩ := s'
 unfold binV
 cases h : aEqV Try.prog .eql 166 (some (kv (c, d))) (some (kv (c', d'))) with
 | none =>
  rw [gr_kv, gr_kv, Bool.and_self, cond_true, eqb166]
  rfl
 | some v =>
  simp only [aEqV] at h
  cases h' : aEqD Try.prog 166 (kv (c, d)) (kv (c', d')) with
  | none => rw [h'] at h; cases h
  | some r =>
   rw [h'] at h
   cases h
   have h1 := (aEqD_run h' default).1
   have h2 := pureRun_run (eqKv (s := (c, d)) (s' := (c', d'))) default
   rw [h2] at h1
   cases h1
   rfl
end Go.Am
