import Derived.Test.YtbofjfjopeaefaaGreatT32
import Derived.Test.YtbofjfjopeaefaaGreatT33
import Derived.Test.YtbofjfjopeaefaaGreatT31
set_option linter.unusedSimpArgs false
set_option linter.unusedVariables false
namespace Go.Am.K
open Go.Proofs
variable {T : Tab} {P : Program} {N L : Nat} {H : AHeap} {Q : Bool → Value → AHeap → Prop}
set_option maxHeartbeats 1000000 in
theorem c16 {a a' : Option Addr} {cap cap' : Nat} {ps : List Pk} {gs : List Gd} {lots : Int} (hs : Rw pkE H a ps) (hgs : Rw gdE H a' gs) :
  acall tabA (aexec tabA Tryz.prog (N + 300)) 45 [.agg ⟨[.slice a ps.length cap, .slice a' gs.length cap', .int .i64 lots]⟩] H = some (true, .int .i64 (chkS ps gs lots), H, H.size) := by
 refine call_quiet (k := 42) (rs := [.tmp 2]) rfl fn_45 rfl rfl rfl ?_ rfl
 have h58 := fun (N : Nat) (H : AHeap) (n lo hi : Int) => c58 (N := N) (H := H) (n := n) (lo := lo) (hi := hi)
 have fr : Fr H (H.alloc (.rw [.slice a ps.length cap, .slice a' gs.length cap', .int .i64 lots] 25 false [])) := by (repeat (first | exact Fr.refl _ | assumption | refine Fr.allocd ?_ _ | refine Fr.put ?_ (by first | omega | (simp only [yz] <;> omega)) _))
 cases hA : wi (ps.length : Int) 1 4
 ·have e : chkS ps gs lots = 3 := by unfold chkS chk1; rw [hA]; rfl
  rw [e]
  simp (disch:=first|(simp only [yk,seval];done)|omega|(simp only [yz]<;>omega)|fail) only [↓yp,yA,ys0,ys1,seval,fitB,newC,endD,endR,lenV_slice st_esS_22,lenV_slice st_esS_23,h58,hA]
 cases hB : decide (4 < (gs.length : Int))
 rotate_left
 ·have e : chkS ps gs lots = 3 := by unfold chkS chk1; rw [hA, hB]; rfl
  rw [e]
  simp (disch:=first|(simp only [yk,seval];done)|omega|(simp only [yz]<;>omega)|fail) only [↓yp,yA,ys0,ys1,seval,fitB,newC,endD,endR,lenV_slice st_esS_22,lenV_slice st_esS_23,h58,hA,hB]
 have hl : ps.length ≤ 4 := by unfold wi at hA; simp at hA; omega
 have hgl : gs.length ≤ 4 := by simp at hB; omega
 have h59 := fun (N : Nat) => c59 (N := N) (cap := cap) (g := 115) (p := Pk.isB) (hs.fr fr) (by omega) fun N H' x _ => c60
 have h61 := fun (N : Nat) => c61 (N := N) (cap := cap') (g := 117) (p := Gd.isB) (hgs.fr fr) (by omega) fun N H' x _ => c62
 have h63 := fun (N : Nat) => c63 (N := N) (cap := cap') (hgs.fr fr) (by omega)
 have e0 : chkS ps gs lots = bif chk2 ps gs lots then 4 else bif ordB gs then bif ps.all fun p => !decide (p.hi < p.f) then 0 else 7 else 6 := by unfold chkS chk1; rw [hA, hB]; rfl
 rw [e0]
 cases hC : ps.all Pk.isB
 ·have e : chk2 ps gs lots = true := by unfold chk2; rw [hC]; rfl
  rw [e, cond_true]
  simp (disch:=first|(simp only [yk,seval];done)|omega|(simp only [yz]<;>omega)|fail) only [↓yp,yA,ys0,ys1,seval,fitB,newC,endD,endR,lenV_slice st_esS_22,lenV_slice st_esS_23,h58,h59,h61,hA,hB,hC]
 cases hD : gs.all Gd.isB
 ·have e : chk2 ps gs lots = true := by unfold chk2; rw [hC, hD]; rfl
  rw [e, cond_true]
  simp (disch:=first|(simp only [yk,seval];done)|omega|(simp only [yz]<;>omega)|fail) only [↓yp,yA,ys0,ys1,seval,fitB,newC,endD,endR,lenV_slice st_esS_22,lenV_slice st_esS_23,h58,h59,h61,hA,hB,hC,hD]
 cases hE : wi lots 0 3
 ·have e : chk2 ps gs lots = true := by unfold chk2; rw [hC, hD, hE]; rfl
  rw [e, cond_true]
  simp (disch:=first|(simp only [yk,seval];done)|omega|(simp only [yz]<;>omega)|fail) only [↓yp,yA,ys0,ys1,seval,fitB,newC,endD,endR,lenV_slice st_esS_22,lenV_slice st_esS_23,h58,h59,h61,hA,hB,hC,hD,hE]
 have e : chk2 ps gs lots = false := by unfold chk2; rw [hC, hD, hE]; rfl
 rw [e, cond_false]
 cases hF : ordB gs
 ·rw [cond_false]
  simp (disch:=first|(simp only [yk,seval];done)|omega|(simp only [yz]<;>omega)|fail) only [↓yp,yA,ys0,ys1,seval,fitB,newC,endD,endR,lenV_slice st_esS_22,lenV_slice st_esS_23,h58,h59,h61,h63,hA,hB,hC,hD,hE,hF]
 rw [cond_true]
 have h59' := fun (N : Nat) => c59 (N := N) (cap := cap) (g := 119) (p := fun p => !decide (p.hi < p.f)) (hs.fr fr) (by omega) fun N H' x hx => c64 (List.all_eq_true.1 hC x hx)
 cases hG : ps.all fun p => !decide (p.hi < p.f)
 ·rw [cond_false]
  simp (disch:=first|(simp only [yk,seval];done)|omega|(simp only [yz]<;>omega)|fail) only [↓yp,yA,ys0,ys1,seval,fitB,newC,endD,endR,lenV_slice st_esS_22,lenV_slice st_esS_23,h58,h59,h61,h63,h59',hA,hB,hC,hD,hE,hF,hG]
 ·rw [cond_true]
  simp (disch:=first|(simp only [yk,seval];done)|omega|(simp only [yz]<;>omega)|fail) only [↓yp,yA,ys0,ys1,seval,fitB,newC,endD,endR,lenV_slice st_esS_22,lenV_slice st_esS_23,h58,h59,h61,h63,h59',hA,hB,hC,hD,hE,hF,hG]
end Go.Am.K
namespace Go.Am.K
open Go.Proofs Go.Deep Go.RowKit Go.ChangeShapes Go.WideShapes Go.ChangeAt
variable {X : Type} {enc : TypeId × Value → X} {w : World} {base : Nat} {sp : Nat → Bool} {held : Bool} {n : Nat} {cs : List Value} {x : DataW X × List MemPlace}
theorem field_of {P : Program} {fs : Array Field} {xs : List (DataW X × List MemPlace)} (hlen : xs.length = fs.size) (hf : ∀ (i : Nat) (f : Field), fs[i]? = some f → DataW.trod enc P w base sp held n f.type ((cs.drop f.offset).take (P.cellsOf f.type)) = xs[i]?) (i : Nat) {f : Field} (hi : fs[i]? = some f) :
  ∃ y, DataW.trod enc P w base sp held n f.type ((cs.drop f.offset).take (P.cellsOf f.type)) = some y := by
 have hlt : i < fs.size := by
  rw [Array.getElem?_eq_some_iff] at hi
  exact hi.1
 exact ⟨xs[i]'(by omega), by rw [hf i f hi]; simp⟩
theorem cellsOf3 : Tryz.prog.cellsOf 3 = 1 := by kernel_rfl
theorem cellsOf87 : Tryz.prog.cellsOf 76 = 4 := by kernel_rfl
theorem cellsOf77 : Tryz.prog.cellsOf 78 = 2 := by kernel_rfl
theorem cellsOf25 : Tryz.prog.cellsOf 25 = 3 := by kernel_rfl
theorem cellTypes25 : Tryz.prog.cellTypes Tryz.prog.depth 25 = some [22, 23, 3] := by kernel_rfl
theorem read_int {c : Value} {y : DataW X × List MemPlace} (h : DataW.trod enc Tryz.prog w base sp held n 3 [c] = some y) : ∃ i, c = .int .i64 i := by
 obtain ⟨i, h1, _, h3⟩ := DataW.trod_int Tryz.underlying3 h
 exact ⟨i, by simpa using h1⟩
set_option maxRecDepth 10000 in
theorem read_pk (h : DataW.trod enc Tryz.prog w base sp held n 76 cs = some x) : ∃ p : Pk, cs = p.enc := by
 obtain ⟨xs, n, _, rfl, hl, hlen, hf⟩ := DataW.trod_struct Tryz.underlying76 h
 rw [cellsOf87] at hl
 match cs, hl with
 | [c0, c1, c2, c3], _ =>
  obtain ⟨y0, h0⟩ := field_of hlen hf 0 rfl
  obtain ⟨y1, h1⟩ := field_of hlen hf 1 rfl
  obtain ⟨y2, h2⟩ := field_of hlen hf 2 rfl
  obtain ⟨y3, h3⟩ := field_of hlen hf 3 rfl
  obtain ⟨i0, rfl⟩ := read_int (c := c0) (by simpa [cellsOf3] using h0)
  obtain ⟨i1, rfl⟩ := read_int (c := c1) (by simpa [cellsOf3] using h1)
  obtain ⟨i2, rfl⟩ := read_int (c := c2) (by simpa [cellsOf3] using h2)
  obtain ⟨i3, rfl⟩ := read_int (c := c3) (by simpa [cellsOf3] using h3)
  exact ⟨⟨i0, i1, i2, i3⟩, rfl⟩
set_option maxRecDepth 10000 in
theorem read_gd (h : DataW.trod enc Tryz.prog w base sp held n 78 cs = some x) : ∃ g : Gd, cs = g.enc := by
 obtain ⟨xs, n, _, rfl, hl, hlen, hf⟩ := DataW.trod_struct Tryz.underlying78 h
 rw [cellsOf77] at hl
 match cs, hl with
 | [c0, c1], _ =>
  obtain ⟨y0, h0⟩ := field_of hlen hf 0 rfl
  obtain ⟨y1, h1⟩ := field_of hlen hf 1 rfl
  obtain ⟨i0, rfl⟩ := read_int (c := c0) (by simpa [cellsOf3] using h0)
  obtain ⟨i1, rfl⟩ := read_int (c := c1) (by simpa [cellsOf3] using h1)
  exact ⟨⟨i0, i1⟩, rfl⟩
theorem gr_pk (p : Pk) : ∀ v ∈ p.enc, gr v = true := by
 intro v hv
 simp only [Pk.enc,List.mem_cons,List.not_mem_nil,or_false] at hv
 rcases hv with rfl | rfl | rfl | rfl <;> rfl
theorem gr_gd (g : Gd) : ∀ v ∈ g.enc, gr v = true := by
 intro v hv
 simp only [Gd.enc,List.mem_cons,List.not_mem_nil,or_false] at hv
 rcases hv with rfl | rfl <;> rfl
theorem fl_get {α : Type} {E : Enc α} (hz : 0 < E.z) : ∀ (l : List α) (i : Nat) (v : Value), (E.fl l)[i]? = some v → ∃ s, l[i / E.z]? = some s ∧ (E.f s)[i % E.z]? = some v
 | [], i, v, h => by
  have : (E.fl ([] : List α)) = [] := rfl
  rw [this] at h; simp at h
 | t :: l, i, v, h => by
  have e : E.fl (t :: l) = E.f t ++ E.fl l := rfl
  rw [e] at h
  by_cases hi : i < E.z
  ·refine ⟨t, by rw [Nat.div_eq_of_lt hi]; rfl, ?_⟩
   rw [Nat.mod_eq_of_lt hi]
   rwa [List.getElem?_append_left (by rw [E.len]; exact hi)] at h
  ·rw [List.getElem?_append_right (by rw [E.len]; omega), E.len] at h
   obtain ⟨s, h1, h2⟩ := fl_get hz l (i - E.z) v h
   refine ⟨s, ?_, ?_⟩
   ·rw [Nat.div_eq_sub_div hz (by omega)]
    simpa using h1
   ·rw [Nat.mod_eq_sub_mod (by omega)]; exact h2
structure RowsIn {α : Type} (E : Enc α) (W : World) (a : Option Addr) (len cap : Nat) (l : List α) : Prop where
 hlen : len = l.length
 hcap : cap < OPEN
 nl : a = none → cap = 0 ∧ l = []
 row : ∀ ad, a = some ad → ad.spot = none ∧ ad.block < W.heap.size ∧ ∀ i v, (E.fl l)[i]? = some v → gr v = true ∧ W.cell? ⟨ad.block, ad.off + i, none⟩ = some v
set_option maxRecDepth 100000 in
theorem rows_read {α : Type} [Inhabited α] {E : Enc α} {ty et : TypeId} {W : World} {v1 : Value} {y : DataW X × List MemPlace} (hu : Tryz.prog.underlying ty = some (.slice et)) (hz : Tryz.prog.cellsOf et = E.z) (hz0 : 0 < E.z)
  (hread : ∀ {n : Nat} {cs : List Value} {y : DataW X × List MemPlace}, DataW.trod enc Tryz.prog W 0 (fun _ => true) true n et cs = some y → ∃ s : α, cs = E.f s) (hgr : ∀ s : α, ∀ v ∈ E.f s, gr v = true)
  (hcell : Cell.okWide Tryz.prog W .any base ty v1) (h1 : DataW.trod enc Tryz.prog W 0 (fun _ => true) true n ty [v1] = some y) :
  ∃ (a : Option Addr) (len cap : Nat) (l : List α), v1 = .slice a len cap ∧ RowsIn E W a len cap l := by
 rcases open_slice hu h1 with ⟨hn, _⟩ | ⟨a, len, cap, m, n', D, Pl, hn, _, hle, hcap, hm, _, hx⟩
 ·obtain rfl : v1 = .slice none 0 0 := by simpa using hn
  exact ⟨none, 0, 0, [], rfl, rfl, by unfold OPEN; omega, fun _ => ⟨rfl, rfl⟩, fun ad h => by cases h⟩
 ·obtain rfl : v1 = .slice (some a) len cap := by simpa using hn
  unfold Cell.okWide at hcell
  rw [hu] at hcell
  simp only [Cell.ok,hu] at hcell
  obtain ⟨_, _, _, hsp, ⟨row, cells, hsh, _⟩⟩ := hcell
  have hb := shape_lt hsh
  have hm' : m = cap := by rw [hm]; rfl
  obtain ⟨S, hS⟩ := choose_lt (α := α) (p := fun i s => W.cells? 0 (a.add (i * E.z)) E.z = some (E.f s)) (n := len) (fun i hi => by
   obtain ⟨cs', k1, k2⟩ := hx i (by omega)
   rw [hz] at k1
   obtain ⟨s, rfl⟩ := hread k2
   exact ⟨s, k1⟩)
  have hget : ∀ i s, ((List.range len).map S)[i]? = some s → i < len ∧ s = S i := fun i s h => by
   rw [List.getElem?_map, Option.map_eq_some_iff] at h
   obtain ⟨j, hj, rfl⟩ := h
   have := List.getElem?_eq_some_iff.1 hj
   obtain ⟨q1, q2⟩ := this
   rw [List.getElem_range] at q2
   subst q2
   exact ⟨by simpa using q1, rfl⟩
  refine ⟨some a, len, cap, (List.range len).map S, rfl, by simp, ?_, (fun h => by cases h), ?_⟩
  ·unfold maxLen at hcap
   unfold OPEN
   omega
  ·intro ad had
   cases had
   refine ⟨hsp, hb, fun i v hi => ?_⟩
   obtain ⟨s, h1, h2⟩ := fl_get hz0 _ i v hi
   refine ⟨hgr s v (List.mem_of_getElem? h2), ?_⟩
   obtain ⟨k1, rfl⟩ := hget _ s h1
   obtain ⟨_, _, hc⟩ := World.cells?_some (hS _ k1)
   have := hc (i % E.z) (Nat.mod_lt _ hz0)
   rw [h2, add_add, add_off hsp] at this
   rw [← this]
   congr 2
   have := Nat.div_add_mod i E.z
   rw [Nat.mul_comm] at this
   omega
instance : Inhabited Pk := ⟨⟨0, 0, 0, 0⟩⟩
instance : Inhabited Gd := ⟨⟨0, 0⟩⟩
set_option maxRecDepth 100000 in
theorem store_read {W : World} {base : Nat} {v : Value} {d : DataW X} {p : List MemPlace} (hv : Value.okWide Tryz.prog W .any base 25 v) (h : DataW.Trod enc Tryz.prog W 0 (fun _ => true) true 25 v d p) :
  ∃ (a : Option Addr) (len cap : Nat) (ps : List Pk) (a' : Option Addr) (len' cap' : Nat) (gs : List Gd) (lots : Int), v = .agg ⟨[.slice a len cap, .slice a' len' cap', .int .i64 lots]⟩ ∧ RowsIn pkE W a len cap ps ∧ RowsIn gdE W a' len' cap' gs := by
 obtain ⟨v0, v1, v2, y0, y1, y2, n, rfl, _, _, h0, h1, h2⟩ := Joins.open_agg3 Tryz.underlying25 (by kernel_rfl) cellsOf25 hv h
 obtain ⟨lots, rfl⟩ := read_int h2
 have hcell : Cell.okWide Tryz.prog W .any base 22 v0 ∧ Cell.okWide Tryz.prog W .any base 23 v1 := by
  unfold Value.okWide at hv
  rw [Tryz.underlying25] at hv
  obtain ⟨cs, hcs, _, ts, hts, _, hrow⟩ := hv
  cases hcs
  rw [cellTypes25] at hts
  cases hts
  obtain ⟨u, hu, hc⟩ := hrow 0 v0 rfl
  cases hu
  obtain ⟨u, hu, hc'⟩ := hrow 1 v1 rfl
  cases hu
  exact ⟨hc, hc'⟩
 obtain ⟨a, len, cap, ps, rfl, r⟩ := rows_read (E := pkE) Tryz.underlying22 cellsOf87 (by decide) read_pk gr_pk hcell.1 h0
 obtain ⟨a', len', cap', gs, rfl, r'⟩ := rows_read (E := gdE) Tryz.underlying23 cellsOf77 (by decide) read_gd gr_gd hcell.2 h1
 exact ⟨a, len, cap, ps, a', len', cap', gs, lots, rfl, r, r'⟩
theorem RowsIn.rw {α : Type} {E : Enc α} {W : World} {a : Option Addr} {len cap : Nat} {l : List α} (t : RowsIn E W a len cap l) {H : AHeap} {k : Nat} (hk : k < H.size) (hg : H.get k = .ro (E.fl l)) : Rw E H (atK k a) l := by
 cases a with
 | none =>
  obtain ⟨_, rfl⟩ := t.nl rfl
  exact Rw.nil
 | some ad => exact Rw.of (r := []) hk (by rw [hg]; rfl) (by rw [List.append_nil])
theorem RowsIn.cells {α : Type} {E : Enc α} {W : World} {a : Option Addr} {len cap : Nat} {l : List α} (t : RowsIn E W a len cap l) : ∀ ad, a = some ad → ad.block < W.heap.size ∧ ∀ (i : Nat) (v : Value), (E.fl l)[i]? = some v → gr v = true ∧ W.cell? ⟨ad.block, ad.off + i, none⟩ = some v := fun ad h => (t.row ad h).2
theorem RowsIn.okv {α : Type} {E : Enc α} {W : World} {a : Option Addr} {len cap : Nat} {l : List α} (t : RowsIn E W a len cap l) {σ : Place} {k : Nat} (h : σ.at_ k = a.map fun ad => (ad.block, ad.off)) : Go.Am.okv σ (.slice (atK k a) l.length cap) := by
 cases a with
 | none =>
  have := t.hcap
  simpa [Go.Am.okv, atK] using this
 | some ad =>
  simp only [atK,Option.map_some,Go.Am.okv]
  exact ⟨trivial, by rw [h]; rfl, fun hc => absurd t.hcap (by omega)⟩
theorem RowsIn.ren {α : Type} {E : Enc α} {W : World} {a : Option Addr} {len cap : Nat} {l : List α} (t : RowsIn E W a len cap l) {σ : Place} {k : Nat} (h : σ.at_ k = a.map fun ad => (ad.block, ad.off)) : Go.Am.ren σ (.slice (atK k a) l.length cap) = .slice a l.length cap := by
 cases a with
 | none =>
  obtain ⟨rfl, rfl⟩ := t.nl rfl
  exact (gr_ok σ (v := .slice none 0 0) rfl).2
 | some ad =>
  obtain ⟨b, o, s⟩ := ad
  obtain ⟨hs, _, _⟩ := t.row _ rfl
  simp only at hs
  subst hs
  simp [Go.Am.ren, atK, Place.cap, t.hcap, Place.addr, h]
end Go.Am.K
namespace Go.Am.K
open Go.Proofs Go.Deep Go.RowKit Go.ChangeShapes Go.WideShapes Go.ChangeAt
variable {X : Type} {enc : TypeId × Value → X} {W : World} {base : Nat}
def nHeap : List (Option Addr × List Value) → AHeap
 | [] => ⟨0, .nil⟩
 | r :: rs => (nHeap rs).alloc (.ro r.2)
def nPlace (rs : List (Option Addr × List Value)) : Place := ⟨fun k => (rs.reverse[k]?).bind fun r => r.1.map fun a => (a.block, a.off), fun _ => 0⟩
theorem nHeap_size : ∀ {rs : List (Option Addr × List Value)}, (nHeap rs).size = rs.length
 | [] => rfl
 | r :: rs => by
  show ((nHeap rs).alloc _).size = _
  rw [size_alloc, nHeap_size, List.length_cons]
theorem nHeap_get : ∀ {rs : List (Option Addr × List Value)} {k : Nat} {r : Option Addr × List Value}, rs.reverse[k]? = some r → (nHeap rs).get k = .ro r.2
 | [], k, r, h => by simp at h
 | s :: rs, k, r, h => by
  rw [List.reverse_cons] at h
  show ((nHeap rs).alloc _).get k = _
  by_cases hk : k < rs.length
  ·rw [List.getElem?_append_left (by rw [List.length_reverse]; exact hk)] at h
   rw [get_alloc_lt (by rw [nHeap_size]; exact hk)]
   exact nHeap_get h
  ·have hlt := (List.getElem?_eq_some_iff.1 h).1
   rw [List.length_append, List.length_reverse] at hlt
   simp only [List.length_cons,List.length_nil] at hlt
   have : k = rs.length := by omega
   subst this
   rw [List.getElem?_append_right (by rw [List.length_reverse]; exact Nat.le_refl _), List.length_reverse, Nat.sub_self] at h
   simp only [List.getElem?_cons_zero,Option.some.injEq] at h
   subst h
   exact get_alloc_eq (by rw [nHeap_size])
theorem nRel {rs : List (Option Addr × List Value)} (hr : ∀ r ∈ rs, ∀ a, r.1 = some a → a.block < W.heap.size ∧ ∀ (i : Nat) (v : Value), r.2[i]? = some v → gr v = true ∧ W.cell? ⟨a.block, a.off + i, none⟩ = some v) : Rel (nPlace rs) (nHeap rs) W where
 lt k b' s h := by
  obtain ⟨r, h1, h2⟩ := Option.bind_eq_some_iff.1 h
  obtain ⟨a, ha, he⟩ := Option.map_eq_some_iff.1 h2
  cases he
  have hlt := (List.getElem?_eq_some_iff.1 h1).1
  rw [List.length_reverse] at hlt
  exact ⟨by rw [nHeap_size]; exact hlt, (hr r (List.mem_reverse.1 (List.mem_of_getElem? h1)) a ha).1⟩
 holds k b' s h := by
  obtain ⟨r, h1, h2⟩ := Option.bind_eq_some_iff.1 h
  obtain ⟨a, ha, he⟩ := Option.map_eq_some_iff.1 h2
  cases he
  rw [nHeap_get h1]
  intro i v hi
  obtain ⟨g1, g2⟩ := (hr r (List.mem_reverse.1 (List.mem_of_getElem? h1)) a ha).2 i v hi
  exact ⟨(gr_ok _ g1).1, by rw [(gr_ok _ g1).2]; exact g2⟩
 excl k k' b' s s' h h' hne al hal := by
  obtain ⟨r, h1, h2⟩ := Option.bind_eq_some_iff.1 h
  rw [nHeap_get h1] at hal
  cases hal
theorem cellsOf3' : Tryz.prog.cellsOf 3 = intE.z := by kernel_rfl
theorem read_int' {w : World} {sp : Nat → Bool} {held : Bool} {n : Nat} {cs : List Value} {y : DataW X × List MemPlace} (h : DataW.trod enc Tryz.prog w base sp held n 3 cs = some y) : ∃ s : Int, cs = intE.f s := by
 obtain ⟨i, h1, _, h3⟩ := DataW.trod_int Tryz.underlying3 h
 exact ⟨i, h1⟩
theorem gr_int (s : Int) : ∀ v ∈ intE.f s, gr v = true := by
 intro v hv
 have : v = .int .i64 s := by simpa [intE] using hv
 subst this
 rfl
set_option maxRecDepth 100000 in
theorem ints_read {v : Value} {d : DataW X} {p : List MemPlace} (hv : Value.okWide Tryz.prog W .any base 26 v) (h : DataW.Trod enc Tryz.prog W 0 (fun _ => true) true 26 v d p) :
  ∃ (a : Option Addr) (len cap : Nat) (l : List Int), v = .slice a len cap ∧ RowsIn intE W a len cap l := by
 obtain ⟨fuel, h⟩ := h
 have key : ∀ a len cap, v = .slice a len cap → ∃ (a : Option Addr) (len cap : Nat) (l : List Int), v = .slice a len cap ∧ RowsIn intE W a len cap l := by
  rintro a₀ len₀ cap₀ rfl
  refine rows_read (enc := enc) (base := base) (n := fuel) (y := (d, p)) (v1 := .slice a₀ len₀ cap₀) (E := intE) (ty := 26) (et := 3) Tryz.underlying26 cellsOf3' (by decide) read_int' gr_int ?_ h
  unfold Value.okWide at hv
  rw [Tryz.underlying26] at hv
  exact hv
 cases v with
 | slice a len cap => exact key _ _ _ rfl
 | _ =>
  exfalso
  unfold Value.okWide at hv
  rw [Tryz.underlying26] at hv
  simp [Cell.okWide, Cell.ok, Tryz.underlying26] at hv
end Go.Am.K
namespace Go.Am.K
open Go.Proofs
variable {T : Tab} {P : Program} {N L : Nat} {H : AHeap} {Q : Bool → Value → AHeap → Prop}
theorem st_apS_22 : apS tabA 22 = some (76, 4, 32) := by kernel_rfl
theorem st_apS_23 : apS tabA 23 = some (78, 2, 16) := by kernel_rfl
section
variable {a a' : Option Addr} {cap cap' : Nat} {ps : List Pk} {gs : List Gd} {lo : Value}
theorem c12 : acall tabA (aexec tabA Tryz.prog (N + 40)) 9 [.agg ⟨[.slice a ps.length cap, .slice a' gs.length cap', lo]⟩] H = some (true, .bool (decide (6 < (ps.length : Int)) || decide (6 < (gs.length : Int))), H, H.size) := by
 refine call_quiet (k := 13) (rs := [.tmp 2]) rfl fn_9 rfl rfl rfl ?_ rfl
 cases hA : decide (6 < (ps.length : Int))
 ·simp (disch:=first|(simp only [yk,seval];done)|omega|(simp only [yz]<;>omega)|fail) only [↓yp,yA,ys0,ys1,seval,fitB,newC,endD,endR,lenV_slice st_esS_22,lenV_slice st_esS_23,hA]
 ·simp (disch:=first|(simp only [yk,seval];done)|omega|(simp only [yz]<;>omega)|fail) only [↓yp,yA,ys0,ys1,seval,fitB,newC,endD,endR,lenV_slice st_esS_22,lenV_slice st_esS_23,hA]
theorem c56n : acall tabA (aexec tabA Tryz.prog (N + 60)) 60 [.slice a 0 cap] H = some (true, .slice none 0 0, H, H.size) := by
 refine call_quiet (k := 9) (rs := [.tmp 2]) rfl fn_60 rfl rfl rfl ?_ rfl
 simp (disch:=first|(simp only [yk,seval];done)|omega|(simp only [yz]<;>omega)|fail) only [↓yp,yA,ys0,ys1,seval,fitB,newC,endD,endR,lenV_slice st_esS_22,Int.natCast_zero]
theorem c56 (hs : Rw pkE H a ps) (hne : ps ≠ []) (hl : ps.length ≤ 65) (hL : L ≤ H.size) {M : Nat} (hM : 60 ≤ M)
  (hq : ∀ k cap' H', Fr H H' → H.size ≤ k → k < H'.size → H'.get k = .rw (pkE.fl ps) 76 true [] → Q false (.slice (some ⟨k, 0, none⟩) ps.length cap') H') : resK (acall tabA (aexec tabA Tryz.prog M) 60 [.slice a ps.length cap] H) L Q := by
 obtain ⟨N, rfl⟩ : ∃ N, M = N + 60 := ⟨M - 60, by omega⟩
 obtain ⟨b, o, c, rfl, -⟩ := hs.get hne
 refine call_fls (R := fun v H' => ∃ k cap', v = .slice (some ⟨k, 0, none⟩) ps.length cap' ∧ Fr H H' ∧ H.size ≤ k ∧ k < H'.size ∧ H'.get k = .rw (pkE.fl ps) 76 true []) (k := 9) (rs := [.tmp 2]) rfl fn_60 rfl rfl rfl hL ?_ ?_ ?_
 ·have hpos : 0 < ps.length := List.length_pos_iff.2 hne
  have h0 : decide ((ps.length : Int) = 0) = false := by simp; omega
  simp (disch:=first|(simp only [yk,seval];done)|omega|(simp only [yz]<;>omega)|fail) only [↓yp,yA,ys0,ys1,seval,fitB,newC,endD,endR,lenV_slice st_esS_22,h0,A_buildSlice st_brS_22_0]
  rw [apK_empty (H := _) (n := ps.length) st_apS_22 ((hs.fr (Fr.alloc _ _)).src hne) hpos (by omega) (by omega) (one_fl ps) (c₀ := []) (by simp (disch:=first|(simp only [yk,seval];done)|omega|(simp only [yz]<;>omega)|fail) only [yg,seval])]
  simp (disch:=first|(simp only [yk,seval];done)|omega|(simp only [yz]<;>omega)|fail) only [↓yp,yA,ys0,ys1,seval,fitB,newC,endD,endR]
  exact ⟨_, _, rfl, by (repeat (first | exact Fr.refl _ | assumption | refine Fr.allocd ?_ _ | refine Fr.put ?_ (by first | omega | (simp only [yz] <;> omega)) _)), by (first | omega | (simp only [yz] <;> omega)), by (first | omega | (simp only [yz] <;> omega)), by simp (disch:=first|(simp only [yk,seval];done)|omega|(simp only [yz]<;>omega)|fail) only [yg,seval]⟩
 ·rintro v H' ⟨k, cap', rfl, -⟩; rfl
 ·rintro v H' ⟨k, cap', rfl, h1, h2, h3, h4⟩
  exact hq _ _ _ h1 h2 h3 h4
theorem c57n : acall tabA (aexec tabA Tryz.prog (N + 60)) 61 [.slice a 0 cap] H = some (true, .slice none 0 0, H, H.size) := by
 refine call_quiet (k := 9) (rs := [.tmp 2]) rfl fn_61 rfl rfl rfl ?_ rfl
 simp (disch:=first|(simp only [yk,seval];done)|omega|(simp only [yz]<;>omega)|fail) only [↓yp,yA,ys0,ys1,seval,fitB,newC,endD,endR,lenV_slice st_esS_23,Int.natCast_zero]
theorem c57 (hs : Rw gdE H a gs) (hne : gs ≠ []) (hl : gs.length ≤ 65) (hL : L ≤ H.size) {M : Nat} (hM : 60 ≤ M)
  (hq : ∀ k cap' H', Fr H H' → H.size ≤ k → k < H'.size → H'.get k = .rw (gdE.fl gs) 78 true [] → Q false (.slice (some ⟨k, 0, none⟩) gs.length cap') H') : resK (acall tabA (aexec tabA Tryz.prog M) 61 [.slice a gs.length cap] H) L Q := by
 obtain ⟨N, rfl⟩ : ∃ N, M = N + 60 := ⟨M - 60, by omega⟩
 obtain ⟨b, o, c, rfl, -⟩ := hs.get hne
 refine call_fls (R := fun v H' => ∃ k cap', v = .slice (some ⟨k, 0, none⟩) gs.length cap' ∧ Fr H H' ∧ H.size ≤ k ∧ k < H'.size ∧ H'.get k = .rw (gdE.fl gs) 78 true []) (k := 9) (rs := [.tmp 2]) rfl fn_61 rfl rfl rfl hL ?_ ?_ ?_
 ·have hpos : 0 < gs.length := List.length_pos_iff.2 hne
  have h0 : decide ((gs.length : Int) = 0) = false := by simp; omega
  simp (disch:=first|(simp only [yk,seval];done)|omega|(simp only [yz]<;>omega)|fail) only [↓yp,yA,ys0,ys1,seval,fitB,newC,endD,endR,lenV_slice st_esS_23,h0,A_buildSlice st_brS_23_0]
  rw [apK_empty (H := _) (n := gs.length) st_apS_23 ((hs.fr (Fr.alloc _ _)).src hne) hpos (by omega) (by omega) (one_fl gs) (c₀ := []) (by simp (disch:=first|(simp only [yk,seval];done)|omega|(simp only [yz]<;>omega)|fail) only [yg,seval])]
  simp (disch:=first|(simp only [yk,seval];done)|omega|(simp only [yz]<;>omega)|fail) only [↓yp,yA,ys0,ys1,seval,fitB,newC,endD,endR]
  exact ⟨_, _, rfl, by (repeat (first | exact Fr.refl _ | assumption | refine Fr.allocd ?_ _ | refine Fr.put ?_ (by first | omega | (simp only [yz] <;> omega)) _)), by (first | omega | (simp only [yz] <;> omega)), by (first | omega | (simp only [yz] <;> omega)), by simp (disch:=first|(simp only [yk,seval];done)|omega|(simp only [yz]<;>omega)|fail) only [yg,seval]⟩
 ·rintro v H' ⟨k, cap', rfl, -⟩; rfl
 ·rintro v H' ⟨k, cap', rfl, h1, h2, h3, h4⟩
  exact hq _ _ _ h1 h2 h3 h4
end
end Go.Am.K
namespace Go.Am.K
open Go.Proofs
variable {T : Tab} {P : Program} {N L : Nat} {H : AHeap} {Q : Bool → Value → AHeap → Prop}
theorem prF87_0 {a b c d : Int} : pureRun Tryz.prog (Go.part 3 ⟨[.int .i64 a, .int .i64 b, .int .i64 c, .int .i64 d]⟩ 0) = some (.int .i64 a) := by kernel_rfl
theorem prF87_1 {a b c d : Int} : pureRun Tryz.prog (Go.part 3 ⟨[.int .i64 a, .int .i64 b, .int .i64 c, .int .i64 d]⟩ 1) = some (.int .i64 b) := by kernel_rfl
theorem prF87_2 {a b c d : Int} : pureRun Tryz.prog (Go.part 3 ⟨[.int .i64 a, .int .i64 b, .int .i64 c, .int .i64 d]⟩ 2) = some (.int .i64 c) := by kernel_rfl
theorem prF87_3 {a b c d : Int} : pureRun Tryz.prog (Go.part 3 ⟨[.int .i64 a, .int .i64 b, .int .i64 c, .int .i64 d]⟩ 3) = some (.int .i64 d) := by kernel_rfl
theorem prS87 : Tryz.prog.stoodInHeld 76 = false := by kernel_rfl
theorem prH87 : pureRun Tryz.prog (underlying 76) = some (.struct #[{ name := "Sacks", type := 3, offset := 0, embedded := false, tag := "", pkgPath := "", byteOffset := 0 }, { name := "Worst", type := 3, offset := 1, embedded := false, tag := "", pkgPath := "", byteOffset := 8 }, { name := "Opened", type := 3, offset := 2, embedded := false, tag := "", pkgPath := "", byteOffset := 16 }, { name := "Found", type := 3, offset := 3, embedded := false, tag := "", pkgPath := "", byteOffset := 24 }]) := by kernel_rfl
theorem eq87 {a b c d : Int} : pureRun Tryz.prog (Op.equal 76 (.agg ⟨[.int .i64 a, .int .i64 b, .int .i64 c, .int .i64 d]⟩) (.agg ⟨[.int .i64 a, .int .i64 b, .int .i64 c, .int .i64 d]⟩)) = some true := by
 show pureRun Tryz.prog (Op.equalIn (9998 + 1 + 1) 76 _ _) = _
 unfold Op.equalIn
 rw [pureRun_bind, prH87]
 simp only [Option.bind_some,pureRun_bind,prG,prS87,Bool.false_eq_true,if_false,List.forIn_toArray,List.forIn_cons,List.forIn_nil,ne_eq,prI,prF87_0,prF87_1,prF87_2,prF87_3,show ("Sacks" = "_") = False by simp,show ("Worst" = "_") = False by simp,show ("Opened" = "_") = False by simp,show ("Found" = "_") = False by simp,not_false_eq_true,if_true,beq_self_eq_true,Bool.not_true,prPure]
theorem eqb87 {x y : Operand} {a b c d : Int} : pureRun Tryz.prog (do eqGuard .neq 76 x y (.agg ⟨[.int .i64 a, .int .i64 b, .int .i64 c, .int .i64 d]⟩) (.agg ⟨[.int .i64 a, .int .i64 b, .int .i64 c, .int .i64 d]⟩); binOp .neq 76 (.agg ⟨[.int .i64 a, .int .i64 b, .int .i64 c, .int .i64 d]⟩) (.agg ⟨[.int .i64 a, .int .i64 b, .int .i64 c, .int .i64 d]⟩)) = some (.bool false) := by
 rw [pureRun_bind]
 rw [show pureRun Tryz.prog (eqGuard .neq 76 x y (.agg ⟨[.int .i64 a, .int .i64 b, .int .i64 c, .int .i64 d]⟩) (.agg ⟨[.int .i64 a, .int .i64 b, .int .i64 c, .int .i64 d]⟩)) = some () by kernel_rfl]
 rw [Option.bind_some, show binOp .neq 76 (.agg ⟨[.int .i64 a, .int .i64 b, .int .i64 c, .int .i64 d]⟩) (.agg ⟨[.int .i64 a, .int .i64 b, .int .i64 c, .int .i64 d]⟩) = (Op.equal 76 (.agg ⟨[.int .i64 a, .int .i64 b, .int .i64 c, .int .i64 d]⟩) (.agg ⟨[.int .i64 a, .int .i64 b, .int .i64 c, .int .i64 d]⟩) >>= fun b => pure (.bool !b)) by simp only [binOp], pureRun_bind, eq87]
 rfl
theorem neq87 {x y : Operand} {a b c d : Int} : binV tabA Tryz.prog .neq 76 x y (.agg ⟨[.int .i64 a, .int .i64 b, .int .i64 c, .int .i64 d]⟩) (.agg ⟨[.int .i64 a, .int .i64 b, .int .i64 c, .int .i64 d]⟩) = some (.bool false) := by
 unfold binV
 cases h : aEqV Tryz.prog .neq 76 (some (.agg ⟨[.int .i64 a, .int .i64 b, .int .i64 c, .int .i64 d]⟩)) (some (.agg ⟨[.int .i64 a, .int .i64 b, .int .i64 c, .int .i64 d]⟩)) with
 | none =>
  rw [show gr (.agg ⟨[.int .i64 a, .int .i64 b, .int .i64 c, .int .i64 d]⟩) = true from rfl, Bool.and_self, cond_true, eqb87]
  rfl
 | some v =>
  simp only [aEqV] at h
  cases h' : aEqD Tryz.prog 76 (.agg ⟨[.int .i64 a, .int .i64 b, .int .i64 c, .int .i64 d]⟩) (.agg ⟨[.int .i64 a, .int .i64 b, .int .i64 c, .int .i64 d]⟩) with
  | none => rw [h'] at h; cases h
  | some r =>
   rw [h'] at h
   cases h
   have h1 := (aEqD_run h' default).1
   have h2 := pureRun_run (eq87 (a := a) (b := b) (c := c) (d := d)) default
   rw [h2] at h1
   cases h1
   rfl
theorem prF77_0 {a b : Int} : pureRun Tryz.prog (Go.part 3 ⟨[.int .i64 a, .int .i64 b]⟩ 0) = some (.int .i64 a) := by kernel_rfl
theorem prF77_1 {a b : Int} : pureRun Tryz.prog (Go.part 3 ⟨[.int .i64 a, .int .i64 b]⟩ 1) = some (.int .i64 b) := by kernel_rfl
theorem prS77 : Tryz.prog.stoodInHeld 78 = false := by kernel_rfl
theorem prH77 : pureRun Tryz.prog (underlying 78) = some (.struct #[{ name := "Foul", type := 3, offset := 0, embedded := false, tag := "", pkgPath := "", byteOffset := 0 }, { name := "Price", type := 3, offset := 1, embedded := false, tag := "", pkgPath := "", byteOffset := 8 }]) := by kernel_rfl
theorem eq77 {a b : Int} : pureRun Tryz.prog (Op.equal 78 (.agg ⟨[.int .i64 a, .int .i64 b]⟩) (.agg ⟨[.int .i64 a, .int .i64 b]⟩)) = some true := by
 show pureRun Tryz.prog (Op.equalIn (9998 + 1 + 1) 78 _ _) = _
 unfold Op.equalIn
 rw [pureRun_bind, prH77]
 simp only [Option.bind_some,pureRun_bind,prG,prS77,Bool.false_eq_true,if_false,List.forIn_toArray,List.forIn_cons,List.forIn_nil,ne_eq,prI,prF77_0,prF77_1,show ("Foul" = "_") = False by simp,show ("Price" = "_") = False by simp,not_false_eq_true,if_true,beq_self_eq_true,Bool.not_true,prPure]
theorem eqb77 {x y : Operand} {a b : Int} : pureRun Tryz.prog (do eqGuard .neq 78 x y (.agg ⟨[.int .i64 a, .int .i64 b]⟩) (.agg ⟨[.int .i64 a, .int .i64 b]⟩); binOp .neq 78 (.agg ⟨[.int .i64 a, .int .i64 b]⟩) (.agg ⟨[.int .i64 a, .int .i64 b]⟩)) = some (.bool false) := by
 rw [pureRun_bind]
 rw [show pureRun Tryz.prog (eqGuard .neq 78 x y (.agg ⟨[.int .i64 a, .int .i64 b]⟩) (.agg ⟨[.int .i64 a, .int .i64 b]⟩)) = some () by kernel_rfl]
 rw [Option.bind_some, show binOp .neq 78 (.agg ⟨[.int .i64 a, .int .i64 b]⟩) (.agg ⟨[.int .i64 a, .int .i64 b]⟩) = (Op.equal 78 (.agg ⟨[.int .i64 a, .int .i64 b]⟩) (.agg ⟨[.int .i64 a, .int .i64 b]⟩) >>= fun b => pure (.bool !b)) by simp only [binOp], pureRun_bind, eq77]
 rfl
theorem neq77 {x y : Operand} {a b : Int} : binV tabA Tryz.prog .neq 78 x y (.agg ⟨[.int .i64 a, .int .i64 b]⟩) (.agg ⟨[.int .i64 a, .int .i64 b]⟩) = some (.bool false) := by
 unfold binV
 cases h : aEqV Tryz.prog .neq 78 (some (.agg ⟨[.int .i64 a, .int .i64 b]⟩)) (some (.agg ⟨[.int .i64 a, .int .i64 b]⟩)) with
 | none =>
  rw [show gr (.agg ⟨[.int .i64 a, .int .i64 b]⟩) = true from rfl, Bool.and_self, cond_true, eqb77]
  rfl
 | some v =>
  simp only [aEqV] at h
  cases h' : aEqD Tryz.prog 78 (.agg ⟨[.int .i64 a, .int .i64 b]⟩) (.agg ⟨[.int .i64 a, .int .i64 b]⟩) with
  | none => rw [h'] at h; cases h
  | some r =>
   rw [h'] at h
   cases h
   have h1 := (aEqD_run h' default).1
   have h2 := pureRun_run (eq77 (a := a) (b := b)) default
   rw [h2] at h1
   cases h1
   rfl
section
variable {a a' : Option Addr} {cap cap' : Nat} {ps : List Pk} {gs : List Gd}
theorem c72 (hs : Rw pkE H a ps) (hs' : Rw pkE H a' ps) (hl : ps.length ≤ 65) : acall tabA (aexec tabA Tryz.prog (N + 150)) 79 [.slice a ps.length cap, .slice a' ps.length cap'] H = some (true, .bool true, H, H.size) := by
 refine call_quiet (k := 26) (rs := [.tmp 4]) rfl fn_79 rfl rfl rfl ?_ rfl
 have hll : decide ((ps.length : Int) = (ps.length : Int)) = true := by simp
 simp (disch:=first|(simp only [yk,seval];done)|omega|(simp only [yz]<;>omega)|fail) only [↓yp,yA,ys0,ys1,seval,fitB,newC,endD,endR,lenV_slice st_esS_22,hll]
 refine W_while (n := 26) 70 (fun k e H' => ∃ i, k = ps.length - i ∧ i ≤ ps.length ∧ gt 26 e 14 = .int .i64 (i : Nat) ∧ gt 26 e 13 = .int .i64 ps.length ∧ gt 26 e 12 = .slice a ps.length cap ∧ gt 26 e 1 = .slice a' ps.length cap' ∧ Fr H H')
  ?_ 65 ps.length ⟨0, by omega, by omega, by simp (disch:=first|(simp only [yk,seval];done)|omega|(simp only [yz]<;>omega)|fail) only [yg,seval] <;> rfl, by simp (disch:=first|(simp only [yk,seval];done)|omega|(simp only [yz]<;>omega)|fail) only [yg,seval], by simp (disch:=first|(simp only [yk,seval];done)|omega|(simp only [yz]<;>omega)|fail) only [yg,seval], by simp (disch:=first|(simp only [yk,seval];done)|omega|(simp only [yz]<;>omega)|fail) only [yg,seval], Fr.refl _⟩ (by omega) (by omega)
 rintro M k e H' ⟨i, rfl, hi, g14, g13, g12, g1, fr⟩
 have f0 := fr.size
 have fs := fr.same
 simp (disch:=first|(simp only [yk,seval];done)|omega|(simp only [yz]<;>omega)|fail) only [↓yp,yA,ys0,ys1,seval,fitB,newC,endD,endR,g14,g13,g12,g1]
 refine ⟨fun hlt => ?_, fun hlt => ?_⟩
 ·have hi' : i < ps.length := by simpa using hlt
  obtain ⟨x, hx⟩ : ∃ x, ps[i]? = some x := ⟨ps[i], by simp [hi']⟩
  obtain ⟨b, o, c, rfl, hb, hc, hp⟩ := hs.at_ hx
  obtain ⟨b', o', c', rfl, hb', hc', hp'⟩ := hs'.at_ hx
  have q : part c (o + i * 4) (4 + 1) = some (.agg ⟨x.enc⟩) := part_of hp rfl
  have q' : part c' (o' + i * 4) (4 + 1) = some (.agg ⟨x.enc⟩) := part_of hp' rfl
  simp only [Pk.enc,Nat.reduceAdd] at q q'
  have hw2 : w64 ((i : Int) + 1) = ((i + 1 : Nat) : Int) := by rw [w64_of (by omega)]; omega
  simp (disch:=first|(simp only [yk,seval];done)|omega|(simp only [yz]<;>omega)|fail) only [↓yp,yA,ys0,ys1,seval,fitB,newC,endD,endR,g14,g13,g12,g1,fs,A_indexSlice st_esS_22,hc,q]
  refine W_draw [] rfl (by kernel_rfl) (by kernel_rfl) (by first|omega|(simp only [yz]<;>omega)) ?_
  simp (disch:=first|(simp only [yk,seval];done)|omega|(simp only [yz]<;>omega)|fail) only [↓yp,yA,ys0,ys1,seval,fitB,newC,endD,endR,g14,g13,g12,g1,fs,A_indexSlice st_esS_22,hc,q,hc',q',neq87,hw2]
  refine ⟨ps.length - (i + 1), by omega, i + 1, rfl, by omega, ?_, ?_, ?_, ?_, ?_⟩
  ·simp (disch:=first|(simp only [yk,seval];done)|omega|(simp only [yz]<;>omega)|fail) only [yg,seval]
  ·simp (disch:=first|(simp only [yk,seval];done)|omega|(simp only [yz]<;>omega)|fail) only [yg,seval,g13]
  ·simp (disch:=first|(simp only [yk,seval];done)|omega|(simp only [yz]<;>omega)|fail) only [yg,seval,g12]
  ·simp (disch:=first|(simp only [yk,seval];done)|omega|(simp only [yz]<;>omega)|fail) only [yg,seval,g1]
  ·exact (fr.allocd _).put (by omega) _
 ·simp (disch:=first|(simp only [yk,seval];done)|omega|(simp only [yz]<;>omega)|fail) only [↓yp,yA,ys0,ys1,seval,fitB,newC,endD,endR]
theorem c73 (hs : Rw gdE H a gs) (hs' : Rw gdE H a' gs) (hl : gs.length ≤ 65) : acall tabA (aexec tabA Tryz.prog (N + 150)) 80 [.slice a gs.length cap, .slice a' gs.length cap'] H = some (true, .bool true, H, H.size) := by
 refine call_quiet (k := 26) (rs := [.tmp 4]) rfl fn_80 rfl rfl rfl ?_ rfl
 have hll : decide ((gs.length : Int) = (gs.length : Int)) = true := by simp
 simp (disch:=first|(simp only [yk,seval];done)|omega|(simp only [yz]<;>omega)|fail) only [↓yp,yA,ys0,ys1,seval,fitB,newC,endD,endR,lenV_slice st_esS_23,hll]
 refine W_while (n := 26) 70 (fun k e H' => ∃ i, k = gs.length - i ∧ i ≤ gs.length ∧ gt 26 e 14 = .int .i64 (i : Nat) ∧ gt 26 e 13 = .int .i64 gs.length ∧ gt 26 e 12 = .slice a gs.length cap ∧ gt 26 e 1 = .slice a' gs.length cap' ∧ Fr H H')
  ?_ 65 gs.length ⟨0, by omega, by omega, by simp (disch:=first|(simp only [yk,seval];done)|omega|(simp only [yz]<;>omega)|fail) only [yg,seval] <;> rfl, by simp (disch:=first|(simp only [yk,seval];done)|omega|(simp only [yz]<;>omega)|fail) only [yg,seval], by simp (disch:=first|(simp only [yk,seval];done)|omega|(simp only [yz]<;>omega)|fail) only [yg,seval], by simp (disch:=first|(simp only [yk,seval];done)|omega|(simp only [yz]<;>omega)|fail) only [yg,seval], Fr.refl _⟩ (by omega) (by omega)
 rintro M k e H' ⟨i, rfl, hi, g14, g13, g12, g1, fr⟩
 have f0 := fr.size
 have fs := fr.same
 simp (disch:=first|(simp only [yk,seval];done)|omega|(simp only [yz]<;>omega)|fail) only [↓yp,yA,ys0,ys1,seval,fitB,newC,endD,endR,g14,g13,g12,g1]
 refine ⟨fun hlt => ?_, fun hlt => ?_⟩
 ·have hi' : i < gs.length := by simpa using hlt
  obtain ⟨x, hx⟩ : ∃ x, gs[i]? = some x := ⟨gs[i], by simp [hi']⟩
  obtain ⟨b, o, c, rfl, hb, hc, hp⟩ := hs.at_ hx
  obtain ⟨b', o', c', rfl, hb', hc', hp'⟩ := hs'.at_ hx
  have q : part c (o + i * 2) (2 + 1) = some (.agg ⟨x.enc⟩) := part_of hp rfl
  have q' : part c' (o' + i * 2) (2 + 1) = some (.agg ⟨x.enc⟩) := part_of hp' rfl
  simp only [Gd.enc,Nat.reduceAdd] at q q'
  have hw2 : w64 ((i : Int) + 1) = ((i + 1 : Nat) : Int) := by rw [w64_of (by omega)]; omega
  simp (disch:=first|(simp only [yk,seval];done)|omega|(simp only [yz]<;>omega)|fail) only [↓yp,yA,ys0,ys1,seval,fitB,newC,endD,endR,g14,g13,g12,g1,fs,A_indexSlice st_esS_23,hc,q]
  refine W_draw [] rfl (by kernel_rfl) (by kernel_rfl) (by first|omega|(simp only [yz]<;>omega)) ?_
  simp (disch:=first|(simp only [yk,seval];done)|omega|(simp only [yz]<;>omega)|fail) only [↓yp,yA,ys0,ys1,seval,fitB,newC,endD,endR,g14,g13,g12,g1,fs,A_indexSlice st_esS_23,hc,q,hc',q',neq77,hw2]
  refine ⟨gs.length - (i + 1), by omega, i + 1, rfl, by omega, ?_, ?_, ?_, ?_, ?_⟩
  ·simp (disch:=first|(simp only [yk,seval];done)|omega|(simp only [yz]<;>omega)|fail) only [yg,seval]
  ·simp (disch:=first|(simp only [yk,seval];done)|omega|(simp only [yz]<;>omega)|fail) only [yg,seval,g13]
  ·simp (disch:=first|(simp only [yk,seval];done)|omega|(simp only [yz]<;>omega)|fail) only [yg,seval,g12]
  ·simp (disch:=first|(simp only [yk,seval];done)|omega|(simp only [yz]<;>omega)|fail) only [yg,seval,g1]
  ·exact (fr.allocd _).put (by omega) _
 ·simp (disch:=first|(simp only [yk,seval];done)|omega|(simp only [yz]<;>omega)|fail) only [↓yp,yA,ys0,ys1,seval,fitB,newC,endD,endR]
theorem c22 {b b' : Option Addr} {c1 c2 : Nat} {lots : Int} (hs : Rw pkE H a ps) (hs' : Rw pkE H a' ps) (hg : Rw gdE H b gs) (hg' : Rw gdE H b' gs) (hl : ps.length ≤ 65) (hgl : gs.length ≤ 65) :
  acall tabA (aexec tabA Tryz.prog (N + 250)) 23 [.agg ⟨[.slice a ps.length cap, .slice b gs.length c1, .int .i64 lots]⟩, .agg ⟨[.slice a' ps.length cap', .slice b' gs.length c2, .int .i64 lots]⟩] H = some (true, .bool true, H, H.size) := by
 refine call_quiet (k := 24) (rs := [.tmp 4]) rfl fn_23 rfl rfl rfl ?_ rfl
 have fr : Fr H ((H.alloc (.rw [.slice a ps.length cap, .slice b gs.length c1, .int .i64 lots] 25 false [])).alloc (.rw [.slice a' ps.length cap', .slice b' gs.length c2, .int .i64 lots] 25 false [])) := by (repeat (first | exact Fr.refl _ | assumption | refine Fr.allocd ?_ _ | refine Fr.put ?_ (by first | omega | (simp only [yz] <;> omega)) _))
 have h72 := fun (N : Nat) => c72 (N := N) (cap := cap) (cap' := cap') (hs.fr fr) (hs'.fr fr) hl
 have h73 := fun (N : Nat) => c73 (N := N) (cap := c1) (cap' := c2) (hg.fr fr) (hg'.fr fr) hgl
 have hee : decide (lots = lots) = true := by simp
 simp (disch:=first|(simp only [yk,seval];done)|omega|(simp only [yz]<;>omega)|fail) only [↓yp,yA,ys0,ys1,seval,fitB,newC,endD,endR,h72,h73,hee]
end
end Go.Am.K
