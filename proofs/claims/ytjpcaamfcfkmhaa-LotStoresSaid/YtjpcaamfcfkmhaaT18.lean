import Derived.Test.YtjpcaamfcfkmhaaT17
import Derived.Test.YtjpcaamfcfkmhaaT12
set_option linter.unusedSimpArgs false
set_option linter.unusedVariables false
namespace Go.Am
open Go.Proofs
variable {T : Tab} {P : Program} {N L : Nat} {H : AHeap} {Q : Bool → Value → AHeap → Prop}
def hasG (sz fl : Int) (g : Gd) : Bool := decide (0 < sz) && decide (100 * fl ≤ g.fo * sz)
theorem c121 {sz fl : Int} {g : Gd} (h1 : 0 ≤ sz ∧ sz ≤ 100) (h2 : 0 ≤ fl ∧ fl ≤ 100) (h3 : 0 ≤ g.fo ∧ g.fo ≤ 100) : acall tabA (aexec tabA Try.prog (N + 60)) 121 [.agg ⟨[.int .i64 sz, .int .i64 fl]⟩, .agg ⟨g.enc⟩] H = some (true, .bool (hasG sz fl g), H, H.size) := by
 refine call_quiet (k := 19) (rs := [.tmp 4]) rfl fn_121 rfl rfl rfl ?_ rfl
 have hm : 0 ≤ g.fo * sz ∧ g.fo * sz ≤ 10000 := ⟨Int.mul_nonneg h3.1 h1.1, by have := Int.mul_le_mul h3.2 h1.2 h1.1 (by omega : (0:Int) ≤ 100); omega⟩
 have w1 : w64 (100 * fl) = 100 * fl := w64_of (by omega)
 have w2 : w64 (g.fo * sz) = g.fo * sz := w64_of (by omega)
 unfold hasG
 cases hA : decide (0 < sz)
 ·simp (disch:=first|(simp only [yk,seval];done)|omega|(simp only [yz]<;>omega)|fail) only [↓yp,yq0,yq1,yq2,yq3,yq4,yl,ys0,ys1,seval,fitB,newC,endD,endR,Gd.enc,hA]
 ·simp (disch:=first|(simp only [yk,seval];done)|omega|(simp only [yz]<;>omega)|fail) only [↓yp,yq0,yq1,yq2,yq3,yq4,yl,ys0,ys1,seval,fitB,newC,endD,endR,Gd.enc,hA,w1,w2]
def fstI (p : Gd → Bool) : List Gd → Nat → Int
 | [], _ => -1
 | g :: l, k => bif p g then (k : Int) else fstI p l (k + 1)
theorem fstI_drop {p : Gd → Bool} {gs : List Gd} {i : Nat} {x : Gd} (h : gs[i]? = some x) : fstI p (gs.drop i) i = bif p x then (i : Int) else fstI p (gs.drop (i + 1)) (i + 1) := by
 obtain ⟨hi, hx⟩ := List.getElem?_eq_some_iff.1 h
 rw [List.drop_eq_getElem_cons hi, hx]; rfl
theorem c119 {a : Option Addr} {cap g : Nat} {gs : List Gd} {bd : List Value} {p : Gd → Bool} (hs : Rw gdE H a gs) (hl : gs.length ≤ 8) (hp : ∀ (N : Nat) (H' : AHeap) (x : Gd), x ∈ gs → acall tabA (aexec tabA Try.prog (N + 60)) g (bd ++ [.agg ⟨x.enc⟩]) H' = some (true, .bool (p x), H', H'.size)) :
  acall tabA (aexec tabA Try.prog (N + 170)) 119 [.slice a gs.length cap, .func (.func g) ⟨bd⟩ ⟨[]⟩] H = some (true, .int .i64 (fstI p gs 0), H, H.size) := by
 refine call_quiet (k := 19) (rs := [.tmp 4]) rfl fn_119 rfl rfl rfl ?_ rfl
 simp (disch:=first|(simp only [yk,seval];done)|omega|(simp only [yz]<;>omega)|fail) only [↓yp,yq0,yq1,yq2,yq3,yq4,yl,ys0,ys1,seval,fitB,newC,endD,endR,lenV_slice st_esS_23]
 refine W_while (n := 19) 70 (fun k e H' => ∃ i, k = gs.length - i ∧ i ≤ gs.length ∧ gt 19 e 8 = .int .i64 (i : Nat) ∧ gt 19 e 7 = .int .i64 gs.length ∧ gt 19 e 0 = .slice a gs.length cap ∧ gt 19 e 1 = .func (.func g) ⟨bd⟩ ⟨[]⟩ ∧ H' = H ∧ fstI p gs 0 = fstI p (gs.drop i) i)
  ?_ 8 gs.length ⟨0, by omega, by omega, by simp (disch:=first|(simp only [yk,seval];done)|omega|(simp only [yz]<;>omega)|fail) only [yg,seval] <;> rfl, by simp (disch:=first|(simp only [yk,seval];done)|omega|(simp only [yz]<;>omega)|fail) only [yg,seval], by simp (disch:=first|(simp only [yk,seval];done)|omega|(simp only [yz]<;>omega)|fail) only [yg,seval], by simp (disch:=first|(simp only [yk,seval];done)|omega|(simp only [yz]<;>omega)|fail) only [yg,seval], rfl, by simp⟩ (by omega) (by omega)
 rintro M k e H' ⟨i, rfl, hi, g8, g7, g0, g1, rfl, hj⟩
 simp (disch:=first|(simp only [yk,seval];done)|omega|(simp only [yz]<;>omega)|fail) only [↓yp,yq0,yq1,yq2,yq3,yq4,yl,ys0,ys1,seval,fitB,newC,endD,endR,g8,g7]
 refine ⟨fun hlt => ?_, fun hlt => ?_⟩
 ·have hi' : i < gs.length := by simpa using hlt
  obtain ⟨x, hx⟩ : ∃ x, gs[i]? = some x := ⟨gs[i], by simp [hi']⟩
  obtain ⟨b, o, c, rfl, hb, hc, hq⟩ := hs.at_ hx
  have q : part c (o + i * 2) 3 = some (.agg ⟨x.enc⟩) := part_of hq rfl
  have hpx := fun (N : Nat) => hp N H' x (List.mem_of_getElem? hx)
  rw [fstI_drop hx] at hj
  simp (disch:=first|(simp only [yk,seval];done)|omega|(simp only [yz]<;>omega)|fail) only [↓yp,yq0,yq1,yq2,yq3,yq4,yl,ys0,ys1,seval,fitB,newC,endD,endR,g8,g7,g0,g1,A_indexSlice st_esS_23,hc,q,hpx]
  refine ⟨fun hA => ?_, fun hA => ?_⟩
  ·rw [hA] at hj
   have hj' : fstI p gs 0 = (i : Int) := hj
   simp (disch:=first|(simp only [yk,seval];done)|omega|(simp only [yz]<;>omega)|fail) only [↓yp,yq0,yq1,yq2,yq3,yq4,yl,ys0,ys1,seval,fitB,newC,endD,endR,hA,hj']
  ·rw [hA] at hj
   have hj' : fstI p gs 0 = fstI p (gs.drop (i + 1)) (i + 1) := hj
   have hw2 : w64 ((i : Int) + 1) = ((i + 1 : Nat) : Int) := by rw [w64_of (by omega)]; omega
   simp (disch:=first|(simp only [yk,seval];done)|omega|(simp only [yz]<;>omega)|fail) only [↓yp,yq0,yq1,yq2,yq3,yq4,yl,ys0,ys1,seval,fitB,newC,endD,endR,hA,g8,g7,g0,g1,hw2]
   refine ⟨gs.length - (i + 1), by omega, i + 1, rfl, by omega, ?_, ?_, ?_, ?_, rfl, hj'⟩
   ·simp (disch:=first|(simp only [yk,seval];done)|omega|(simp only [yz]<;>omega)|fail) only [yg,seval]
   ·simp (disch:=first|(simp only [yk,seval];done)|omega|(simp only [yz]<;>omega)|fail) only [yg,seval,g7]
   ·simp (disch:=first|(simp only [yk,seval];done)|omega|(simp only [yz]<;>omega)|fail) only [yg,seval,g0]
   ·simp (disch:=first|(simp only [yk,seval];done)|omega|(simp only [yz]<;>omega)|fail) only [yg,seval,g1]
 ·have hi' : i = gs.length := by
   have : ¬ ((i : Int) < gs.length) := by simpa using hlt
   omega
  subst hi'
  rw [List.drop_length] at hj
  simp (disch:=first|(simp only [yk,seval];done)|omega|(simp only [yz]<;>omega)|fail) only [↓yp,yq0,yq1,yq2,yq3,yq4,yl,ys0,ys1,seval,fitB,newC,endD,endR,hj,fstI]
def grd (ps : List Pk) (gs : List Gd) (m : List Int) : Gd :=
 match gs.find? (hasG (isum m) (isum (fo false ps m))) with
 | some g => g
 | none => ⟨0, 0⟩
theorem fstI_find {p : Gd → Bool} : ∀ {gs : List Gd} {k : Nat}, (fstI p gs k = -1 ∧ gs.find? p = none) ∨ ∃ i x, fstI p gs k = ((k + i : Nat) : Int) ∧ gs[i]? = some x ∧ gs.find? p = some x
 | [], k => .inl ⟨rfl, rfl⟩
 | g :: l, k => by
  unfold fstI
  cases hg : p g
  ·rw [List.find?_cons_of_neg (by rw [hg]; simp)]
   rcases fstI_find (p := p) (gs := l) (k := k + 1) with ⟨h, h'⟩ | ⟨i, x, h1, h2, h3⟩
   ·exact .inl ⟨h, h'⟩
   ·exact .inr ⟨i + 1, x, by rw [cond_false, h1]; omega, by simpa using h2, h3⟩
  ·exact .inr ⟨0, g, by simp, rfl, by rw [List.find?_cons_of_pos (by rw [hg])]⟩
structure Gd.Ok (g : Gd) : Prop where
 f : 0 ≤ g.fo ∧ g.fo ≤ 100
 p : 0 ≤ g.pr ∧ g.pr ≤ 100
theorem fo_sum {s : Bool} {ps : List Pk} {m : List Int} (hl : ps.length ≤ 4) (hk : ∀ p ∈ ps, p.Ok) (hm : m.length = 4) (hb : ∀ n ∈ m, 0 ≤ n ∧ n ≤ 6) : 0 ≤ isum (fo s ps m) ∧ isum (fo s ps m) ≤ 48 := by
 have h := isum_le (l := fo s ps m) (m := 12) fun x hx => fo_mem hk hb hx
 rw [fo_len (by omega)] at h
 omega
theorem m_sum {m : List Int} (hm : m.length = 4) (hb : ∀ n ∈ m, 0 ≤ n ∧ n ≤ 6) : 0 ≤ isum m ∧ isum m ≤ 24 := by
 have h := isum_le (l := m) (m := 6) hb
 omega
theorem tm_mf {f : Fn} {a b : List Operand} : tmpsOf (Op.operands (.makeFunc f a.toArray b.toArray)).toList = tmpsOf (a ++ b) := by simp [Op.operands]
set_option maxHeartbeats 1000000 in
theorem c92 {a a' : Option Addr} {cap cap' : Nat} {ps : List Pk} {gs : List Gd} {m : List Int} {lo mp : Value} (hs : Rw pkE H a ps) (hl : ps.length ≤ 4) (hk : ∀ p ∈ ps, p.Ok) (hgs : Rw gdE H a' gs) (hgl : gs.length ≤ 4) (hgk : ∀ g ∈ gs, g.Ok) (hm : m.length = 4) (hb : ∀ n ∈ m, 0 ≤ n ∧ n ≤ 6)
  (ho : sameV 5 lo lo = true) (hp : sameV 5 mp mp = true) :
  acall tabA (aexec tabA Try.prog (N + 600)) 92 [.agg ⟨[.slice a ps.length cap, .slice a' gs.length cap', lo, mp]⟩, .agg ⟨tv m⟩] H = some (true, .agg ⟨(grd ps gs m).enc⟩, H, H.size) := by
 refine call_quiet (k := 23) (rs := [.cell 4 77]) rfl fn_92 rfl rfl rfl ?_ rfl
 have hmp : part (tv m) 0 5 = some (.agg ⟨tv m⟩) := part_tv hm
 have hst := fun n => sl_tv (n := n) m
 simp (disch:=first|(simp only [yk,seval];done)|omega|(simp only [yz]<;>omega)|fail) only [↓yp,yq0,yq1,yq2,yq3,yq4,yl,ys0,ys1,seval,fitB,newC,endD,endR]
 have fr : Fr H (((H.alloc (.rw [.slice a ps.length cap, .slice a' gs.length cap', lo, mp] 124 false [])).alloc (.rw (tv m) 119 false [])).alloc (.rw [.int .i64 0, .int .i64 0] 77 false [])) := by (repeat (first | exact Fr.refl _ | assumption | refine Fr.allocd ?_ _ | refine Fr.put ?_ (by first | omega | (simp only [yz] <;> omega)) _))
 have h120 := fun (N : Nat) => c120 (N := N) (g := .slice a' gs.length cap') (lo := lo) (mp := mp) (cap := cap) (hs.fr fr) hl hk hm hb sv_slice ho hp
 have h119 := fun (N : Nat) => c119 (N := N) (cap := cap') (p := hasG (isum m) (isum (fo false ps m))) (g := 121) (bd := [.agg ⟨[.int .i64 (isum m), .int .i64 (isum (fo false ps m))]⟩]) (hgs.fr fr) (by omega) fun N H' x hx => c121 (by have := m_sum hm hb; omega) (by have := fo_sum (s := false) hl hk hm hb; omega) (hgk x hx).f
 refine W_draw [] rfl (by kernel_rfl) (by kernel_rfl) (by first|omega|(simp only [yz]<;>omega)) ?_
 simp (disch:=first|(simp only [yk,seval];done)|omega|(simp only [yz]<;>omega)|fail) only [↓yp,yq0,yq1,yq2,yq3,yq4,yl,ys0,ys1,seval,fitB,newC,endD,endR,hmp,h120,h119,hst,ho,hp,tm_mf]
 have h77 : part [Value.int .i64 0, Value.int .i64 0] 0 3 = some (.agg ⟨[.int .i64 0, .int .i64 0]⟩) := rfl
 rcases fstI_find (p := hasG (isum m) (isum (fo false ps m))) (gs := gs) (k := 0) with ⟨h1, h2⟩ | ⟨i, x, h1, h2, h3⟩
 ·have e : grd ps gs m = ⟨0, 0⟩ := by unfold grd; rw [h2]
  rw [h1, e]
  simp (disch:=first|(simp only [yk,seval];done)|omega|(simp only [yz]<;>omega)|fail) only [↓yp,yq0,yq1,yq2,yq3,yq4,yl,ys0,ys1,seval,fitB,newC,endD,endR,A_build st_bdS_77,Gd.enc]
 ·have e : grd ps gs m = x := by unfold grd; rw [h3]
  rw [h1, e, Nat.zero_add]
  have hi := (List.getElem?_eq_some_iff.1 h2).1
  obtain ⟨b, o, c, rfl, hb', hc, hq⟩ := hgs.at_ h2
  have q : part c (o + i * 2) 3 = some (.agg ⟨x.enc⟩) := part_of hq rfl
  have hge : decide (0 ≤ (i : Int)) = true := by simp
  simp only [Gd.enc] at q ⊢
  simp (disch:=first|(simp only [yk,seval];done)|omega|(simp only [yz]<;>omega)|fail) only [↓yp,yq0,yq1,yq2,yq3,yq4,yl,ys0,ys1,seval,fitB,newC,endD,endR,hge,A_indexSlice st_esS_23,hc,q]
end Go.Am
namespace Go.Am
variable {P : Program}
def inV (H : AHeap) : Value → Prop
 | .pointer (some a) => H.get a.block ≠ .dead
 | .slice (some a) _ _ => H.get a.block ≠ .dead
 | .map (some r) => H.get r ≠ .dead
 | .chan r => H.get (r.getD 0 / OPEN / OPEN / OPEN) ≠ .dead
 | .func fn first captured => (∀ l, fn = .yield l → H.get l ≠ .dead) ∧ (∀ v ∈ first, inV H v) ∧ (∀ v ∈ captured, inV H v)
 | .iface _ v => inV H v
 | .agg cs => ∀ v ∈ cs, inV H v
 | .tuple vs => ∀ v ∈ vs, inV H v
 | _ => True
noncomputable def Place.only (σ : Place) (H : AHeap) : Place := ⟨fun k => open Classical in if H.get k = .dead then none else σ.at_ k, σ.room⟩
section
variable {σ : Place} {H : AHeap}
theorem only_some {k : Nat} {p : Nat × Nat} (h : (σ.only H).at_ k = some p) : H.get k ≠ .dead ∧ σ.at_ k = some p := by
 unfold Place.only at h
 simp only at h
 split at h
 ·cases h
 ·rename_i h0; exact ⟨h0, h⟩
theorem only_at {k : Nat} (h : H.get k ≠ .dead) : (σ.only H).at_ k = σ.at_ k := by
 unfold Place.only
 simp only
 rw [if_neg h]
theorem only_agree : Agree (σ.only H) σ := fun k p h => ⟨(only_some h).2, rfl⟩
theorem okv_only : ∀ v, okv σ v → inV H v → okv (σ.only H) v
 | .pointer none => fun _ _ => by simp [okv]
 | .pointer (some a) => fun hv hi => by
  simp only [okv,inV] at hv hi ⊢
  rw [only_at hi]; exact hv
 | .slice none l c => fun hv _ => by
  simp only [okv] at hv ⊢
  exact hv
 | .slice (some a) l c => fun hv hi => by
  simp only [okv,inV] at hv hi ⊢
  rw [only_at hi]
  exact hv
 | .map none => fun _ _ => by simp [okv]
 | .map (some r) => fun hv hi => by
  simp only [okv,inV] at hv hi ⊢
  rw [only_at hi]; exact hv
 | .chan r => fun hv hi => by
  simp only [okv,inV] at hv hi ⊢
  rw [only_at hi]; exact hv
 | .func fn first captured => fun hv hi => by
  simp only [okv,inV] at hv hi ⊢
  obtain ⟨h1, h2, h3⟩ := hv
  obtain ⟨k1, k2, k3⟩ := hi
  refine ⟨?_, fun v hm => okv_only v (h2 v hm) (k2 v hm), fun v hm => okv_only v (h3 v hm) (k3 v hm)⟩
  cases fn <;> simp only [okfn] at h1 ⊢
  rename_i l
  rw [only_at (k1 l rfl)]; exact h1
 | .iface t v => fun hv hi => by
  simp only [okv,inV] at hv hi ⊢
  exact okv_only v hv hi
 | .agg cs => fun hv hi => by
  simp only [okv,inV] at hv hi ⊢
  exact fun v hm => okv_only v (hv v hm) (hi v hm)
 | .tuple cs => fun hv hi => by
  simp only [okv,inV] at hv hi ⊢
  exact fun v hm => okv_only v (hv v hm) (hi v hm)
 | .bool _ => fun _ _ => by simp [okv]
 | .int _ _ => fun _ _ => by simp [okv]
 | .float _ _ => fun _ _ => by simp [okv]
 | .complex _ _ _ => fun _ _ => by simp [okv]
 | .string _ => fun _ _ => by simp [okv]
 | .nilFunc => fun _ _ => by simp [okv]
 | .nilIface => fun _ _ => by simp [okv]
theorem only_ren {v : Value} (hv : okv σ v) (hi : inV H v) : ren (σ.only H) v = ren σ v := (only_agree.ren (okv_only v hv hi)).symm
theorem only_map {l : List Value} (hv : ∀ v ∈ l, okv σ v) (hi : ∀ v ∈ l, inV H v) : l.map (ren (σ.only H)) = l.map (ren σ) := List.map_congr_left fun v hm => only_ren (hv v hm) (hi v hm)
end
def inB (H : AHeap) : ABlk → Prop
 | .dead => True
 | .rw c _ _ al => (∀ v ∈ c, inV H v) ∧ ∀ j ∈ al, H.get j ≠ .dead
 | .map es _ => ∀ e ∈ es, inV H e.1 ∧ inV H e.2.1
 | _ => False
theorem Holds.only {σ : Place} {H : AHeap} {w : World} {room b s : Nat} {k : ABlk} (h : Holds σ w room b s k) (hi : inB H k) : Holds (σ.only H) w room b s k := by
 cases k with
 | dead => trivial
 | ro c => exact hi.elim
 | rw c e o al =>
  obtain ⟨h0, h1, rest, h2, h3, h4⟩ := h
  exact ⟨h0, fun v hv => okv_only v (h1 v hv) (hi.1 v hv), rest, by rw [h2, only_map h1 hi.1], h3, h4⟩
 | map es clock =>
  obtain ⟨h0, h1, h2⟩ := h
  refine ⟨h0, fun e he => ⟨okv_only _ (h1 e he).1 (hi e he).1, okv_only _ (h1 e he).2 (hi e he).2⟩, ?_⟩
  rw [h2]
  congr 3
  exact List.map_congr_left fun e he => by rw [only_ren (h1 e he).1 (hi e he).1, only_ren (h1 e he).2 (hi e he).2]
 | loop => exact hi.elim
 | defer => exact hi.elim
theorem inB_al {H : AHeap} {k : ABlk} (hi : inB H k) (hd : k ≠ .dead) : ∃ al, k.al = some al ∧ ∀ j ∈ al, H.get j ≠ .dead := by
 cases k with
 | dead => exact absurd rfl hd
 | ro c => exact hi.elim
 | rw c e o al => exact ⟨al, rfl, hi.2⟩
 | map es clock => exact ⟨[], rfl, fun j hj => by simp at hj⟩
 | loop => exact hi.elim
 | defer => exact hi.elim
theorem apart {σ : Place} {H H₀ : AHeap} {w : World} (r : Rel σ H₀ w) (hl : Less H H₀) (hb : ∀ k, inB H (H.get k)) {k k' b s s' : Nat} (hk : H.get k ≠ .dead) (hk' : H.get k' = .dead) (h : σ.at_ k = some (b, s)) (h' : σ.at_ k' = some (b, s')) : H₀.get k' = .dead := by
 have hne : k ≠ k' := fun e => by rw [e] at hk; exact hk hk'
 have he : H.get k = H₀.get k := (hl.2 k).resolve_right hk
 obtain ⟨al, h1, h2⟩ := inB_al (hb k) hk
 rw [he] at h1
 rcases r.excl k k' b s s' h h' hne al h1 with h3 | ⟨h3, _⟩
 ·exact h3
 ·exact absurd hk' (h2 k' h3)
theorem SCall.frame {f : FuncId} {args : List Value} {H H₀ H' H'' : AHeap} {v : Value} {m : Nat} (h : SCall P f args H v H' m) (hl : Less H H₀) (ha : ∀ x ∈ args, inV H x) (hb : ∀ k, inB H (H.get k))
  (hs : H''.size = H'.size) (hg1 : ∀ k, k < H.size → H.get k = .dead → H''.get k = H₀.get k) (hg2 : ∀ k, (k < H.size → H.get k ≠ .dead) → H''.get k = H'.get k) : SCall P f args H₀ v H'' m := by
 intro F n σ w hF hR hargs
 have hR1 : Rel (σ.only H) H w := by
  refine ⟨fun k b s hp => ?_, fun k b s hp => ?_, fun k k' b s s' hk hk' hne al hal => ?_⟩
  ·rw [hl.1]; exact hR.lt k b s (only_some hp).2
  ·obtain ⟨h0, h1⟩ := only_some hp
   have he : H.get k = H₀.get k := (hl.2 k).resolve_right h0
   have := hR.holds k b s h1
   rw [← he] at this
   exact this.only (hb k)
  ·obtain ⟨h0, h1⟩ := only_some hk
   obtain ⟨h2, h3⟩ := only_some hk'
   have he : H.get k = H₀.get k := (hl.2 k).resolve_right h0
   have he' : H.get k' = H₀.get k' := (hl.2 k').resolve_right h2
   rw [he] at hal
   rw [he']
   exact hR.excl k k' b s s' h1 h3 hne al hal
 have hmap : args.map (ren (σ.only H)) = args.map (ren σ) := only_map hargs ha
 have h1 := h F n (σ.only H) w hF hR1 fun x hx => okv_only x (hargs x hx) (ha x hx)
 rw [hmap] at h1
 refine h1.mono ?_
 rintro e w' ⟨τ, rfl, k1, k2, x⟩
 have hagr := x.agr hR1
 -- the old places, and the new ones
 let υ : Place := ⟨fun k => if k < H.size then σ.at_ k else τ.at_ k, fun k => if k < H.size then σ.room k else τ.room k⟩
 have υlt : ∀ k, k < H.size → υ.at_ k = σ.at_ k ∧ υ.room k = σ.room k := fun k hk => ⟨if_pos hk, if_pos hk⟩
 have υge : ∀ k, ¬ k < H.size → υ.at_ k = τ.at_ k ∧ υ.room k = τ.room k := fun k hk => ⟨if_neg hk, if_neg hk⟩
 have τυ : Agree τ υ := fun k p hp => by
  by_cases hk : k < H.size
  ·rw [(x.agree k hk).1] at hp
   obtain ⟨_, h3⟩ := only_some hp
   exact ⟨(υlt k hk).1.trans h3, (υlt k hk).2.trans ((x.agree k hk).2).symm⟩
  ·exact ⟨(υge k hk).1.trans hp, (υge k hk).2⟩
 have συ : Agree σ υ := fun k p hp => by
  obtain ⟨b, s⟩ := p
  have hk := (hR.lt k b s hp).1
  rw [← hl.1] at hk
  exact ⟨(υlt k hk).1.trans hp, (υlt k hk).2⟩
 -- blocks that are not there stay
 have hstay : ∀ k b s, H.get k = .dead → H₀.get k ≠ .dead → σ.at_ k = some (b, s) → w'.heap[b]? = w.heap[b]? := fun k b s hd h0 hp =>
  x.frame b (hR.lt k b s hp).2 fun k' s' _ hp' => by
   obtain ⟨h3, h4⟩ := only_some hp'
   exact h0 (apart hR hl hb h3 hd h4 hp)
 have hsize : H.size ≤ H'.size := x.hsize
 refine ⟨υ, by rw [τυ.ren k1], τυ.okv k1, ⟨fun k b s hp => ?_, fun k b s hp => ?_, fun k k' b s s' hk hk' hne al hal => ?_⟩, ⟨fun k hk => υlt k (by rw [hl.1]; exact hk), by rw [hs, ← hl.1]; exact hsize, x.wsize, x.os, x.tape, x.output, fun k hm hk => ?_, fun b hb' hn => x.frame b hb' fun k s hm hp => hn k s hm (only_some hp).2, fun k b s hk hp => ?_⟩⟩
 ·by_cases hk : k < H.size
  ·rw [(υlt k hk).1] at hp
   exact ⟨by rw [hs]; omega, Nat.lt_of_lt_of_le (hR.lt k b s hp).2 x.wsize⟩
  ·rw [(υge k hk).1] at hp
   rw [hs]; exact k2.lt k b s hp
 ·by_cases hk : k < H.size
  ·rw [(υlt k hk).1] at hp
   rw [(υlt k hk).2]
   by_cases hd : H.get k = .dead
   ·rw [hg1 k hk hd]
    by_cases h0 : H₀.get k = .dead
    ·rw [h0]; trivial
    ·exact (hR.holds k b s hp).agree συ (hstay k b s hd h0 hp)
   ·rw [hg2 k fun _ => hd]
    have hp' : τ.at_ k = some (b, s) := by rw [(x.agree k hk).1, only_at hd]; exact hp
    have := k2.holds k b s hp'
    rw [(x.agree k hk).2] at this
    exact this.agree τυ rfl
  ·rw [(υge k hk).1] at hp
   rw [(υge k hk).2, hg2 k fun h => absurd h hk]
   exact (k2.holds k b s hp).agree τυ rfl
 ·-- a block of the call, and one that is not there
  have mixed : ∀ q q' b s s', (q < H.size → H.get q ≠ .dead) → q' < H.size → H.get q' = .dead → υ.at_ q = some (b, s) → υ.at_ q' = some (b, s') → H₀.get q' = .dead := fun q q' b s s' hq hq1 hd hp hp' => by
   rw [(υlt q' hq1).1] at hp'
   by_cases hk : q < H.size
   ·rw [(υlt q hk).1] at hp
    exact apart hR hl hb (hq hk) hd hp hp'
   ·rw [(υge q hk).1] at hp
    rcases x.fresh q b s (by omega) hp with h3 | ⟨k0, s0, _, h4⟩
    ·have := (hR.lt q' b s' hp').2; omega
    ·obtain ⟨h5, h6⟩ := only_some h4
     exact apart hR hl hb h5 hd h6 hp'
  have back : ∀ q p, (q < H.size → H.get q ≠ .dead) → υ.at_ q = some p → τ.at_ q = some p := fun q p hq hp => by
   by_cases hk : q < H.size
   ·rw [(υlt q hk).1] at hp
    rw [(x.agree q hk).1, only_at (hq hk)]; exact hp
   ·rw [(υge q hk).1] at hp; exact hp
  by_cases hd : k < H.size ∧ H.get k = .dead
  ·obtain ⟨h3, h4⟩ := hd
   rw [hg1 k h3 h4] at hal
   by_cases hd' : k' < H.size ∧ H.get k' = .dead
   ·obtain ⟨h5, h6⟩ := hd'
    rw [(υlt k h3).1] at hk
    rw [(υlt k' h5).1] at hk'
    rw [hg1 k' h5 h6]
    exact hR.excl k k' b s s' hk hk' hne al hal
   ·have := mixed k' k b s' s (fun h5 h6 => hd' ⟨h5, h6⟩) h3 h4 hk' hk
    rw [this] at hal
    cases hal
  ·have hkk : k < H.size → H.get k ≠ .dead := fun h5 h6 => hd ⟨h5, h6⟩
   rw [hg2 k hkk] at hal
   by_cases hd' : k' < H.size ∧ H.get k' = .dead
   ·obtain ⟨h5, h6⟩ := hd'
    rw [hg1 k' h5 h6]
    exact .inl (mixed k k' b s s' hkk h5 h6 hk hk')
   ·have hkk' : k' < H.size → H.get k' ≠ .dead := fun h5 h6 => hd' ⟨h5, h6⟩
    rw [hg2 k' hkk']
    exact k2.excl k k' b s s' (back k _ hkk hk) (back k' _ hkk' hk') hne al hal
 ·by_cases hd : H.get k = .dead
  ·exact hg1 k (by rw [hl.1]; exact hk) hd
  ·rw [hg2 k fun _ => hd, x.keep k hm (by rw [hl.1]; exact hk)]
   exact (hl.2 k).resolve_right hd
 ·have hk' : ¬ k < H.size := by rw [hl.1]; omega
  rw [(υge k hk').1] at hp
  rcases x.fresh k b s (by omega) hp with h3 | ⟨k0, s0, h3, h4⟩
  ·exact .inl h3
  ·exact .inr ⟨k0, s0, h3, (only_some h4).2⟩
end Go.Am
namespace Go.Am
variable {T : Tab} {P : Program}
def keyL (l : List (Nat × ABlk)) (k : Nat) : Bool := l.any fun p => Nat.beq p.1 k
theorem keyL_iff {l : List (Nat × ABlk)} {k : Nat} : keyL l k = true ↔ ∃ p ∈ l, p.1 = k := by
 unfold keyL
 rw [List.any_eq_true]
 exact ⟨fun ⟨p, h1, h2⟩ => ⟨p, h1, Nat.eq_of_beq_eq_true h2⟩, fun ⟨p, h1, h2⟩ => ⟨p, h1, by rw [h2]; exact Nat.beq_refl k⟩⟩
def inVb (l : List (Nat × ABlk)) : Nat → Value → Bool
 | 0, _ => false
 | n + 1, v => match v with
  | .pointer (some a) => keyL l a.block
  | .slice (some a) _ _ => keyL l a.block
  | .map (some r) => keyL l r
  | .chan _ => false
  | .func fn first captured => (match fn with
   | .yield _ => false
   | _ => true) && (first.toList.all (inVb l n) && captured.toList.all (inVb l n))
  | .iface _ v => inVb l n v
  | .agg cs => cs.toList.all (inVb l n)
  | .tuple vs => vs.toList.all (inVb l n)
  | _ => true
def inBb (l : List (Nat × ABlk)) : ABlk → Bool
 | .rw c _ _ al => c.all (inVb l 6) && al.all (keyL l)
 | .map es _ => es.all fun e => inVb l 6 e.1 && inVb l 6 e.2.1
 | _ => false
def closedE (e : Loud) : Bool :=
 (e.l.all fun p => Nat.blt p.1 e.s && (inBb e.l p.2 && keyL e.l' p.1)) && (e.args.all (inVb e.l 6) && ((e.l'.all fun p => !Nat.blt p.1 e.s || keyL e.l p.1) && Nat.ble e.s e.s'))
theorem hp_alive {s : Nat} : ∀ {l : List (Nat × ABlk)} {k : Nat}, (∀ p ∈ l, p.2 ≠ .dead) → k < s → keyL l k = true → (hpOf s l).get k ≠ .dead
 | [], k, _, _, h => by cases h
 | p :: l, k, hd, hk, h => by
  rw [hpOf]
  by_cases e : k = p.1
  ·rw [e, AHeap.get_put_same _ _ (by rw [hpOf_size]; omega)]
   exact hd p (by simp)
  ·rw [AHeap.get_put_other _ _ e]
   refine hp_alive (fun q hq => hd q (List.mem_cons_of_mem _ hq)) hk ?_
   rw [keyL_iff] at h ⊢
   obtain ⟨q, h1, h2⟩ := h
   rcases List.mem_cons.1 h1 with rfl | h1
   ·exact absurd h2.symm e
   ·exact ⟨q, h1, h2⟩
theorem hp_dead {s : Nat} {l : List (Nat × ABlk)} {k : Nat} (h : keyL l k = false) : (hpOf s l).get k = .dead := by
 rcases hpOf_get s l k with e | ⟨p, h1, h2, _⟩
 ·exact e
 ·have : keyL l k = true := keyL_iff.2 ⟨p, h1, h2⟩
  rw [this] at h; cases h
theorem inVb_ok {s : Nat} {l : List (Nat × ABlk)} (hd : ∀ p ∈ l, p.2 ≠ .dead) (hs : ∀ p ∈ l, p.1 < s) : ∀ (n : Nat) (v : Value), inVb l n v = true → inV (hpOf s l) v := by
 have hk : ∀ k, keyL l k = true → (hpOf s l).get k ≠ .dead := fun k h => by
  obtain ⟨p, h1, h2⟩ := keyL_iff.1 h
  exact hp_alive hd (by rw [← h2]; exact hs p h1) h
 intro n
 induction n with
 | zero => intro v h; cases h
 | succ n ih =>
  intro v h
  cases v with
  | pointer a => cases a with
   | none => simp [inV]
   | some a => simp only [inV]; exact hk _ h
  | slice a x y => cases a with
   | none => simp [inV]
   | some a => simp only [inV]; exact hk _ h
  | map r => cases r with
   | none => simp [inV]
   | some r => simp only [inV]; exact hk _ h
  | chan r => cases h
  | func fn first captured =>
   simp only [inVb,Bool.and_eq_true,List.all_eq_true] at h
   obtain ⟨h1, h2, h3⟩ := h
   simp only [inV]
   refine ⟨fun l' e => (by rw [e] at h1; cases h1), fun v hv => ih v (h2 v (by simpa using hv)), fun v hv => ih v (h3 v (by simpa using hv))⟩
  | iface t v =>
   simp only [inV]
   exact ih v h
  | agg cs =>
   simp only [inVb,List.all_eq_true] at h
   simp only [inV]
   exact fun v hv => ih v (h v (by simpa using hv))
  | tuple cs =>
   simp only [inVb,List.all_eq_true] at h
   simp only [inV]
   exact fun v hv => ih v (h v (by simpa using hv))
  | bool _ => simp [inV]
  | int _ _ => simp [inV]
  | float _ _ => simp [inV]
  | complex _ _ _ => simp [inV]
  | string _ => simp [inV]
  | nilFunc => simp [inV]
  | nilIface => simp [inV]
theorem inBb_alive {l : List (Nat × ABlk)} {b : ABlk} (h : inBb l b = true) : b ≠ .dead := by
 intro e
 subst e
 cases h
def putL (H : AHeap) : List (Nat × ABlk) → AHeap
 | [] => H
 | p :: l => (putL H l).put p.1 p.2
theorem putL_size {H : AHeap} : ∀ l, (putL H l).size = H.size
 | [] => rfl
 | p :: l => by rw [putL, AHeap.size_put, putL_size l]
theorem putL_no {H : AHeap} {k : Nat} : ∀ {l : List (Nat × ABlk)}, keyL l k = false → (putL H l).get k = H.get k
 | [], _ => rfl
 | p :: l, h => by
  have h1 : k ≠ p.1 := fun e => by
   have : keyL (p :: l) k = true := keyL_iff.2 ⟨p, by simp, e.symm⟩
   rw [this] at h; cases h
  rw [putL, AHeap.get_put_other _ _ h1]
  refine putL_no ?_
  cases h2 : keyL l k with
  | false => rfl
  | true =>
   obtain ⟨q, h3, h4⟩ := keyL_iff.1 h2
   have : keyL (p :: l) k = true := keyL_iff.2 ⟨q, by simp [h3], h4⟩
   rw [this] at h; cases h
theorem putL_hp {H : AHeap} {s : Nat} (hs : H.size = s) {k : Nat} (hk : k < s) : ∀ {l : List (Nat × ABlk)}, keyL l k = true → (putL H l).get k = (hpOf s l).get k
 | [], h => by cases h
 | p :: l, h => by
  rw [putL, hpOf]
  by_cases e : k = p.1
  ·rw [e, AHeap.get_put_same _ _ (by rw [putL_size]; omega), AHeap.get_put_same _ _ (by rw [hpOf_size]; omega)]
  ·rw [AHeap.get_put_other _ _ e, AHeap.get_put_other _ _ e]
   refine putL_hp hs hk ?_
   rw [keyL_iff] at h ⊢
   obtain ⟨q, h1, h2⟩ := h
   rcases List.mem_cons.1 h1 with rfl | h1
   ·exact absurd h2.symm e
   ·exact ⟨q, h1, h2⟩
def allocN (H : AHeap) : Nat → AHeap
 | 0 => H
 | n + 1 => (allocN H n).alloc .dead
theorem allocN_size {H : AHeap} : ∀ n, (allocN H n).size = H.size + n
 | 0 => rfl
 | n + 1 => by rw [allocN, AHeap.size_alloc, allocN_size n]; omega
theorem allocN_old {H : AHeap} {k : Nat} (hk : k < H.size) : ∀ n, (allocN H n).get k = H.get k
 | 0 => rfl
 | n + 1 => by rw [allocN, AHeap.get_alloc_other _ _ (by rw [allocN_size]; omega), allocN_old hk n]
theorem allocN_new {H : AHeap} {k : Nat} (hk : H.size ≤ k) : ∀ n, (allocN H n).get k = .dead
 | 0 => AHeap.get_ge (by show ¬ k < H.size; omega)
 | n + 1 => by
  rw [allocN]
  by_cases e : k = (allocN H n).size
  ·rw [e, AHeap.get_alloc_same]
  ·rw [AHeap.get_alloc_other _ _ e, allocN_new hk n]
def mixH (H : AHeap) (s' : Nat) (l' : List (Nat × ABlk)) : AHeap := putL (allocN H (s' - H.size)) l'
def Loud.Ok2 (P : Program) (e : Loud) : Prop := e.Ok P ∧ closedE e = true
theorem Loud.framed {e : Loud} (h : e.Ok2 P) {H : AHeap} (hs : Nat.beq e.s H.size = true) (hl : lessL H e.l = true) : SCall P e.f e.args H e.v (mixH H e.s' e.l') e.m := by
 obtain ⟨⟨_, h1⟩, h2⟩ := h
 unfold closedE at h2
 simp only [Bool.and_eq_true,List.all_eq_true] at h2
 obtain ⟨c1, c2, c3, c4⟩ := h2
 have hd : ∀ p ∈ e.l, p.2 ≠ .dead := fun p hp => inBb_alive (c1 p hp).2.1
 have hlt : ∀ p ∈ e.l, p.1 < e.s := fun p hp => Nat.le_of_ble_eq_true (c1 p hp).1
 have hsz : e.s = H.size := Nat.eq_of_beq_eq_true hs
 have hss : e.s ≤ e.s' := Nat.le_of_ble_eq_true c4
 have hms : (allocN H (e.s' - H.size)).size = e.s' := by rw [allocN_size]; omega
 refine SCall.frame h1 (less_of hs hl) (fun x hx => inVb_ok hd hlt 6 x (c2 x hx)) (fun k => ?_) (by unfold mixH; rw [putL_size, hms, hpOf_size]) (fun k hk hdead => ?_) (fun k hk => ?_)
 ·rcases hpOf_get e.s e.l k with h3 | ⟨p, h3, _, h5⟩
  ·rw [h3]; trivial
  ·rw [h5]
   have h6 := (c1 p h3).2.1
   cases hb : p.2 with
   | dead => trivial
   | rw c el o al =>
    rw [hb] at h6
    simp only [inBb,Bool.and_eq_true,List.all_eq_true] at h6
    refine ⟨fun v hv => inVb_ok hd hlt 6 v (h6.1 v hv), fun j hj => ?_⟩
    obtain ⟨q, h7, h8⟩ := keyL_iff.1 (h6.2 j hj)
    exact hp_alive hd (by rw [← h8]; exact hlt q h7) (h6.2 j hj)
   | map es n =>
    rw [hb] at h6
    simp only [inBb,List.all_eq_true,Bool.and_eq_true] at h6
    exact fun en hen => ⟨inVb_ok hd hlt 6 _ (h6 en hen).1, inVb_ok hd hlt 6 _ (h6 en hen).2⟩
   | ro c => rw [hb] at h6; cases h6
   | loop => rw [hb] at h6; cases h6
   | defer => rw [hb] at h6; cases h6
 ·rw [hpOf_size] at hk
  have h3 : keyL e.l k = false := by
   cases h4 : keyL e.l k with
   | false => rfl
   | true => exact absurd hdead (hp_alive hd hk h4)
  have h4 : keyL e.l' k = false := by
   cases h5 : keyL e.l' k with
   | false => rfl
   | true =>
    obtain ⟨p, h6, h7⟩ := keyL_iff.1 h5
    have := c3 p h6
    rw [h7, h3] at this
    simp only [Bool.or_eq_true,Bool.not_eq_true',Bool.false_eq_true,or_false] at this
    have hb : Nat.blt k e.s = true := Nat.ble_eq_true_of_le hk
    rw [hb] at this; cases this
  unfold mixH
  rw [putL_no h4, allocN_old (by omega)]
 ·rw [hpOf_size] at hk
  unfold mixH
  by_cases hk' : k < e.s'
  ·cases h5 : keyL e.l' k with
   | true => exact putL_hp hms hk' h5
   | false =>
    have h6 : ¬ k < e.s := fun h7 => by
     have h8 : keyL e.l k = true := by
      cases h9 : keyL e.l k with
      | true => rfl
      | false => exact absurd (hp_dead h9) (hk h7)
     obtain ⟨p, h10, h11⟩ := keyL_iff.1 h8
     have := (c1 p h10).2.2
     rw [h11, h5] at this
     cases this
    rw [putL_no h5, hp_dead h5, allocN_new (by omega)]
  ·rw [AHeap.get_ge (by rw [putL_size, hms]; exact hk'), AHeap.get_ge (by rw [hpOf_size]; exact hk')]
def louds2 (P : Program) : List Loud → Prop
 | [] => True
 | e :: l => e.Ok2 P ∧ louds2 P l
noncomputable def framF (ls : List Loud) (f : FuncId) (args : List Value) (H : AHeap) (no : Option (Bool × Value × AHeap × Nat)) : Option (Bool × Value × AHeap × Nat) := List.rec (motive := fun _ => Option (Bool × Value × AHeap × Nat)) no
 (fun e _ ih => Loud.rec (motive := fun _ => Option (Bool × Value × AHeap × Nat)) (fun f' args' s l v s' l' m => Bool.rec (motive := fun _ => Option (Bool × Value × AHeap × Nat)) ih
  (Bool.rec (motive := fun _ => Option (Bool × Value × AHeap × Nat)) ih (some (false, v, mixH H s' l', m)) (eqL (sameV 6) args' args && (Nat.beq s H.size && lessL H l))) (Nat.beq f' f)) e) ls
theorem framF_ok {f : FuncId} {args : List Value} {H : AHeap} {no : Option (Bool × Value × AHeap × Nat)} {b : Bool} {v : Value} {H' : AHeap} {m : Nat} : ∀ {ls : List Loud}, louds2 P ls → framF ls f args H no = some (b, v, H', m) →
  (b = false ∧ HasFn P f ∧ SCall P f args H v H' m) ∨ no = some (b, v, H', m)
 | [], _, h => .inr h
 | e :: ls, hl, h => by
  have hok := hl.1
  obtain ⟨f', args', s, l, v', s', l', m'⟩ := e
  have h' : Bool.rec (motive := fun _ => Option (Bool × Value × AHeap × Nat)) (framF ls f args H no)
   (Bool.rec (motive := fun _ => Option (Bool × Value × AHeap × Nat)) (framF ls f args H no) (some (false, v', mixH H s' l', m')) (eqL (sameV 6) args' args && (Nat.beq s H.size && lessL H l))) (Nat.beq f' f) = some (b, v, H', m) := h
  rw [boolRec_eq, boolRec_eq] at h'
  cases e1 : Nat.beq f' f
  ·rw [e1] at h'; exact framF_ok hl.2 h'
  ·rw [e1] at h'
   cases e2 : (eqL (sameV 6) args' args && (Nat.beq s H.size && lessL H l))
   ·rw [e2] at h'; exact framF_ok hl.2 h'
   ·rw [e2] at h'
    simp only [Bool.and_eq_true] at e2
    have h'' : some (false, v', mixH H s' l', m') = some (b, v, H', m) := h'
    cases h''
    have hf : f' = f := Nat.eq_of_beq_eq_true e1
    subst hf
    have ha := eqL_ok (sameV_ok 6) e2.1
    subst ha
    exact .inl ⟨rfl, hok.1.1, Loud.framed hok e2.2.1 e2.2.2⟩
end Go.Am
