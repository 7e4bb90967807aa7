import Derived.Test.YtehkjjgpgnejnaaT33
import Derived.Test.YtehkjjgpgnejnaaT16
import Derived.Test.YtehkjjgpgnejnaaT30
set_option linter.unusedSimpArgs false
set_option linter.unusedVariables false
namespace Go.Am.K
open Go.Proofs
variable {T : Tab} {P : Program} {N L : Nat} {H H' H'' : AHeap} {Q : Bool → Value → AHeap → Prop}
section
variable {k cap i j np : Nat} {a : Option Addr} {bs : List Int} {M n m fo pr : Int} {ps : List Pk} {rs : List Int} {gs : List Gd} {S1 S2 S3 : Nat → Prop} {v1 v2 v3 : Value} {e e' : VT}
structure Mk (k : Nat) (P M : Int) (ps : List Pk) (gs : List Gd) (rs : List Int) (lots : Int) : Prop where
 l1 : 1 ≤ ps.length
 lP : (ps.length : Int) ≤ P
 lr : rs.length = ps.length
 ok : ∀ (j : Nat) (p : Pk) (r : Int), ps[j]? = some p → rs[j]? = some r → PkIn M p r
 g1 : 1 ≤ gs.length
 g3 : gs.length ≤ 3
 ord : ordB gs = true
 gok : ∀ g ∈ gs, (0 ≤ g.fo ∧ g.fo ≤ 100) ∧ (1 ≤ g.pr ∧ g.pr ≤ 100)
 lots : 1 ≤ lots ∧ lots ≤ 3
end
end Go.Am.K
namespace Go.Am.K
open Go.Proofs
variable {T : Tab} {P : Program} {N L : Nat} {H : AHeap} {Q : Bool → Value → AHeap → Prop}
section
variable {a b c d : Int}
end
theorem und119 : tabA.und 119 = some (.array 4 3) := by kernel_rfl
theorem und122 : tabA.und 122 = some (.map 119 3) := by kernel_rfl
theorem nfind_key {a b c d : Int} {es : List (Value × Value × Nat)} {q : Option Int} (h : nfind a b c d es = some q) : ∃ j, aFindKey tabA Try.prog 119 (.agg ⟨tv [a, b, c, d]⟩) es = some (q.map fun n => (j, .int .i64 n)) := by
 unfold aFindKey
 rw [und119]
 cases es with
 | nil => cases h; exact ⟨0, rfl⟩
 | cons e es =>
  have : aFindNow (.array 4 3) (.agg ⟨tv [a, b, c, d]⟩) (e :: es) 0 = none := rfl
  simp only [this]
  exact nfind_ok 0 h
theorem inf3 : ∃ i z, tabA.inf 3 = some i ∧ i.zero = some z ∧ z = .int .i64 0 := ⟨Try.t3, .int .i64 0, by kernel_rfl, by kernel_rfl, rfl⟩
section
variable {ex : Exec} {t : Operand → Option Value} {x ix y : Operand} {k j : Nat} {s : List Int} {es : List (Value × Value × Nat)} {clock : Nat}
theorem A_lookN {q : Option Int} (hx : t x = some (.map (some k))) (hi : t ix = some (.agg ⟨tv s⟩)) (hb : H.get k = .map es clock) (hs4 : s.length = 4) (hk : aFindKey tabA Try.prog 119 (.agg ⟨tv s⟩) es = some (q.map fun n => (j, .int .i64 n))) (hL : L ≤ H.size) (hq : Q true (.tuple ⟨[.int .i64 (q.getD 0), .bool q.isSome]⟩) H) :
  A tabA Try.prog ex t H L (.lookup 122 x ix true) Q := by
 obtain ⟨i, z, z1, z2, z3⟩ := inf3
 have hgz : gr z = true := by rw [z3]; rfl
 unfold A
 show (match still (aLookup tabA Try.prog t H 122 x ix true) with
  | some (b, v, H', m) => L ≤ m ∧ Q b v H'
  | none => False)
 have hgk : gr (.agg ⟨tv s⟩) = true := gr_tv _
 unfold aLookup
 simp only [und122,hx,hi,aMapOf,hb,hgk,cond_true,ckTv hs4,hk]
 cases q with
 | none =>
  simp only [Option.map_none,z1,z2,hgz,cond_true]
  exact ⟨hL, by rw [z3]; exact hq⟩
 | some n => exact ⟨hL, hq⟩
theorem A_updN {n : Int} (hx : t x = some (.map (some k))) (hi : t ix = some (.agg ⟨tv s⟩)) (hy : t y = some (.int .i64 n)) (hb : H.get k = .map es clock) (hs4 : s.length = 4) (hk : aFindKey tabA Try.prog 119 (.agg ⟨tv s⟩) es = some none) (hL : L ≤ k) (hq : Q false undef (H.put k (.map (es ++ [(.agg ⟨tv s⟩, .int .i64 n, clock)]) (clock + 1)))) :
  A tabA Try.prog ex t H L (.mapUpdate 122 x ix y) Q := by
 unfold A
 show (match moves (aUpdate tabA Try.prog t H 122 x ix y) with
  | some (b, v, H', m) => L ≤ m ∧ Q b v H'
  | none => False)
 have hgk : gr (.agg ⟨tv s⟩) = true := gr_tv _
 unfold aUpdate
 simp only [und122,hx,hi,hy,hb,hgk,cond_true,ckTv hs4,hk]
 exact ⟨hL, hq⟩
end
end Go.Am.K
namespace Go.Am.K
open Go.Proofs
variable {T : Tab} {P : Program} {N L : Nat} {H : AHeap} {Q : Bool → Value → AHeap → Prop}
def flK (v : Value) (H : AHeap) (L : Nat) (Q : Bool → Value → AHeap → Prop) (_ : Tag Q := .mk) : Prop := match still (aField tabA (fun _ => some v) H 77 (.tmp 0) 1) with
 | some (b, v, H', m) => L ≤ m ∧ Q b v H'
 | none => False
theorem A_fld {ex : Exec} {t : Operand → Option Value} {x : Operand} : A tabA Try.prog ex t H L (.field 77 x 1) Q = optK (t x) fun v => flK v H L Q := by
 unfold A
 show (match still (aField tabA t H 77 x 1) with
  | some (b, v, H', m) => L ≤ m ∧ Q b v H'
  | none => False) = _
 cases hs : t x with
 | none =>
  have : aField tabA t H 77 x 1 = none := by unfold aField; rw [hs]
  rw [this]; rfl
 | some v =>
  have : aField tabA t H 77 x 1 = aField tabA (fun _ => some v) H 77 (.tmp 0) 1 := by unfold aField; rw [hs]
  rw [this]; rfl
theorem flK_of {u w : Int} : flK (.agg ⟨[.int .i64 u, .int .i64 w]⟩) H L Q = andK (L ≤ H.size) (Q true (.int .i64 w) H) := by
 have : aField tabA (fun _ => some (.agg ⟨[.int .i64 u, .int .i64 w]⟩)) H 77 (.tmp 0) 1 = some (.int .i64 w, H, H.size) := by kernel_rfl
 unfold flK
 rw [this]; rfl
section
variable {a a' : Option Addr} {cap cap' k clock : Nat} {ps : List Pk} {gs : List Gd} {m : List Int} {lo : Value} {es : List (Value × Value × Nat)} {n : Int} {j : Nat}
theorem c93k (hm : m.length = 4) (hb : H.get k = .map es clock) (hk : k < H.size) (hf : aFindKey tabA Try.prog 119 (.agg ⟨tv m⟩) es = some (some (j, .int .i64 n))) :
  acall tabA (aexec tabA Try.prog (N + 800)) 93 [.agg ⟨[.slice a ps.length cap, .slice a' gs.length cap', lo, .map (some k)]⟩, .agg ⟨tv m⟩] H = some (true, .int .i64 n, H, H.size) := by
 refine call_quiet (k := 28) (rs := [.tmp 4]) rfl fn_93 rfl rfl rfl ?_ rfl
 have hmp : part (tv m) 0 5 = some (.agg ⟨tv m⟩) := part_tv hm
 simp (disch:=first|(simp only [yk,seval];done)|omega|(simp only [yz]<;>omega)|fail) only [↓yp,yq0,yq1,yq2,yq3,yq4,yl,ys0,ys1,seval,fitB,newC,endD,endR,st_faS_124_1,st_ldS_122,hmp]
 refine A_lookN (es := es) (clock := clock) (q := some n) (j := j) (s := m) (k := k) (by simp (disch:=first|(simp only [yk,seval];done)|omega|(simp only [yz]<;>omega)|fail) only [↓yp,yq0,yq1,yq2,yq3,yq4,yl,ys0,ys1,seval,fitB,newC,endD,endR]) (by simp (disch:=first|(simp only [yk,seval];done)|omega|(simp only [yz]<;>omega)|fail) only [↓yp,yq0,yq1,yq2,yq3,yq4,yl,ys0,ys1,seval,fitB,newC,endD,endR]) (by rw [get_alloc_lt (by first|omega|(simp only [yz]<;>omega)), get_alloc_lt (by first|omega|(simp only [yz]<;>omega))]; exact hb) hm hf (by first|omega|(simp only [yz]<;>omega)) ?_
 simp (disch:=first|(simp only [yk,seval];done)|omega|(simp only [yz]<;>omega)|fail) only [↓yp,yq0,yq1,yq2,yq3,yq4,yl,ys0,ys1,seval,fitB,newC,endD,endR,st_faS_124_1,st_ldS_122,Option.getD_some,Option.isSome_some]
theorem c93n (hs : Rw pkE H a ps) (hl : ps.length ≤ 4) (hpk : ∀ p ∈ ps, p.Ok) (hgs : Rw gdE H a' gs) (hgl : gs.length ≤ 4) (hgk : ∀ g ∈ gs, g.Ok) (hm : m.length = 4) (hmb : ∀ n ∈ m, 0 ≤ n ∧ n ≤ 6) (ho : sameV 5 lo lo = true) (hb : H.get k = .map es clock) (hk : k < H.size) (hf : aFindKey tabA Try.prog 119 (.agg ⟨tv m⟩) es = some none) :
  resK (acall tabA (aexec tabA Try.prog (N + 800)) 93 [.agg ⟨[.slice a ps.length cap, .slice a' gs.length cap', lo, .map (some k)]⟩, .agg ⟨tv m⟩] H) k fun _ v H' => v = .int .i64 (isum m * (grd ps gs m).pr) ∧ H' = ((H.alloc (.rw [.slice a ps.length cap, .slice a' gs.length cap', lo, .map (some k)] 124 false [])).alloc (.rw (tv m) 119 false [])).put k (.map (es ++ [(.agg ⟨tv m⟩, .int .i64 (isum m * (grd ps gs m).pr), clock)]) (clock + 1)) := by
 refine call_keep tabA_fr (R := fun v H' => v = .int .i64 (isum m * (grd ps gs m).pr) ∧ H' = ((H.alloc (.rw [.slice a ps.length cap, .slice a' gs.length cap', lo, .map (some k)] 124 false [])).alloc (.rw (tv m) 119 false [])).put k (.map (es ++ [(.agg ⟨tv m⟩, .int .i64 (isum m * (grd ps gs m).pr), clock)]) (clock + 1))) (k := 28) (rs := [.tmp 4]) rfl fn_93 rfl rfl rfl (by omega) ?_ (fun v H' h => h) ?_
 rotate_left
 ·rintro v H' ⟨rfl, rfl⟩ _ fr
  have h1 := fr.same k hk
  rw [get_put_same (by first|omega|(simp only [yz]<;>omega)), hb] at h1
  simp only [ABlk.map.injEq] at h1
  have h2 := congrArg List.length h1.1
  simp at h2
 have hmp : part (tv m) 0 5 = some (.agg ⟨tv m⟩) := part_tv hm
 have hst := fun n => sl_tv (n := n) m
 have fr : Fr H ((H.alloc (.rw [.slice a ps.length cap, .slice a' gs.length cap', lo, .map (some k)] 124 false [])).alloc (.rw (tv m) 119 false [])) := by (repeat (first | exact Fr.refl _ | assumption | refine Fr.allocd ?_ _ | refine Fr.put ?_ (by first | omega | (simp only [yz] <;> omega)) _))
 have h76 := fun (N : Nat) (H : AHeap) => c76 (N := N) (H := H) (t := m) hm fun x hx => by have := hmb x hx; omega
 have h92 := fun (N : Nat) => c92 (N := N) (cap := cap) (cap' := cap') (lo := lo) (mp := .map (some k)) (hs.fr fr) hl hpk (hgs.fr fr) hgl hgk hm hmb ho sv_map
 simp (disch:=first|(simp only [yk,seval];done)|omega|(simp only [yz]<;>omega)|fail) only [↓yp,yq0,yq1,yq2,yq3,yq4,yl,ys0,ys1,seval,fitB,newC,endD,endR,st_faS_124_1,st_ldS_122,hmp]
 refine A_lookN (es := es) (clock := clock) (q := none) (j := 0) (s := m) (k := k) (by simp (disch:=first|(simp only [yk,seval];done)|omega|(simp only [yz]<;>omega)|fail) only [↓yp,yq0,yq1,yq2,yq3,yq4,yl,ys0,ys1,seval,fitB,newC,endD,endR]) (by simp (disch:=first|(simp only [yk,seval];done)|omega|(simp only [yz]<;>omega)|fail) only [↓yp,yq0,yq1,yq2,yq3,yq4,yl,ys0,ys1,seval,fitB,newC,endD,endR]) (by rw [get_alloc_lt (by first|omega|(simp only [yz]<;>omega)), get_alloc_lt (by first|omega|(simp only [yz]<;>omega))]; exact hb) hm hf (by first|omega|(simp only [yz]<;>omega)) ?_
 simp (disch:=first|(simp only [yk,seval];done)|omega|(simp only [yz]<;>omega)|fail) only [↓yp,yq0,yq1,yq2,yq3,yq4,yl,ys0,ys1,seval,fitB,newC,endD,endR,st_faS_124_1,st_ldS_122,Option.getD_none,Option.isSome_none]
 simp only [Gd.enc] at h92
 have hp := grd_ok (ps := ps) (m := m) hgk
 have hi := m_sum hm hmb
 have hmul : 0 ≤ isum m * (grd ps gs m).pr ∧ isum m * (grd ps gs m).pr ≤ 2400 := ⟨Int.mul_nonneg hi.1 hp.1, by have := Int.mul_le_mul hi.2 hp.2 hp.1 (by omega : (0:Int) ≤ 24); omega⟩
 have hw : w64 (isum m * (grd ps gs m).pr) = isum m * (grd ps gs m).pr := w64_of (by omega)
 refine W_draw [] rfl (by kernel_rfl) (by kernel_rfl) (by first|omega|(simp only [yz]<;>omega)) ?_
 simp (disch:=first|(simp only [yk,seval];done)|omega|(simp only [yz]<;>omega)|fail) only [↓yp,yq0,yq1,yq2,yq3,yq4,yl,ys0,ys1,seval,fitB,newC,endD,endR,st_faS_124_1,st_ldS_122,hmp,h76,h92,hst,ho,sv_map,hw,A_fld,flK_of]
 refine A_updN (es := es) (clock := clock) (s := m) (k := k) (n := isum m * (grd ps gs m).pr) (by simp (disch:=first|(simp only [yk,seval];done)|omega|(simp only [yz]<;>omega)|fail) only [↓yp,yq0,yq1,yq2,yq3,yq4,yl,ys0,ys1,seval,fitB,newC,endD,endR]) (by simp (disch:=first|(simp only [yk,seval];done)|omega|(simp only [yz]<;>omega)|fail) only [↓yp,yq0,yq1,yq2,yq3,yq4,yl,ys0,ys1,seval,fitB,newC,endD,endR]) (by simp (disch:=first|(simp only [yk,seval];done)|omega|(simp only [yz]<;>omega)|fail) only [↓yp,yq0,yq1,yq2,yq3,yq4,yl,ys0,ys1,seval,fitB,newC,endD,endR]) (by rw [get_alloc_lt (by first|omega|(simp only [yz]<;>omega)), get_alloc_lt (by first|omega|(simp only [yz]<;>omega))]; exact hb) hm hf (by first|omega|(simp only [yz]<;>omega)) ?_
 simp (disch:=first|(simp only [yk,seval];done)|omega|(simp only [yz]<;>omega)|fail) only [↓yp,yq0,yq1,yq2,yq3,yq4,yl,ys0,ys1,seval,fitB,newC,endD,endR]
end
end Go.Am.K
namespace Go.Am.K
open Go.Proofs
variable {T : Tab} {P : Program} {N L : Nat} {H H' H'' : AHeap} {Q : Bool → Value → AHeap → Prop}
section
variable {ex : Exec} {t : Operand → Option Value}
theorem A_copy_of {ty : TypeId} {tys : List TypeId} {d s : Operand} {z b o dl dc sl sc : Nat} {sp : Option Nat} {sa : Addr} {l c : List Value} {e : TypeId} {op : Bool} (hz : esS T ty = some z) (hd : t d = some (.slice (some ⟨b, o, sp⟩) dl dc)) (hs : t s = some (.slice (some sa) sl sc))
  (hsrc : srcCells H sa (Nat.min sl dl * z) = some l) (hb : H.get b = .rw c e op []) (hf : o + l.length ≤ c.length) (h1 : oneCells l = true) (hL : L ≤ b) (hq : Q false (.int .i64 (Int.ofNat (Nat.min sl dl))) (H.put b (.rw (newC o l c) e op []))) : A T P ex t H L (.call ⟨.builtin .copy, [d, s].toArray, (ty :: tys).toArray⟩) Q := by
 unfold A
 show (match moves (aCopy T t H (ty :: tys).toArray [d, s].toArray) with
  | some (b, v, H', m) => L ≤ m ∧ Q b v H'
  | none => False)
 unfold esS at hz
 unfold aCopy
 simp only
 cases hu : T.und ty with
 | none => rw [hu] at hz; cases hz
 | some dd =>
  rw [hu] at hz
  cases dd with
  | slice el =>
   simp only at hz
   unfold inS at hz
   cases hi : T.inf el with
   | none => rw [hi] at hz; cases hz
   | some i =>
    rw [hi] at hz
    simp only [Option.some.injEq] at hz
    subst hz
    simp only [hd,hs,hi,hsrc]
    unfold aWrite
    rw [hb]
    have hle : Nat.ble (o + l.length) c.length = true := Nat.ble_eq_true_of_le hf
    simp only [hle,h1,Bool.and_self,cond_true]
    exact ⟨hL, hq⟩
  | _ => cases hz
theorem A_mkMap {r : Nat} : A T P ex t H L (.makeMap r none) Q = andK (L ≤ H.size) (Q false (.map (some H.size)) (H.alloc (.map [] 0))) := by
 unfold A
 show (match fresh H (newMap none) with
  | some (b, v, H', m) => L ≤ m ∧ Q b v H'
  | none => False) = _
 rfl
end
structure LotOk (ps : List Pk) (l : List Int) : Prop where
 len : l.length = ps.length
 ok : ∀ (j : Nat) (n : Int) (p : Pk), l[j]? = some n → ps[j]? = some p → 0 ≤ n ∧ n ≤ p.s
section
variable {k cap pc cap' : Nat} {a pa pa' : Option Addr} {bs : List Int} {ps : List Pk} {lots : Value}
end
end Go.Am.K
