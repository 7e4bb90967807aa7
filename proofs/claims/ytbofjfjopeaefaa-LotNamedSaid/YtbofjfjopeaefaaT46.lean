import Derived.Test.YtbofjfjopeaefaaT45
import Derived.Test.YtbofjfjopeaefaaT43
import Derived.Test.YtbofjfjopeaefaaT38
import Derived.Test.YtbofjfjopeaefaaT41
set_option linter.unusedSimpArgs false
set_option linter.unusedVariables false
namespace Go.Am.K
open Go.Proofs
variable {T : Tab} {P : Program} {N L : Nat} {H H' H'' : AHeap} {Q : Bool → Value → AHeap → Prop}
theorem eqc38 {x y : Operand} {a b : Int} : pureRun Try.prog (do eqGuard .eql 38 x y (.agg ⟨[.int .i64 a, .int .i64 b]⟩) (.agg ⟨[.int .i64 a, .int .i64 b]⟩); binOp .eql 38 (.agg ⟨[.int .i64 a, .int .i64 b]⟩) (.agg ⟨[.int .i64 a, .int .i64 b]⟩)) = some (.bool true) := by
 rw [pureRun_bind]
 rw [show pureRun Try.prog (eqGuard .eql 38 x y (.agg ⟨[.int .i64 a, .int .i64 b]⟩) (.agg ⟨[.int .i64 a, .int .i64 b]⟩)) = some () by kernel_rfl]
 rw [Option.bind_some, show binOp .eql 38 (.agg ⟨[.int .i64 a, .int .i64 b]⟩) (.agg ⟨[.int .i64 a, .int .i64 b]⟩) = (Op.equal 38 (.agg ⟨[.int .i64 a, .int .i64 b]⟩) (.agg ⟨[.int .i64 a, .int .i64 b]⟩) >>= fun b => pure (.bool b)) by simp only [binOp], pureRun_bind, eq38]
 rfl
theorem eql38 {x y : Operand} {a b : Int} : binV tabA Try.prog .eql 38 x y (.agg ⟨[.int .i64 a, .int .i64 b]⟩) (.agg ⟨[.int .i64 a, .int .i64 b]⟩) = some (.bool true) := by
 unfold binV
 cases h : aEqV Try.prog .eql 38 (some (.agg ⟨[.int .i64 a, .int .i64 b]⟩)) (some (.agg ⟨[.int .i64 a, .int .i64 b]⟩)) with
 | none =>
  rw [show gr (.agg ⟨[.int .i64 a, .int .i64 b]⟩) = true from rfl, Bool.and_self, cond_true, eqc38]
  rfl
 | some v =>
  simp only [aEqV] at h
  cases h' : aEqD Try.prog 38 (.agg ⟨[.int .i64 a, .int .i64 b]⟩) (.agg ⟨[.int .i64 a, .int .i64 b]⟩) with
  | none => rw [h'] at h; cases h
  | some r =>
   rw [h'] at h
   cases h
   have h1 := (aEqD_run h' default).1
   have h2 := pureRun_run (eq38 (a := a) (b := b)) default
   rw [h2] at h1
   cases h1
   rfl
section
variable {a a' : Option Addr} {cap cap' : Nat} {ps : List Pk} {gs : List Gd}
theorem c45M (hs : Rw pkE H a ps) (hg : Rw gdE H a' gs) (hl : ps.length ≤ 4) (hl1 : 1 ≤ ps.length) (hpk : ∀ p ∈ ps, p.Ok) (hgl : gs.length ≤ 4) (hgk : ∀ g ∈ gs, g.Ok) (k : Nat) (hk : k ≤ 3) (hok : chkS ps gs (k : Int) = 0) (hL : L ≤ H.size) {M : Nat} (hM : 18200 ≤ M)
  (hq : ∀ f w n H', Fr H H' → OptR (brg ps gs) (stk ps) k n → Q f (.tuple ⟨[w, .int .i64 n, .int .i64 0]⟩) H') :
  resK (acall tabA (aexec tabA Try.prog M) 45 [.agg ⟨[.slice a ps.length cap, .slice a' gs.length cap', .int .i64 (k : Int)]⟩] H) L Q := by
 obtain ⟨N, rfl⟩ : ∃ N, M = N + 18200 := ⟨M - 18200, by omega⟩
 refine resK_lowQ (c45 hs hg hl hl1 hpk hgl hgk k hk hok) hL ?_
 rintro b _ H2 ⟨-, Ls, w, n, rfl, h1, -, -, -, h2⟩
 exact hq _ _ _ _ h1 h2
end
structure NZ (H' : AHeap) (i8 i12 i16 b1 c1 b2 c2 b4 c4 b9 c9 b10 c10 b13 c13 d1 e1 d2 e2 : Nat) (ps qs : List Pk) (gs : List Gd) (lots : Int) (l ms : List Int) (σ : List Nat) (t : Int) (e : VT) : Prop where
 lt : LtR H' (some ⟨b1, 0, none⟩) (some ⟨b2, 0, none⟩) (some ⟨b4, 0, none⟩) ps gs lots l
 lo : LtR H' (some ⟨b9, 0, none⟩) (some ⟨b10, 0, none⟩) (some ⟨b13, 0, none⟩) qs gs lots ms
 dr : StR H' (some ⟨d1, 0, none⟩) (some ⟨d2, 0, none⟩) ps (dearG t gs) lots
 mv : Mv σ ps qs
 ml : rd σ ms = l
 z8 : i8 < H'.size
 z12 : i12 < H'.size
 z16 : i16 < H'.size
 b8 : H'.get i8 = .rw [.slice (some ⟨b1, 0, none⟩) ps.length c1, .slice (some ⟨b2, 0, none⟩) gs.length c2, .int .i64 lots] 25 false []
 b12 : H'.get i12 = .rw [.slice (some ⟨b9, 0, none⟩) qs.length c9, .slice (some ⟨b10, 0, none⟩) gs.length c10, .int .i64 lots] 25 false []
 b16 : H'.get i16 = .rw [.slice (some ⟨d1, 0, none⟩) ps.length e1, .slice (some ⟨d2, 0, none⟩) (dearG t gs).length e2, .int .i64 lots] 25 false []
 g8 : gt 209 e 8 = .pointer (some ⟨i8, 0, none⟩)
 g10 : gt 209 e 10 = .slice (some ⟨b4, 0, none⟩) l.length c4
 g11 : gt 209 e 11 = .int .i64 t
 g12 : gt 209 e 12 = .pointer (some ⟨i12, 0, none⟩)
 g13 : gt 209 e 13 = .slice (some ⟨b13, 0, none⟩) ms.length c13
 g16 : gt 209 e 16 = .pointer (some ⟨i16, 0, none⟩)
 tt : 1 ≤ t ∧ t ≤ 2
section
variable {i8 i12 i16 b1 c1 b2 c2 b4 c4 b9 c9 b10 c10 b13 c13 d1 e1 d2 e2 : Nat} {ps qs : List Pk} {gs : List Gd} {lots t : Int} {l ms : List Int} {σ : List Nat} {e : VT}
set_option maxHeartbeats 8000000 in
set_option maxRecDepth 10000 in
theorem c11Z (hL : L ≤ H.size) (I : NZ H i8 i12 i16 b1 c1 b2 c2 b4 c4 b9 c9 b10 c10 b13 c13 d1 e1 d2 e2 ps qs gs lots l ms σ t e) :
  W tabA Try.prog (N + 19000) none (sub [true, true, true, true, true, true, true, true, true, true] (bodyOf Try.f11)) L ⟨209, e, H, []⟩ (retK tabA L [.tmp 6] fun u _ => u = .bool true) := by
 obtain ⟨lt, lo, dr, mv, ml, z8, z12, z16, b8, b12, b16, g8, g10, g11, g12, g13, g16, tt⟩ := I
 have hst := lt.st.st
 have hlots := hst.lo
 obtain ⟨k, rfl⟩ : ∃ k : Nat, lots = (k : Int) := ⟨lots.toNat, by omega⟩
 have h37 := fun (N : Nat) => c37 (N := N) (cap := c1) (cap' := c2) (cl := c4) lt
 have hms : ms.length = ps.length := lo.lo.len.trans mv.len
 have hsp : ∀ s, isum (fo s qs ms) = isum (fo s ps l) := fun s => (span_mv mv hms ml).symm
 have hsu : sureV qs gs ms = sureV ps gs l := (sure_mv mv hms ml).symm
 obtain ⟨lo1, hlo1⟩ : ∃ x, isum (fo true ps l) = x := ⟨_, rfl⟩
 obtain ⟨hi1, hhi1⟩ : ∃ x, isum (fo false ps l) = x := ⟨_, rfl⟩
 obtain ⟨su, hsu1⟩ : ∃ x, sureV ps gs l = x := ⟨_, rfl⟩
 rw [hlo1, hhi1] at h37
 have fE1 : Fr H ((H.alloc (.rw [.int .i64 0, .int .i64 0] 38 false [])).put H.size (.rw [.int .i64 lo1, .int .i64 hi1] 38 false [])) := by (repeat (first | exact Fr.refl _ | assumption | refine Fr.allocd ?_ _ | refine Fr.put ?_ (by first | omega | (simp only [yz] <;> omega)) _))
 have fE2 : Fr H ((((H.alloc (.rw [.int .i64 0, .int .i64 0] 38 false [])).put H.size (.rw [.int .i64 lo1, .int .i64 hi1] 38 false [])).alloc (.rw [.int .i64 0, .int .i64 0] 38 false [])).put (H.size + 1) (.rw [.int .i64 lo1, .int .i64 hi1] 38 false [])) := by (repeat (first | exact Fr.refl _ | assumption | refine Fr.allocd ?_ _ | refine Fr.put ?_ (by first | omega | (simp only [yz] <;> omega)) _))
 have h37o := fun (N : Nat) => c37 (N := N) (cap := c9) (cap' := c10) (cl := c13) (lo.fr fE1)
 rw [hsp, hsp, hlo1, hhi1] at h37o
 have h38 := fun (N : Nat) => c38 (N := N) (cap := c1) (cap' := c2) (cl := c4) (lt.fr fE2)
 have h38o := fun (N : Nat) => c38 (N := N) (cap := c9) (cap' := c10) (cl := c13) (lo.fr fE2)
 rw [hsu1] at h38
 rw [hsu, hsu1] at h38o
 simp only [Try.f11,bodyOf,sub_nil,sub_seq0,sub_seq1,sub_block,sub_loop,sub_cond0,sub_cond1]
 simp (disch:=first|(simp only [yk,seval];done)|omega|(simp only [yz]<;>omega)|fail) only [↓yp,yq0,yq1,yq2,yq3,yq4,yl,ys0,ys1,seval,fitB,newC,endD,endR,yrg,g8,g10,g11,g12,g13,g16,b8,b12,h37,h37o,h38,h38o]
 obtain ⟨G2, hG2⟩ : ∃ G, (((H.alloc (.rw [.int .i64 0, .int .i64 0] 38 false [])).put H.size (.rw [.int .i64 lo1, .int .i64 hi1] 38 false [])).alloc (.rw [.int .i64 0, .int .i64 0] 38 false [])).put (H.size + 1) (.rw [.int .i64 lo1, .int .i64 hi1] 38 false []) = G := ⟨_, rfl⟩
 rw [hG2] at fE2 ⊢
 have fG2 := fE2
 have sG2 : G2.size = H.size + 1 + 1 := by rw [← hG2]; (first | omega | (simp only [yz] <;> omega))
 have b1G2 : G2.get H.size = .rw [.int .i64 lo1, .int .i64 hi1] 38 false [] := by rw [← hG2, get_put_ne (by omega), get_alloc_lt (by first|omega|(simp only [yz]<;>omega))]; exact get_put_same (by first|omega|(simp only [yz]<;>omega))
 have b2G2 : G2.get (H.size + 1) = .rw [.int .i64 lo1, .int .i64 hi1] 38 false [] := by rw [← hG2]; exact get_put_same (by first|omega|(simp only [yz]<;>omega))
 have b12'' := (fG2.same _ z12).trans b12
 have b16' := (fG2.same _ z16).trans b16
 have ltG := lt.fr fG2
 have loG := lo.fr fG2
 have drG := dr.fr fG2
 refine c45M ltG.st.hs ltG.st.hg hst.l4 hst.l1 ltG.st.pk hst.g4 ltG.st.gd k (by omega) ltG.st.ok (by omega) (by omega) ?_
 intro f1 w1 n1 H3 fr3 o1
 have s3 := fr3.size
 have b12s := (fr3.same _ (by omega)).trans b12''
 have lo3 := loG.fr fr3
 simp (disch:=first|(simp only [yk,seval];done)|omega|(simp only [yz]<;>omega)|fail) only [↓yp,yq0,yq1,yq2,yq3,yq4,yl,ys0,ys1,seval,fitB,newC,endD,endR,yrg,g8,g10,g11,g12,g13,g16,b12s]
 refine c45M lo3.st.hs lo3.st.hg lo3.st.st.l4 lo3.st.st.l1 lo3.st.pk hst.g4 lo3.st.gd k (by omega) lo3.st.ok (by omega) (by omega) ?_
 intro f2 w2 n2 H4 fr4 o2
 have s4 := fr4.size
 have b16s := (fr4.same _ (by omega)).trans ((fr3.same _ (by omega)).trans b16')
 have dr4 := (drG.fr fr3).fr fr4
 simp (disch:=first|(simp only [yk,seval];done)|omega|(simp only [yz]<;>omega)|fail) only [↓yp,yq0,yq1,yq2,yq3,yq4,yl,ys0,ys1,seval,fitB,newC,endD,endR,yrg,g8,g10,g11,g12,g13,g16,b16s]
 refine c45M dr4.hs dr4.hg dr4.st.l4 dr4.st.l1 dr4.pk dr4.st.g4 dr4.gd k (by omega) dr4.ok (by omega) (by omega) ?_
 intro f3 w3 n3 H5 fr5 o3
 have s5 := fr5.size
 have e12 : n2 = n1 := (opt_mv mv hst.l4 o1).uniq o2 |>.symm
 have e13 : n3 = t * n1 := o3.uniq (o1.scale (by omega) fun x => brg_dear)
 have hn1 := opt_in lt.st.gd (stk_len hst.l4) (stk_in lt.st.pk) o1
 have hm : 0 ≤ t * n1 ∧ t * n1 ≤ 2 * n1 := ⟨Int.mul_nonneg (by omega) hn1.1, Int.mul_le_mul_of_nonneg_right tt.2 hn1.1⟩
 have hwm : w64 (t * n1) = t * n1 := w64_of (by omega)
 subst e12 e13
 have bA := (fr5.same _ (by omega)).trans ((fr4.same _ (by omega)).trans ((fr3.same _ (by omega)).trans b1G2))
 have bB := (fr5.same _ (by omega)).trans ((fr4.same _ (by omega)).trans ((fr3.same _ (by omega)).trans b2G2))
 have i00 : decide ((0 : Int) = 0) = true := rfl
 have iss : decide (su = su) = true := by simp
 have inn : ∀ x : Int, decide (x = x) = true := fun x => by simp
 simp (disch:=first|(simp only [yk,seval];done)|omega|(simp only [yz]<;>omega)|fail) only [↓yp,yq0,yq1,yq2,yq3,yq4,yl,ys0,ys1,seval,fitB,newC,endD,endR,yrg,g8,g10,g11,g12,g13,g16,bA,bB,eql38,hwm,i00,inn,awake_known]
 done
end
end Go.Am.K
namespace Go.Am.K
open Go.Proofs
variable {T : Tab} {P : Program} {N L : Nat} {H H' H'' : AHeap} {Q : Bool → Value → AHeap → Prop}
section
variable {p : Pk}
end
end Go.Am.K
namespace Go.Am.K
open Go.Proofs
variable {T : Tab} {P : Program} {N L : Nat} {H H' H'' : AHeap} {Q : Bool → Value → AHeap → Prop}
section
variable {a a' : Option Addr} {cap cap' : Nat} {ps : List Pk} {gs : List Gd} {lots : Int}
end
end Go.Am.K
