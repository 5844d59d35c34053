import Derived.Test.YtbjjkfmdkmbcfaaKi
import Derived.ProofKit
import Derived.Lib.SmallJoins
import Derived.OpenShut
import Derived.ChangeOld
import Derived.Below
import Derived.Carry
namespace Go.Proofs.Ytbjjkfmdkmbcfaa
open Go.ChangeShapes Go.WideShapes Go.ChangeAt Go.RowKit Go.Joins

theorem own : ownKnob Try.prog.godebug = none := by kernel_rfl
theorem cellsPt : Try.prog.cellsOf 24 = 2 := by kernel_rfl

theorem nat_of_wf {a : Int} (h : (Lit.int .u64 a).wf = true) : ∃ n : Nat, a = (n : Int) ∧ n < 2 ^ 64 := by
  have h1 := bounds_u64 h
  exact ⟨a.toNat, by omega, by omega⟩

set_option maxRecDepth 100000 in
theorem lifted (os : Os) (started : os.Started) (H : Type) (enc : TypeId × Value → H) :
    ReturnsInHanded {} Try.checked os 4 .any (Rows.crossedSpec.pre6 enc Try.prog Try.f4 Rows.crossedRow.domain false) (Rows.crossedSpec.post enc Try.prog Try.f4 false true false false) := by
  refine returnsInHanded_of_change (C := Try.checked) own started (by kernel_rfl) Try.func4
    (ChangeSpec.witness6 (enc := enc) (C := Try.checked) false ⟨#[], #[.agg #[.int .u64 0, .int .u64 0], .agg #[.int .u64 0, .int .u64 0], .agg #[.int .u64 0, .int .u64 0], .agg #[.int .u64 0, .int .u64 0]], []⟩ 8 (by kernel_rfl) (by kernel_rfl) (by kernel_rfl) (by kernel_rfl)) ?_
  intro W base args ds gs before hval0 hW hcnd _
  have hval : ∀ (j : Nat) t v, Try.f4.params[j]? = some t → args[j]? = some v → Value.okWide Try.prog W .any base t v := hval0
  have hW' := hW
  obtain ⟨p, q, hA0, hV, rfl, hfz, hnd⟩ := hW
  have hA : DataW.TrodAll enc Try.prog W 0 (fun _ => true) true Try.f4.params.toList args.toList ds p := hA0
  rw [Try.params4] at hA hval
  obtain ⟨v0, v1, v2, v3, d0, d1, d2, d3, p0, p1, p2, p3, rfl, rfl, rfl, h0, h1, h2, h3⟩ := trodAll_four hA
  obtain ⟨rfl, rfl⟩ := trodVars_none hV
  obtain ⟨c0, c1, y0, y1, m0, rfl, rfl, rfl, hy0, hy1⟩ := open_agg2 Try.underlying24 (by kernel_rfl) cellsPt (hval 0 24 v0 rfl rfl) h0
  obtain ⟨c2, c3, y2, y3, m1, rfl, rfl, rfl, hy2, hy3⟩ := open_agg2 Try.underlying24 (by kernel_rfl) cellsPt (hval 1 24 v1 rfl rfl) h1
  obtain ⟨c4, c5, y4, y5, m2, rfl, rfl, rfl, hy4, hy5⟩ := open_agg2 Try.underlying24 (by kernel_rfl) cellsPt (hval 2 24 v2 rfl rfl) h2
  obtain ⟨c6, c7, y6, y7, m3, rfl, rfl, rfl, hy6, hy7⟩ := open_agg2 Try.underlying24 (by kernel_rfl) cellsPt (hval 3 24 v3 rfl rfl) h3
  obtain ⟨a0, e0, rfl, w0⟩ := DataW.trod_int Try.underlying22 hy0
  obtain ⟨a1, e1, rfl, w1⟩ := DataW.trod_int Try.underlying22 hy1
  obtain ⟨a2, e2, rfl, w2⟩ := DataW.trod_int Try.underlying22 hy2
  obtain ⟨a3, e3, rfl, w3⟩ := DataW.trod_int Try.underlying22 hy3
  obtain ⟨a4, e4, rfl, w4⟩ := DataW.trod_int Try.underlying22 hy4
  obtain ⟨a5, e5, rfl, w5⟩ := DataW.trod_int Try.underlying22 hy5
  obtain ⟨a6, e6, rfl, w6⟩ := DataW.trod_int Try.underlying22 hy6
  obtain ⟨a7, e7, rfl, w7⟩ := DataW.trod_int Try.underlying22 hy7
  simp at e0 e1 e2 e3 e4 e5 e6 e7
  subst e0 e1 e2 e3 e4 e5 e6 e7
  clear hA0 hval0
  obtain ⟨n0, rfl, l0⟩ := nat_of_wf w0
  obtain ⟨n1, rfl, l1⟩ := nat_of_wf w1
  obtain ⟨n2, rfl, l2⟩ := nat_of_wf w2
  obtain ⟨n3, rfl, l3⟩ := nat_of_wf w3
  obtain ⟨n4, rfl, l4⟩ := nat_of_wf w4
  obtain ⟨n5, rfl, l5⟩ := nat_of_wf w5
  obtain ⟨n6, rfl, l6⟩ := nat_of_wf w6
  obtain ⟨n7, rfl, l7⟩ := nat_of_wf w7
  have h64 : ∀ p ∈ [(n0, n1), (n2, n3), (n4, n5), (n6, n7)], p.1 < 2 ^ 64 ∧ p.2 < 2 ^ 64 := by
    intro p hp
    simp at hp
    rcases hp with rfl | rfl | rfl | rfl
    · exact ⟨l0, l1⟩
    · exact ⟨l2, l3⟩
    · exact ⟨l4, l5⟩
    · exact ⟨l6, l7⟩
  have reads : ∀ (W' : World) (sp : Nat → Bool) (a b : Int), (Lit.int .u64 a).wf = true → (Lit.int .u64 b).wf = true → DataW.Trod enc Try.prog W' 0 sp true 24 (.agg #[.int .u64 a, .int .u64 b]) (.agg [.lit (.int .u64 a), .lit (.int .u64 b)]) [] := fun W' sp a b wa wb =>
    shut_agg2 (y0 := (.lit (.int .u64 a), [])) (y1 := (.lit (.int .u64 b), [])) Try.underlying24 (by kernel_rfl) cellsPt ⟨1, by simp [DataW.trod, Try.underlying22, wa]⟩ ⟨1, by simp [DataW.trod, Try.underlying22, wb]⟩
  refine (crossed_any n0 n1 n2 n3 n4 n5 n6 n7 W h64).mono fun e W' ⟨he, bel⟩ => ?_
  subst he
  exact ⟨_, rfl, _, _, _, [], [], [], hW', trodAll_mk1 (shut_bool Try.underlying4 _), trodAll_mk4 (reads _ _ _ _ w0 w1) (reads _ _ _ _ w2 w3) (reads _ _ _ _ w4 w5) (reads _ _ _ _ w6 w7), rfl, bel.frame _, fun h => by cases h⟩

theorem crossed_holds : Rows.CrossedSaid :=
  OpenClaim.holds_of_wide 4 Try.f4 rfl rfl rfl rfl rfl rfl rfl ⟨rfl, rfl, rfl, rfl, rfl⟩ rfl rfl rfl rfl rfl (by kernel_rfl) Try.func4 (by kernel_rfl)
    (of_decide_eq_true (by kernel_rfl)) (by unfold Func.isWrapper; first | (rw [if_pos (by decide +kernel)]; kernel_rfl) | (rw [if_neg (by decide +kernel)]; exact ⟨rfl, rfl⟩))
    (fun os started H enc _ => lifted os started H enc)

#print axioms crossed_holds
end Go.Proofs.Ytbjjkfmdkmbcfaa
