import Derived.Test.YtbjjkfmdkmbcfaaJg
import Derived.ProofKit
import Derived.Lib.SmallJoins
import Derived.OpenShut
import Derived.ChangeOld
import Derived.Below
import Derived.Carry
import Derived.SizedLaws
import Derived.Deep.SlicePairs
namespace Go.Proofs.Ytbjjkfmdkmbcfaa
open Go.ChangeShapes Go.WideShapes Go.ChangeAt Go.RowKit Go.Joins Go.Deep

theorem own : ownKnob Try.prog.godebug = none := by kernel_rfl
theorem cellsSp : Try.prog.cellsOf 32 = 2 := by kernel_rfl
theorem cellsI : Try.prog.cellsOf 3 = 1 := by kernel_rfl
theorem bytesSp : Try.prog.bytesOf 32 = 16 := by kernel_rfl
theorem laidOut : laidOutB Try.prog = true := by kernel_rfl

theorem i64_of_wf {a : Int} (h : (Lit.int .i64 a).wf = true) : I64 a := by
  have h1 := bounds_i64 h
  exact ⟨by omega, by omega⟩

/-- The slice of spots that came in. -/
theorem src_open {H : Type} {enc : TypeId × Value → H} {W : World} {v0 : Value} {d0 : DataW H} {p0 : List MemPlace} {fuel : Nat} (h : DataW.trod enc Try.prog W 0 (fun _ => true) true fuel 36 [v0] = some (d0, p0)) (hsz : ∀ elems spare, d0 = .slice elems spare → (elems.length + spare.length) * 16 ≤ reachBytes) :
    ∃ (sp : Option Addr) (n sc : Nat) (ss : List (Int × Int)), v0 = .slice sp n sc ∧ SsAt W sp n ss ∧ n ≤ 8796093021952 ∧ ∀ t, t < n → I64 (ss.getD t (0, 0)).1 ∧ I64 (ss.getD t (0, 0)).2 := by
  rcases open_slice_pairs Try.underlying36 Try.underlying32 cellsSp rfl rfl cellsI cellsI h with ⟨hc, hx⟩ | ⟨a, len, cap, m, k, V0, V1, D0, D1, P0, P1, hc, _, hl, hm, hmm, hx, hall⟩
  · simp only [List.cons.injEq, and_true] at hc
    exact ⟨none, 0, 0, [], hc, .inl rfl, by omega, fun t ht => by omega⟩
  · simp only [List.cons.injEq, and_true] at hc
    simp only [if_true] at hmm
    subst hmm
    simp only [Prod.mk.injEq] at hx
    have hb : m ≤ 8796093021952 := by
      have h1 := hsz _ _ hx.1
      simp at h1
      have h2 : reachBytes = 140737488351232 := by decide
      omega
    have each : ∀ i, i < m → ∃ q : Int × Int, V0 i = .int .i64 q.1 ∧ V1 i = .int .i64 q.2 ∧ I64 q.1 ∧ I64 q.2 := fun i hi => by
      obtain ⟨_, _, h0, h1⟩ := hall i hi
      obtain ⟨a0, e0, _, w0⟩ := DataW.trod_int Try.underlying3 h0
      obtain ⟨a1, e1, _, w1⟩ := DataW.trod_int Try.underlying3 h1
      simp only [List.cons.injEq, and_true] at e0 e1
      exact ⟨(a0, a1), e0, e1, i64_of_wf w0, i64_of_wf w1⟩
    obtain ⟨q, hq⟩ := choose_lt each
    have eg : ∀ t, t < len → ((List.range len).map q).getD t (0, 0) = q t := fun t ht => by
      rw [List.getD_eq_getElem?_getD, List.getElem?_map, List.getElem?_range ht]; rfl
    refine ⟨some a, len, m, (List.range len).map q, hc, ?_, by omega, ?_⟩
    · by_cases h0 : len = 0
      · exact .inl h0
      · obtain ⟨sb, so, spot⟩ := a
        have hc0 := (hall 0 (by omega)).1
        have hspot : spot = none := by simpa [Addr.add] using World.cell?_spot hc0
        subst hspot
        have hlt : sb < W.heap.size := by
          have := World.block_lt_of_cell? W _ hc0
          simpa [Addr.add] using this
        refine .inr ⟨sb, so, rfl, hlt, fun t ht => ?_⟩
        obtain ⟨g0, g1, _, _⟩ := hall t (by omega)
        obtain ⟨e0, e1, _, _⟩ := hq t (by omega)
        have ad : ∀ j, (⟨sb, so, none⟩ : Addr).add j = ⟨sb, so + j, none⟩ := fun j => by unfold Addr.add; split <;> simp_all
        rw [ad, e0] at g0
        rw [ad, e1] at g1
        rw [eg t ht]
        exact ⟨g0, by rw [Nat.add_assoc]; exact g1⟩
    · intro t ht
      rw [eg t ht]
      obtain ⟨_, _, l0, l1⟩ := hq t (by omega)
      exact ⟨l0, l1⟩

set_option maxRecDepth 100000 in
theorem lifted (os : Os) (started : os.Started) (H : Type) (enc : TypeId × Value → H) :
    ReturnsInHanded {} Try.checked os 8 .any (Rows.hulledSpec.pre6 enc Try.prog Try.f8 Rows.hulledRow.domain false) (Rows.hulledSpec.post enc Try.prog Try.f8 false true false false) := by
  refine returnsInHanded_of_change_sized (C := Try.checked) own started (by kernel_rfl) Try.func8
    (ChangeSpec.witness6 (enc := enc) (C := Try.checked) false ⟨#[], #[.slice none 0 0, .int .i64 0], []⟩ 8 (by kernel_rfl) (by kernel_rfl) (by kernel_rfl) (by kernel_rfl)) ?_
  intro W base args ds gs before hval0 hW _ hsz0 _
  have hsz : (DataW.weightsEach Try.prog (Try.f8.params.toList ++ Rows.hulledSpec.plain.varTypes Try.prog) (ds ++ gs)).all (· ≤ reachBytes) = true := hsz0
  clear hsz0
  have hval : ∀ (j : Nat) t v, Try.f8.params[j]? = some t → args[j]? = some v → Value.okWide Try.prog W .any base t v := hval0
  have hW' := hW
  obtain ⟨p, q, hA0, hV, rfl, hfz, hnd⟩ := hW
  have hA : DataW.TrodAll enc Try.prog W 0 (fun _ => true) true Try.f8.params.toList args.toList ds p := hA0
  rw [Try.params8] at hA hval
  obtain ⟨v0, v1, d0, d1, p0, p1, rfl, rfl, rfl, h0, h1⟩ := trodAll_two hA
  obtain ⟨rfl, rfl⟩ := trodVars_none hV
  obtain ⟨a1, rfl, rfl, rfl, w1⟩ := open_int Try.underlying3 (hval 1 3 v1 rfl rfl) h1
  clear hA0 hval0
  simp only [List.append_nil] at hW'
  have hlt : ∀ x ∈ p0, x.block < W.heap.size := fun x hx => by simpa using hW'.lt x hx
  obtain ⟨va, vl, vc, rfl⟩ := okWide_slice Try.underlying36 (hval 0 36 v0 rfl rfl)
  have h0k := h0
  obtain ⟨fuel, ht0⟩ := h0
  have hreach : ∀ elems spare, d0 = .slice elems spare → (elems.length + spare.length) * 16 ≤ reachBytes := fun elems spare hd => by
    have hr := sized_slice hsz (j := 0) (t := 36) (e := 32) (elems := elems) (spare := spare) rfl (by rw [hd]; rfl) Try.underlying36
    rwa [bytesSp] at hr
  obtain ⟨sp, n, sc, ss, hv0, hsrc, hnb, hI⟩ := src_open (v0 := .slice va vl vc) (by simpa [Value.cells] using ht0) hreach
  simp only [Value.slice.injEq] at hv0
  obtain ⟨rfl, rfl, rfl⟩ := hv0
  refine (hulled_any va vl vc a1 ss W hsrc hnb (i64_of_wf w1) hI).mono fun e W' ⟨he, bel⟩ => ?_
  subst he
  exact ⟨_, rfl, _, _, _, [], p0 ++ [], [], hW', trodAll_mk1 (shut_bool Try.underlying4 _), trodAll_mk2 (Below.trod laidOut (by kernel_rfl) (of_decide_eq_true (by kernel_rfl)) h0k bel hlt) (shut_int Try.underlying3 w1), rfl, bel.frame _, fun h => by cases h⟩

theorem hulled_holds : Rows.HulledSaid :=
  OpenClaim.holds_of_wide 8 Try.f8 rfl rfl rfl rfl rfl rfl rfl ⟨rfl, rfl, rfl, rfl, rfl⟩ rfl rfl rfl rfl rfl (by kernel_rfl) Try.func8 (by kernel_rfl)
    (of_decide_eq_true (by kernel_rfl)) (by unfold Func.isWrapper; first | (rw [if_pos (by decide +kernel)]; kernel_rfl) | (rw [if_neg (by decide +kernel)]; exact ⟨rfl, rfl⟩))
    (fun os started H enc _ => lifted os started H enc)

#print axioms hulled_holds
end Go.Proofs.Ytbjjkfmdkmbcfaa
