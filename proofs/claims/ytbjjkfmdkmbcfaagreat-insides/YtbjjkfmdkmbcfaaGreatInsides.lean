import Derived.Test.YtbjjkfmdkmbcfaaGreatLs
import Derived.ProofKit
import Derived.Lib.SmallJoins
import Derived.OpenShut
import Derived.ChangeOld
import Derived.Below
import Derived.Carry
import Derived.SizedLaws
import Derived.Deep.SlicePairs
namespace Go.Proofs.YtbjjkfmdkmbcfaaGreat
open Go.ChangeShapes Go.WideShapes Go.ChangeAt Go.RowKit Go.Joins Go.Deep

theorem own : ownKnob Tryz.prog.godebug = none := by kernel_rfl
theorem cellsPt : Tryz.prog.cellsOf 24 = 2 := by kernel_rfl
theorem cellsU : Tryz.prog.cellsOf 22 = 1 := by kernel_rfl
theorem bytesPt : Tryz.prog.bytesOf 24 = 16 := by kernel_rfl
theorem laidOut : laidOutB Tryz.prog = true := by kernel_rfl

theorem nat_of_wf {a : Int} (h : (Lit.int .u64 a).wf = true) : ∃ n : Nat, a = (n : Int) ∧ n < 2 ^ 64 := by
  have h1 := bounds_u64 h
  exact ⟨a.toNat, by omega, by omega⟩

/-- The slice of points that came in. -/
theorem src_open {H : Type} {enc : TypeId × Value → H} {W : World} {v0 : Value} {d0 : DataW H} {p0 : List MemPlace} {fuel : Nat} (h : DataW.trod enc Tryz.prog W 0 (fun _ => true) true fuel 26 [v0] = some (d0, p0)) (hsz : ∀ elems spare, d0 = .slice elems spare → (elems.length + spare.length) * 16 ≤ reachBytes) :
    ∃ (sp : Option Addr) (n sc : Nat) (ps : List (Nat × Nat)), v0 = .slice sp n sc ∧ SrcAt W (.slice sp n sc) n ps ∧ ps.length = n ∧ n ≤ 8796093021952 ∧ ∀ p ∈ ps, p.1 < 2 ^ 64 ∧ p.2 < 2 ^ 64 := by
  rcases open_slice_pairs Tryz.underlying26 Tryz.underlying24 cellsPt rfl rfl cellsU cellsU h with ⟨hc, hx⟩ | ⟨a, len, cap, m, k, V0, V1, D0, D1, P0, P1, hc, _, hl, hm, hmm, hx, hall⟩
  · simp only [List.cons.injEq, and_true] at hc
    exact ⟨none, 0, 0, [], hc, .inl ⟨rfl, rfl⟩, rfl, by omega, fun p hp => by cases hp⟩
  · simp only [List.cons.injEq, and_true] at hc
    simp only [if_true] at hmm
    subst hmm
    simp only [Prod.mk.injEq] at hx
    have hb : m ≤ 8796093021952 := by
      have h1 := hsz _ _ hx.1
      simp at h1
      have h2 : reachBytes = 140737488351232 := by decide
      omega
    have each : ∀ i, i < m → ∃ q : Nat × Nat, V0 i = .int .u64 (q.1 : Nat) ∧ V1 i = .int .u64 (q.2 : Nat) ∧ q.1 < 2 ^ 64 ∧ q.2 < 2 ^ 64 := fun i hi => by
      obtain ⟨_, _, h0, h1⟩ := hall i hi
      obtain ⟨a0, e0, _, w0⟩ := DataW.trod_int Tryz.underlying22 h0
      obtain ⟨a1, e1, _, w1⟩ := DataW.trod_int Tryz.underlying22 h1
      simp only [List.cons.injEq, and_true] at e0 e1
      obtain ⟨n0, rfl, l0⟩ := nat_of_wf w0
      obtain ⟨n1, rfl, l1⟩ := nat_of_wf w1
      exact ⟨(n0, n1), e0, e1, l0, l1⟩
    obtain ⟨q, hq⟩ := choose_lt each
    refine ⟨some a, len, m, (List.range len).map q, hc, ?_, by simp, by omega, ?_⟩
    · by_cases h0 : m = 0
      · have hl0 : len = 0 := by omega
        subst h0 hl0
        exact .inr (.inl ⟨a, rfl, rfl⟩)
      · obtain ⟨sb, so, spot⟩ := a
        have hc0 := (hall 0 (by omega)).1
        have hspot : spot = none := by simpa [Addr.add] using World.cell?_spot hc0
        subst hspot
        have hlt : sb < W.heap.size := by
          have := World.block_lt_of_cell? W _ hc0
          simpa [Addr.add] using this
        refine .inr (.inr ⟨sb, so, m, rfl, hlt, fun t ht => ?_⟩)
        have ht' : t < len := by simpa using ht
        obtain ⟨g0, g1, _, _⟩ := hall t (by omega)
        obtain ⟨e0, e1, _, _⟩ := hq t (by omega)
        have eg : ((List.range len).map q).getD t (0, 0) = q t := by
          rw [List.getD_eq_getElem?_getD, List.getElem?_map, List.getElem?_range ht']; rfl
        have ad : ∀ j, (⟨sb, so, none⟩ : Addr).add j = ⟨sb, so + j, none⟩ := fun j => by unfold Addr.add; split <;> simp_all
        rw [ad, e0] at g0
        rw [ad, e1] at g1
        rw [eg]
        exact ⟨g0, by rw [Nat.add_assoc]; exact g1⟩
    · intro p hp
      obtain ⟨i, hi, rfl⟩ := List.mem_map.1 hp
      have := List.mem_range.1 hi
      obtain ⟨_, _, l0, l1⟩ := hq i (by omega)
      exact ⟨l0, l1⟩

set_option maxRecDepth 100000 in
theorem lifted (os : Os) (started : os.Started) (H : Type) (enc : TypeId × Value → H) :
    ReturnsInHanded {} Tryz.checked os 6 .any (Rows.insidesSpec.pre6 enc Tryz.prog Tryz.f6 Rows.insidesRow.domain false) (Rows.insidesSpec.post enc Tryz.prog Tryz.f6 false true false false) := by
  refine returnsInHanded_of_change_sized (C := Tryz.checked) own started (by kernel_rfl) Tryz.func6
    (ChangeSpec.witness6 (enc := enc) (C := Tryz.checked) false ⟨#[], #[.slice none 0 0, .agg #[.int .u64 0, .int .u64 0]], []⟩ 8 (by kernel_rfl) (by kernel_rfl) (by kernel_rfl) (by kernel_rfl)) ?_
  intro W base args ds gs before hval0 hW _ hsz0 _
  have hsz : (DataW.weightsEach Tryz.prog (Tryz.f6.params.toList ++ Rows.insidesSpec.plain.varTypes Tryz.prog) (ds ++ gs)).all (· ≤ reachBytes) = true := hsz0
  clear hsz0
  have hval : ∀ (j : Nat) t v, Tryz.f6.params[j]? = some t → args[j]? = some v → Value.okWide Tryz.prog W .any base t v := hval0
  have hW' := hW
  obtain ⟨p, q, hA0, hV, rfl, hfz, hnd⟩ := hW
  have hA : DataW.TrodAll enc Tryz.prog W 0 (fun _ => true) true Tryz.f6.params.toList args.toList ds p := hA0
  rw [Tryz.params6] at hA hval
  obtain ⟨v0, v1, d0, d1, p0, p1, rfl, rfl, rfl, h0, h1⟩ := trodAll_two hA
  obtain ⟨rfl, rfl⟩ := trodVars_none hV
  obtain ⟨c0, c1, y0, y1, m0, rfl, rfl, rfl, hy0, hy1⟩ := open_agg2 Tryz.underlying24 (by kernel_rfl) cellsPt (hval 1 24 v1 rfl rfl) h1
  obtain ⟨a0, e0, rfl, w0⟩ := DataW.trod_int Tryz.underlying22 hy0
  obtain ⟨a1, e1, rfl, w1⟩ := DataW.trod_int Tryz.underlying22 hy1
  simp at e0 e1
  subst e0 e1
  clear hA0 hval0
  obtain ⟨n0, rfl, l0⟩ := nat_of_wf w0
  obtain ⟨n1, rfl, l1⟩ := nat_of_wf w1
  simp only [List.append_nil] at hW'
  have hlt : ∀ x ∈ p0, x.block < W.heap.size := fun x hx => by simpa using hW'.lt x hx
  obtain ⟨va, vl, vc, rfl⟩ := okWide_slice Tryz.underlying26 (hval 0 26 v0 rfl rfl)
  have h0k := h0
  obtain ⟨fuel, ht0⟩ := h0
  have hreach : ∀ elems spare, d0 = .slice elems spare → (elems.length + spare.length) * 16 ≤ reachBytes := fun elems spare hd => by
    have hr := sized_slice hsz (j := 0) (t := 26) (e := 24) (elems := elems) (spare := spare) rfl (by rw [hd]; rfl) Tryz.underlying26
    rwa [bytesPt] at hr
  obtain ⟨sp, n, sc, ps, hv0, hsrc, hn, hnb, h64⟩ := src_open (v0 := .slice va vl vc) (by simpa [Value.cells] using ht0) hreach
  simp only [Value.slice.injEq] at hv0
  obtain ⟨rfl, rfl, rfl⟩ := hv0
  have hp64 : ∀ p ∈ [(n0, n1)], p.1 < 2 ^ 64 ∧ p.2 < 2 ^ 64 := by
    intro p hp
    simp at hp
    subst hp
    exact ⟨l0, l1⟩
  have reads : ∀ (W' : World) (sp : Nat → Bool) (a b : Int), (Lit.int .u64 a).wf = true → (Lit.int .u64 b).wf = true → DataW.Trod enc Tryz.prog W' 0 sp true 24 (.agg #[.int .u64 a, .int .u64 b]) (.agg [.lit (.int .u64 a), .lit (.int .u64 b)]) [] := fun W' sp a b wa wb =>
    shut_agg2 (y0 := (.lit (.int .u64 a), [])) (y1 := (.lit (.int .u64 b), [])) Tryz.underlying24 (by kernel_rfl) cellsPt ⟨1, by simp [DataW.trod, Tryz.underlying22, wa]⟩ ⟨1, by simp [DataW.trod, Tryz.underlying22, wb]⟩
  refine (insides_any va vl vc n0 n1 ps W hsrc hn hnb h64 hp64).mono fun e W' ⟨he, bel⟩ => ?_
  subst he
  exact ⟨_, rfl, _, _, _, [], p0 ++ [], [], hW', trodAll_mk1 (shut_bool Tryz.underlying4 _), trodAll_mk2 (Below.trod laidOut (by kernel_rfl) (of_decide_eq_true (by kernel_rfl)) h0k bel hlt) (reads _ _ _ _ w0 w1), rfl, bel.frame _, fun h => by cases h⟩

theorem insides_holds : Rows.InsidesSaid :=
  OpenClaim.holds_of_wide 6 Tryz.f6 rfl rfl rfl rfl rfl rfl rfl ⟨rfl, rfl, rfl, rfl, rfl⟩ rfl rfl rfl rfl rfl (by kernel_rfl) Tryz.func6 (by kernel_rfl)
    (of_decide_eq_true (by kernel_rfl)) (by unfold Func.isWrapper; first | (rw [if_pos (by decide +kernel)]; kernel_rfl) | (rw [if_neg (by decide +kernel)]; exact ⟨rfl, rfl⟩))
    (fun os started H enc _ => lifted os started H enc)

#print axioms insides_holds
end Go.Proofs.YtbjjkfmdkmbcfaaGreat
