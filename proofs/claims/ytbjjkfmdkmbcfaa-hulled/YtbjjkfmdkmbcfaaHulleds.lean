import Derived.Test.YtbjjkfmdkmbcfaaJf
import Derived.ProofKit
import Derived.Lib.SmallJoins
import Derived.OpenShut
import Derived.ChangeOld
import Derived.Below
import Derived.Carry
import Derived.SizedLaws
import Derived.Deep.SlicePairs
namespace Go.Proofs.Ytbjjkfmdkmbcfaa
open Go.RowKit
open PlRd (sgn)
open HL (Pt cr lx Btw Ring hullL)

theorem nodup_le : ∀ (n : Nat) (l : List Nat), l.Nodup → (∀ x ∈ l, x < n) → l.length ≤ n := by
  intro n
  induction n with
  | zero =>
    intro l _ h
    cases l with
    | nil => exact Nat.le_refl _
    | cons a l => exact absurd (h a (by simp)) (Nat.not_lt_zero _)
  | succ n ih =>
    intro l hn h
    by_cases hm : n ∈ l
    · have h1 := ih (l.erase n) (hn.erase n) (fun x hx => by
        have h2 := (hn.mem_erase_iff).1 hx
        have h3 := h x h2.2
        have := h2.1
        omega)
      rw [List.length_erase_of_mem hm] at h1
      omega
    · have h1 := ih l hn (fun x hx => by
        have h3 := h x hx
        have : x ≠ n := fun e => hm (e ▸ hx)
        omega)
      omega

/-- From each corner to the next. -/
theorem ring_edge {X : Nat → Pt} {O xs : List Nat} (h : Ring X O xs) (i : Nat) (hi : i < xs.length) : HL.Edge X O (xs.getD i 0) (xs.getD ((i + 1) % xs.length) 0) := by
  have h0 : 0 < xs.length := by omega
  obtain ⟨a, ha⟩ : ∃ a, xs.head? = some a := by
    cases xs with
    | nil => simp at h0
    | cons a l => exact ⟨a, rfl⟩
  have hl := h.links
  rw [ha] at hl
  have h1 := HL.Fk.get hl i (by simp; omega)
  simp only [Option.toList_some] at h1
  have e1 : (xs ++ [a]).getD i 0 = xs.getD i 0 := by
    rw [List.getD_eq_getElem?_getD, List.getD_eq_getElem?_getD, List.getElem?_append_left hi]
  have e2 : (xs ++ [a]).getD (i + 1) 0 = xs.getD ((i + 1) % xs.length) 0 := by
    by_cases g : i + 1 < xs.length
    · rw [Nat.mod_eq_of_lt g, List.getD_eq_getElem?_getD, List.getD_eq_getElem?_getD, List.getElem?_append_left g]
    · have g2 : i + 1 = xs.length := by omega
      rw [g2, Nat.mod_self, List.getD_eq_getElem?_getD, List.getElem?_concat_length, List.getD_eq_getElem?_getD, ← List.head?_eq_getElem?, ha]
  rw [e1, e2] at h1
  exact h1

theorem getD_at {xs : List Nat} {i : Nat} (hi : i < xs.length) : xs.getD i 0 = xs[i] := by
  rw [List.getD_eq_getElem?_getD, List.getElem?_eq_getElem hi]
  rfl

theorem turn_sgn {a b c : Nat × Nat} (ha : mayB a.1 = true ∧ mayB a.2 = true) (hb : mayB b.1 = true ∧ mayB b.2 = true) (hc : mayB c.1 = true ∧ mayB c.2 = true) : sgn (turnV a b c) = sgn (cr (crd a.1, crd a.2) (crd b.1, crd b.2) (crd c.1, crd c.2)) := by
  unfold turnV cr
  rw [valB_crd ha.1, valB_crd ha.2, valB_crd hb.1, valB_crd hb.2, valB_crd hc.1, valB_crd hc.2]
  rw [turn_units, sgn_scale _ _ (Int.mul_pos (PlRd.two_pow_pos 974) (PlRd.two_pow_pos 974))]

theorem crdX_at {ps : List (Nat × Nat)} {xs : List Nat} {j : Nat} (hj : j < xs.length) : crdX (xs.map fun x => ps.getD x (0, 0)) j = crdX ps (xs.getD j 0) := by
  have e : (xs.map fun x => ps.getD x (0, 0)).getD j (0, 0) = ps.getD (xs.getD j 0) (0, 0) := by
    rw [List.getD_eq_getElem?_getD, List.getElem?_map, List.getElem?_eq_getElem hj, getD_at hj]
    rfl
  unfold crdX
  rw [e]

theorem map_at {ps : List (Nat × Nat)} {xs : List Nat} {j : Nat} (hj : j < xs.length) : (xs.map fun x => ps.getD x (0, 0)).getD j (0, 0) = ps.getD (xs.getD j 0) (0, 0) := by
  rw [List.getD_eq_getElem?_getD, List.getElem?_map, List.getElem?_eq_getElem hj, getD_at hj]
  rfl

/-- What a row of corners is asked, from what it is. -/
structure Cn (X : Nat → Pt) (n : Nat) (xs : List Nat) : Prop where
  zero : xs.length = 0 ↔ n = 0
  mem : ∀ x ∈ xs, x < n
  apart : xs.Pairwise fun i j => X i ≠ X j
  one : xs.length = 1 → ∀ i, i < n → X i = X (xs.getD 0 0)
  edge : 2 ≤ xs.length → ∀ i, i < xs.length → ∀ q, q < n → 0 ≤ cr (X (xs.getD i 0)) (X (xs.getD ((i + 1) % xs.length) 0)) (X q) ∧ (cr (X (xs.getD i 0)) (X (xs.getD ((i + 1) % xs.length) 0)) (X q) = 0 → Btw (X (xs.getD i 0)) (X (xs.getD ((i + 1) % xs.length) 0)) (X q))
  first : ∀ i, i < n → ¬ lx (X i) (X (xs.getD 0 0))

theorem cn_of {X : Nat → Pt} {n : Nat} {O : List Nat} (h : Ord X n O) : Cn X n (hullL X O) := by
  have hO0 : O.length = 0 ↔ n = 0 := by
    constructor
    · intro e
      rcases Nat.eq_zero_or_pos n with g | g
      · exact g
      · obtain ⟨q, hq, _⟩ := h.all 0 g
        rw [List.eq_nil_of_length_eq_zero e] at hq
        cases hq
    · intro e
      cases O with
      | nil => rfl
      | cons a l => have := h.mem a (by simp); omega
  have hfirst : ∀ a, O.head? = some a → ∀ i, i < n → ¬ lx (X i) (X a) := by
    intro a ha i hi
    obtain ⟨q, hq, e⟩ := h.all i hi
    rw [← e]
    cases O with
    | nil => cases ha
    | cons b l =>
      simp only [List.head?_cons, Option.some.injEq] at ha
      subst ha
      rcases List.mem_cons.1 hq with g | g
      · rw [g]; exact HL.lx_irr _
      · exact HL.lx_not (List.rel_of_pairwise_cons h.sorted g)
  by_cases h2 : O.length < 2
  · have e : hullL X O = O := by unfold hullL; rw [if_pos h2]
    rw [e]
    refine ⟨hO0, h.mem, ?_, ?_, fun g => by omega, ?_⟩
    · exact h.sorted.imp fun g e => by rw [e] at g; exact HL.lx_irr _ g
    · intro g i hi
      match O, g, h with
      | [a], _, h =>
        obtain ⟨q, hq, e⟩ := h.all i hi
        simp only [List.mem_singleton] at hq
        rw [← e, hq]
        rfl
    · intro i hi
      match O, hfirst, h with
      | [], _, h => have := hO0; obtain ⟨q, hq, _⟩ := h.all i hi; cases hq
      | a :: l, hf, _ => exact hf a rfl i hi
  · have R := HL.hull_ring (by omega) h.sorted
    refine ⟨?_, fun x hx => h.mem x (R.mem x hx), R.apart, ?_, ?_, ?_⟩
    · have := R.two
      omega
    · have := R.two
      omega
    · intro _ i hi q hq
      obtain ⟨q', hq', e⟩ := h.all q hq
      rw [← e]
      exact (ring_edge R i hi).2 q' hq'
    · intro i hi
      have hf := R.first
      have ht := R.two
      generalize hullL X O = xs at *
      cases xs with
      | nil => simp at ht
      | cons a l => exact hfirst a hf.symm i hi

theorem hf_of {ss : List (Int × Int)} {k : Int} {ps : List (Nat × Nat)} {xs : List Nat} (hB : BtL ss k ps) (h : Cn (crdX ps) ps.length xs) : HF ss ps xs (xs.map fun x => ps.getD x (0, 0)) := by
  have hap : ∀ i (hi : i < xs.length) j (hj : j < xs.length), i ≠ j → crdX ps (xs.getD i 0) ≠ crdX ps (xs.getD j 0) := by
    intro i hi j hj hne
    rw [getD_at hi, getD_at hj]
    have hp := List.pairwise_iff_getElem.1 h.apart
    rcases Nat.lt_or_gt_of_ne hne with g | g
    · exact hp i j hi hj g
    · exact fun e => hp j i hj hi g e.symm
  have hmem : ∀ j, j < xs.length → xs.getD j 0 < ps.length := fun j hj => by rw [getD_at hj]; exact h.mem _ (List.getElem_mem hj)
  have hmay : ∀ t, t < ps.length → mayB (ps.getD t (0, 0)).1 = true ∧ mayB (ps.getD t (0, 0)).2 = true := fun t ht => ⟨(hB t ht).1.may, (hB t ht).2.may⟩
  have hrg : 2 ≤ xs.length → Rg (crdX (xs.map fun x => ps.getD x (0, 0))) xs.length := fun h2 => by
    refine ⟨fun i hi j hj => ?_, fun i hi j hj hne => ?_⟩
    · rw [crdX_at hi, crdX_at hj, crdX_at (Nat.mod_lt _ (by omega))]
      exact h.edge h2 i hi _ (hmem j hj)
    · rw [crdX_at hi, crdX_at hj]
      exact hap i hi j hj hne
  have hlf : 2 ≤ xs.length → ∀ t, t < ps.length → Lf (crdX (xs.map fun x => ps.getD x (0, 0))) xs.length (crdX ps t) := fun h2 t ht i hi => by
    rw [crdX_at hi, crdX_at (Nat.mod_lt _ (by omega))]
    exact h.edge h2 i hi t ht
  have hll : (xs.map fun x => ps.getD x (0, 0)).length = xs.length := List.length_map _
  refine ⟨?_, h.zero, fun j hj => h.mem _ (List.getElem_mem hj), rfl, ?_, ?_, ?_, ?_, ?_⟩
  · refine nodup_le _ xs ?_ h.mem
    exact h.apart.imp fun g e => g (by rw [e])
  · intro i hi j hj e
    have hj' : j < xs.length := by omega
    have h1 := hap i hi j hj' (by omega)
    apply h1
    rw [getD_at hi, getD_at hj']
    unfold crdX
    rw [e]
  · intro t ht
    rw [hll]
    by_cases h2 : 2 ≤ xs.length
    · exact ins_ring (hrg h2) h2 (hlf h2 t ht)
    · have h0 := h.zero
      have h1 : xs.length = 1 := by omega
      have e : crdX ps t = crdX (xs.map fun x => ps.getD x (0, 0)) 0 := by
        rw [h.one h1 t ht, crdX_at (by omega)]
      have e2 : (crd (ps.getD t (0, 0)).1, crd (ps.getD t (0, 0)).2) = crdX (xs.map fun x => ps.getD x (0, 0)) 0 := e
      rw [e2, h1, ins_on (k := 0) (by omega)]
      · exact Int.le_refl _
      · unfold edgeOn onP
        generalize crdX (xs.map fun x => ps.getD x (0, 0)) = R
        simp [PlRd.sgn]
  · intro t ht j hj
    rw [hll] at hj ⊢
    have hj1 : (j + 1) % xs.length < xs.length := Nat.mod_lt _ (by omega)
    rw [map_at hj, map_at hj1, turn_sgn (hmay _ (hmem j hj)) (hmay _ (hmem _ hj1)) (hmay t ht)]
    by_cases h2 : 2 ≤ xs.length
    · have h9 := (h.edge h2 j hj t ht).1
      rw [← Int.not_lt]
      intro g
      have := sgn_le (x := cr (crd (ps.getD (xs.getD j 0) (0, 0)).1, crd (ps.getD (xs.getD j 0) (0, 0)).2) (crd (ps.getD (xs.getD ((j + 1) % xs.length) 0) (0, 0)).1, crd (ps.getD (xs.getD ((j + 1) % xs.length) 0) (0, 0)).2) (crd (ps.getD t (0, 0)).1, crd (ps.getD t (0, 0)).2))
      have g1 := this.1 (by omega)
      have e0 : cr (crd (ps.getD (xs.getD j 0) (0, 0)).1, crd (ps.getD (xs.getD j 0) (0, 0)).2) (crd (ps.getD (xs.getD ((j + 1) % xs.length) 0) (0, 0)).1, crd (ps.getD (xs.getD ((j + 1) % xs.length) 0) (0, 0)).2) (crd (ps.getD t (0, 0)).1, crd (ps.getD t (0, 0)).2) = 0 := Int.le_antisymm g1 h9
      rw [e0] at g
      exact absurd g (by decide)
    · have h1 : xs.length = 1 := by omega
      have hj0 : j = 0 := by omega
      subst hj0
      rw [h1]
      rw [show (0 + 1) % 1 = 0 from rfl]
      unfold cr
      simp [PlRd.sgn]
  · intro h2 j hj
    rw [hll] at h2 hj ⊢
    have hj1 : (j + 1) % xs.length < xs.length := Nat.mod_lt _ (by omega)
    have hj2 : (j + 2) % xs.length < xs.length := Nat.mod_lt _ (by omega)
    have h9 := (hrg (by omega)).left h2 hj
    rw [crdX_at hj, crdX_at hj1, crdX_at hj2] at h9
    rw [map_at hj, map_at hj1, map_at hj2, turn_sgn (hmay _ (hmem j hj)) (hmay _ (hmem _ hj1)) (hmay _ (hmem _ hj2))]
    have h8 : 0 < cr (crd (ps.getD (xs.getD j 0) (0, 0)).1, crd (ps.getD (xs.getD j 0) (0, 0)).2) (crd (ps.getD (xs.getD ((j + 1) % xs.length) 0) (0, 0)).1, crd (ps.getD (xs.getD ((j + 1) % xs.length) 0) (0, 0)).2) (crd (ps.getD (xs.getD ((j + 2) % xs.length) 0) (0, 0)).1, crd (ps.getD (xs.getD ((j + 2) % xs.length) 0) (0, 0)).2) := h9
    unfold PlRd.sgn
    rw [if_pos h8]
  · intro t ht x0 hx hlt
    have h0 : 0 < xs.length := by
      cases xs with
      | nil => simp at hx
      | cons a l => simp
    have e0 : xs.getD 0 0 = x0 := by rw [List.getD_eq_getElem?_getD, hx]; rfl
    have h1 := h.first t ht
    rw [e0] at h1
    have hx0 : x0 < ps.length := by rw [← e0]; exact hmem 0 h0
    apply h1
    unfold crdX lx
    simp only
    rw [(hB t ht).1.val, (hB t ht).2.val, (hB x0 hx0).1.val, (hB x0 hx0).2.val]
    have hp := PlRd.two_pow_pos (k + 100).toNat
    rcases hlt with g | ⟨g1, g2⟩
    · exact .inl (Int.mul_lt_mul_of_pos_right g hp)
    · exact .inr ⟨by rw [g1], Int.mul_lt_mul_of_pos_right g2 hp⟩

theorem hulled_any (va : Option Addr) (n c : Nat) (pw : Int) (ss : List (Int × Int)) (w : World) (hs : SsAt w va n ss) (hn : n ≤ 8796093021952) (hpw : I64 pw) (hI : ∀ t, t < n → I64 (ss.getD t (0, 0)).1 ∧ I64 (ss.getD t (0, 0)).2) :
    Calls Try.prog 8 #[.slice va n c, .int .i64 pw] w fun e w' => e = .returned (.bool true) ∧ Below w.heap.size w w' :=
  hulled_walk va n c (min n 60) pw (scaleI pw) ss w rfl hs hn ⟨fun V => scale_any pw V hpw⟩ hI (scaleI_range pw) fun _ hB _ ho => ⟨_, hf_of hB (cn_of ho.ord)⟩

end Go.Proofs.Ytbjjkfmdkmbcfaa

namespace Go.Proofs.Ytbjjkfmdkmbcfaa
open Go.ChangeShapes Go.WideShapes Go.ChangeAt Go.RowKit Go.Joins Go.Deep

theorem own : ownKnob Try.prog.godebug = none := by kernel_rfl
theorem cellsSp : Try.prog.cellsOf 32 = 2 := by kernel_rfl
theorem cellsI : Try.prog.cellsOf 3 = 1 := by kernel_rfl
theorem bytesSp : Try.prog.bytesOf 32 = 16 := by kernel_rfl
theorem laidOut : laidOutB Try.prog = true := by kernel_rfl

theorem i64_of_wf {a : Int} (h : (Lit.int .i64 a).wf = true) : I64 a := by
  have h1 := bounds_i64 h
  exact ⟨by omega, by omega⟩

/-- The slice of spots that came in. -/
theorem src_open {H : Type} {enc : TypeId × Value → H} {W : World} {v0 : Value} {d0 : DataW H} {p0 : List MemPlace} {fuel : Nat} (h : DataW.trod enc Try.prog W 0 (fun _ => true) true fuel 36 [v0] = some (d0, p0)) (hsz : ∀ elems spare, d0 = .slice elems spare → (elems.length + spare.length) * 16 ≤ reachBytes) :
    ∃ (sp : Option Addr) (n sc : Nat) (ss : List (Int × Int)), v0 = .slice sp n sc ∧ SsAt W sp n ss ∧ n ≤ 8796093021952 ∧ ∀ t, t < n → I64 (ss.getD t (0, 0)).1 ∧ I64 (ss.getD t (0, 0)).2 := by
  rcases open_slice_pairs Try.underlying36 Try.underlying32 cellsSp rfl rfl cellsI cellsI h with ⟨hc, hx⟩ | ⟨a, len, cap, m, k, V0, V1, D0, D1, P0, P1, hc, _, hl, hm, hmm, hx, hall⟩
  · simp only [List.cons.injEq, and_true] at hc
    exact ⟨none, 0, 0, [], hc, .inl rfl, by omega, fun t ht => by omega⟩
  · simp only [List.cons.injEq, and_true] at hc
    simp only [if_true] at hmm
    subst hmm
    simp only [Prod.mk.injEq] at hx
    have hb : m ≤ 8796093021952 := by
      have h1 := hsz _ _ hx.1
      simp at h1
      have h2 : reachBytes = 140737488351232 := by decide
      omega
    have each : ∀ i, i < m → ∃ q : Int × Int, V0 i = .int .i64 q.1 ∧ V1 i = .int .i64 q.2 ∧ I64 q.1 ∧ I64 q.2 := fun i hi => by
      obtain ⟨_, _, h0, h1⟩ := hall i hi
      obtain ⟨a0, e0, _, w0⟩ := DataW.trod_int Try.underlying3 h0
      obtain ⟨a1, e1, _, w1⟩ := DataW.trod_int Try.underlying3 h1
      simp only [List.cons.injEq, and_true] at e0 e1
      exact ⟨(a0, a1), e0, e1, i64_of_wf w0, i64_of_wf w1⟩
    obtain ⟨q, hq⟩ := choose_lt each
    have eg : ∀ t, t < len → ((List.range len).map q).getD t (0, 0) = q t := fun t ht => by
      rw [List.getD_eq_getElem?_getD, List.getElem?_map, List.getElem?_range ht]; rfl
    refine ⟨some a, len, m, (List.range len).map q, hc, ?_, by omega, ?_⟩
    · by_cases h0 : len = 0
      · exact .inl h0
      · obtain ⟨sb, so, spot⟩ := a
        have hc0 := (hall 0 (by omega)).1
        have hspot : spot = none := by simpa [Addr.add] using World.cell?_spot hc0
        subst hspot
        have hlt : sb < W.heap.size := by
          have := World.block_lt_of_cell? W _ hc0
          simpa [Addr.add] using this
        refine .inr ⟨sb, so, rfl, hlt, fun t ht => ?_⟩
        obtain ⟨g0, g1, _, _⟩ := hall t (by omega)
        obtain ⟨e0, e1, _, _⟩ := hq t (by omega)
        have ad : ∀ j, (⟨sb, so, none⟩ : Addr).add j = ⟨sb, so + j, none⟩ := fun j => by unfold Addr.add; split <;> simp_all
        rw [ad, e0] at g0
        rw [ad, e1] at g1
        rw [eg t ht]
        exact ⟨g0, by rw [Nat.add_assoc]; exact g1⟩
    · intro t ht
      rw [eg t ht]
      obtain ⟨_, _, l0, l1⟩ := hq t (by omega)
      exact ⟨l0, l1⟩

set_option maxRecDepth 100000 in
theorem lifted (os : Os) (started : os.Started) (H : Type) (enc : TypeId × Value → H) :
    ReturnsInHanded {} Try.checked os 8 .any (Rows.hulledSpec.pre6 enc Try.prog Try.f8 Rows.hulledRow.domain false) (Rows.hulledSpec.post enc Try.prog Try.f8 false true false false) := by
  refine returnsInHanded_of_change_sized (C := Try.checked) own started (by kernel_rfl) Try.func8
    (ChangeSpec.witness6 (enc := enc) (C := Try.checked) false ⟨#[], #[.slice none 0 0, .int .i64 0], []⟩ 8 (by kernel_rfl) (by kernel_rfl) (by kernel_rfl) (by kernel_rfl)) ?_
  intro W base args ds gs before hval0 hW _ hsz0 _
  have hsz : (DataW.weightsEach Try.prog (Try.f8.params.toList ++ Rows.hulledSpec.plain.varTypes Try.prog) (ds ++ gs)).all (· ≤ reachBytes) = true := hsz0
  clear hsz0
  have hval : ∀ (j : Nat) t v, Try.f8.params[j]? = some t → args[j]? = some v → Value.okWide Try.prog W .any base t v := hval0
  have hW' := hW
  obtain ⟨p, q, hA0, hV, rfl, hfz, hnd⟩ := hW
  have hA : DataW.TrodAll enc Try.prog W 0 (fun _ => true) true Try.f8.params.toList args.toList ds p := hA0
  rw [Try.params8] at hA hval
  obtain ⟨v0, v1, d0, d1, p0, p1, rfl, rfl, rfl, h0, h1⟩ := trodAll_two hA
  obtain ⟨rfl, rfl⟩ := trodVars_none hV
  obtain ⟨a1, rfl, rfl, rfl, w1⟩ := open_int Try.underlying3 (hval 1 3 v1 rfl rfl) h1
  clear hA0 hval0
  simp only [List.append_nil] at hW'
  have hlt : ∀ x ∈ p0, x.block < W.heap.size := fun x hx => by simpa using hW'.lt x hx
  obtain ⟨va, vl, vc, rfl⟩ := okWide_slice Try.underlying36 (hval 0 36 v0 rfl rfl)
  have h0k := h0
  obtain ⟨fuel, ht0⟩ := h0
  have hreach : ∀ elems spare, d0 = .slice elems spare → (elems.length + spare.length) * 16 ≤ reachBytes := fun elems spare hd => by
    have hr := sized_slice hsz (j := 0) (t := 36) (e := 32) (elems := elems) (spare := spare) rfl (by rw [hd]; rfl) Try.underlying36
    rwa [bytesSp] at hr
  obtain ⟨sp, n, sc, ss, hv0, hsrc, hnb, hI⟩ := src_open (v0 := .slice va vl vc) (by simpa [Value.cells] using ht0) hreach
  simp only [Value.slice.injEq] at hv0
  obtain ⟨rfl, rfl, rfl⟩ := hv0
  refine (hulled_any va vl vc a1 ss W hsrc hnb (i64_of_wf w1) hI).mono fun e W' ⟨he, bel⟩ => ?_
  subst he
  exact ⟨_, rfl, _, _, _, [], p0 ++ [], [], hW', trodAll_mk1 (shut_bool Try.underlying4 _), trodAll_mk2 (Below.trod laidOut (by kernel_rfl) (of_decide_eq_true (by kernel_rfl)) h0k bel hlt) (shut_int Try.underlying3 w1), rfl, bel.frame _, fun h => by cases h⟩

theorem hulled_holds : Rows.HulledSaid :=
  OpenClaim.holds_of_wide 8 Try.f8 rfl rfl rfl rfl rfl rfl rfl ⟨rfl, rfl, rfl, rfl, rfl⟩ rfl rfl rfl rfl rfl (by kernel_rfl) Try.func8 (by kernel_rfl)
    (of_decide_eq_true (by kernel_rfl)) (by unfold Func.isWrapper; first | (rw [if_pos (by decide +kernel)]; kernel_rfl) | (rw [if_neg (by decide +kernel)]; exact ⟨rfl, rfl⟩))
    (fun os started H enc _ => lifted os started H enc)

#print axioms hulled_holds
end Go.Proofs.Ytbjjkfmdkmbcfaa
