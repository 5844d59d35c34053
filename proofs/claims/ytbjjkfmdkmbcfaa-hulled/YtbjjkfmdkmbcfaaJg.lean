import Derived.Test.YtbjjkfmdkmbcfaaJf
namespace Go.Proofs.Ytbjjkfmdkmbcfaa
open Go.RowKit
open PlRd (sgn)
open HL (Pt cr lx Btw Ring hullL)

theorem nodup_le : ∀ (n : Nat) (l : List Nat), l.Nodup → (∀ x ∈ l, x < n) → l.length ≤ n := by
  intro n
  induction n with
  | zero =>
    intro l _ h
    cases l with
    | nil => exact Nat.le_refl _
    | cons a l => exact absurd (h a (by simp)) (Nat.not_lt_zero _)
  | succ n ih =>
    intro l hn h
    by_cases hm : n ∈ l
    · have h1 := ih (l.erase n) (hn.erase n) (fun x hx => by
        have h2 := (hn.mem_erase_iff).1 hx
        have h3 := h x h2.2
        have := h2.1
        omega)
      rw [List.length_erase_of_mem hm] at h1
      omega
    · have h1 := ih l hn (fun x hx => by
        have h3 := h x hx
        have : x ≠ n := fun e => hm (e ▸ hx)
        omega)
      omega

/-- From each corner to the next. -/
theorem ring_edge {X : Nat → Pt} {O xs : List Nat} (h : Ring X O xs) (i : Nat) (hi : i < xs.length) : HL.Edge X O (xs.getD i 0) (xs.getD ((i + 1) % xs.length) 0) := by
  have h0 : 0 < xs.length := by omega
  obtain ⟨a, ha⟩ : ∃ a, xs.head? = some a := by
    cases xs with
    | nil => simp at h0
    | cons a l => exact ⟨a, rfl⟩
  have hl := h.links
  rw [ha] at hl
  have h1 := HL.Fk.get hl i (by simp; omega)
  simp only [Option.toList_some] at h1
  have e1 : (xs ++ [a]).getD i 0 = xs.getD i 0 := by
    rw [List.getD_eq_getElem?_getD, List.getD_eq_getElem?_getD, List.getElem?_append_left hi]
  have e2 : (xs ++ [a]).getD (i + 1) 0 = xs.getD ((i + 1) % xs.length) 0 := by
    by_cases g : i + 1 < xs.length
    · rw [Nat.mod_eq_of_lt g, List.getD_eq_getElem?_getD, List.getD_eq_getElem?_getD, List.getElem?_append_left g]
    · have g2 : i + 1 = xs.length := by omega
      rw [g2, Nat.mod_self, List.getD_eq_getElem?_getD, List.getElem?_concat_length, List.getD_eq_getElem?_getD, ← List.head?_eq_getElem?, ha]
  rw [e1, e2] at h1
  exact h1

theorem getD_at {xs : List Nat} {i : Nat} (hi : i < xs.length) : xs.getD i 0 = xs[i] := by
  rw [List.getD_eq_getElem?_getD, List.getElem?_eq_getElem hi]
  rfl

theorem turn_sgn {a b c : Nat × Nat} (ha : mayB a.1 = true ∧ mayB a.2 = true) (hb : mayB b.1 = true ∧ mayB b.2 = true) (hc : mayB c.1 = true ∧ mayB c.2 = true) : sgn (turnV a b c) = sgn (cr (crd a.1, crd a.2) (crd b.1, crd b.2) (crd c.1, crd c.2)) := by
  unfold turnV cr
  rw [valB_crd ha.1, valB_crd ha.2, valB_crd hb.1, valB_crd hb.2, valB_crd hc.1, valB_crd hc.2]
  rw [turn_units, sgn_scale _ _ (Int.mul_pos (PlRd.two_pow_pos 974) (PlRd.two_pow_pos 974))]

theorem crdX_at {ps : List (Nat × Nat)} {xs : List Nat} {j : Nat} (hj : j < xs.length) : crdX (xs.map fun x => ps.getD x (0, 0)) j = crdX ps (xs.getD j 0) := by
  have e : (xs.map fun x => ps.getD x (0, 0)).getD j (0, 0) = ps.getD (xs.getD j 0) (0, 0) := by
    rw [List.getD_eq_getElem?_getD, List.getElem?_map, List.getElem?_eq_getElem hj, getD_at hj]
    rfl
  unfold crdX
  rw [e]

theorem map_at {ps : List (Nat × Nat)} {xs : List Nat} {j : Nat} (hj : j < xs.length) : (xs.map fun x => ps.getD x (0, 0)).getD j (0, 0) = ps.getD (xs.getD j 0) (0, 0) := by
  rw [List.getD_eq_getElem?_getD, List.getElem?_map, List.getElem?_eq_getElem hj, getD_at hj]
  rfl

/-- What a row of corners is asked, from what it is. -/
structure Cn (X : Nat → Pt) (n : Nat) (xs : List Nat) : Prop where
  zero : xs.length = 0 ↔ n = 0
  mem : ∀ x ∈ xs, x < n
  apart : xs.Pairwise fun i j => X i ≠ X j
  one : xs.length = 1 → ∀ i, i < n → X i = X (xs.getD 0 0)
  edge : 2 ≤ xs.length → ∀ i, i < xs.length → ∀ q, q < n → 0 ≤ cr (X (xs.getD i 0)) (X (xs.getD ((i + 1) % xs.length) 0)) (X q) ∧ (cr (X (xs.getD i 0)) (X (xs.getD ((i + 1) % xs.length) 0)) (X q) = 0 → Btw (X (xs.getD i 0)) (X (xs.getD ((i + 1) % xs.length) 0)) (X q))
  first : ∀ i, i < n → ¬ lx (X i) (X (xs.getD 0 0))

theorem cn_of {X : Nat → Pt} {n : Nat} {O : List Nat} (h : Ord X n O) : Cn X n (hullL X O) := by
  have hO0 : O.length = 0 ↔ n = 0 := by
    constructor
    · intro e
      rcases Nat.eq_zero_or_pos n with g | g
      · exact g
      · obtain ⟨q, hq, _⟩ := h.all 0 g
        rw [List.eq_nil_of_length_eq_zero e] at hq
        cases hq
    · intro e
      cases O with
      | nil => rfl
      | cons a l => have := h.mem a (by simp); omega
  have hfirst : ∀ a, O.head? = some a → ∀ i, i < n → ¬ lx (X i) (X a) := by
    intro a ha i hi
    obtain ⟨q, hq, e⟩ := h.all i hi
    rw [← e]
    cases O with
    | nil => cases ha
    | cons b l =>
      simp only [List.head?_cons, Option.some.injEq] at ha
      subst ha
      rcases List.mem_cons.1 hq with g | g
      · rw [g]; exact HL.lx_irr _
      · exact HL.lx_not (List.rel_of_pairwise_cons h.sorted g)
  by_cases h2 : O.length < 2
  · have e : hullL X O = O := by unfold hullL; rw [if_pos h2]
    rw [e]
    refine ⟨hO0, h.mem, ?_, ?_, fun g => by omega, ?_⟩
    · exact h.sorted.imp fun g e => by rw [e] at g; exact HL.lx_irr _ g
    · intro g i hi
      match O, g, h with
      | [a], _, h =>
        obtain ⟨q, hq, e⟩ := h.all i hi
        simp only [List.mem_singleton] at hq
        rw [← e, hq]
        rfl
    · intro i hi
      match O, hfirst, h with
      | [], _, h => have := hO0; obtain ⟨q, hq, _⟩ := h.all i hi; cases hq
      | a :: l, hf, _ => exact hf a rfl i hi
  · have R := HL.hull_ring (by omega) h.sorted
    refine ⟨?_, fun x hx => h.mem x (R.mem x hx), R.apart, ?_, ?_, ?_⟩
    · have := R.two
      omega
    · have := R.two
      omega
    · intro _ i hi q hq
      obtain ⟨q', hq', e⟩ := h.all q hq
      rw [← e]
      exact (ring_edge R i hi).2 q' hq'
    · intro i hi
      have hf := R.first
      have ht := R.two
      generalize hullL X O = xs at *
      cases xs with
      | nil => simp at ht
      | cons a l => exact hfirst a hf.symm i hi

theorem hf_of {ss : List (Int × Int)} {k : Int} {ps : List (Nat × Nat)} {xs : List Nat} (hB : BtL ss k ps) (h : Cn (crdX ps) ps.length xs) : HF ss ps xs (xs.map fun x => ps.getD x (0, 0)) := by
  have hap : ∀ i (hi : i < xs.length) j (hj : j < xs.length), i ≠ j → crdX ps (xs.getD i 0) ≠ crdX ps (xs.getD j 0) := by
    intro i hi j hj hne
    rw [getD_at hi, getD_at hj]
    have hp := List.pairwise_iff_getElem.1 h.apart
    rcases Nat.lt_or_gt_of_ne hne with g | g
    · exact hp i j hi hj g
    · exact fun e => hp j i hj hi g e.symm
  have hmem : ∀ j, j < xs.length → xs.getD j 0 < ps.length := fun j hj => by rw [getD_at hj]; exact h.mem _ (List.getElem_mem hj)
  have hmay : ∀ t, t < ps.length → mayB (ps.getD t (0, 0)).1 = true ∧ mayB (ps.getD t (0, 0)).2 = true := fun t ht => ⟨(hB t ht).1.may, (hB t ht).2.may⟩
  have hrg : 2 ≤ xs.length → Rg (crdX (xs.map fun x => ps.getD x (0, 0))) xs.length := fun h2 => by
    refine ⟨fun i hi j hj => ?_, fun i hi j hj hne => ?_⟩
    · rw [crdX_at hi, crdX_at hj, crdX_at (Nat.mod_lt _ (by omega))]
      exact h.edge h2 i hi _ (hmem j hj)
    · rw [crdX_at hi, crdX_at hj]
      exact hap i hi j hj hne
  have hlf : 2 ≤ xs.length → ∀ t, t < ps.length → Lf (crdX (xs.map fun x => ps.getD x (0, 0))) xs.length (crdX ps t) := fun h2 t ht i hi => by
    rw [crdX_at hi, crdX_at (Nat.mod_lt _ (by omega))]
    exact h.edge h2 i hi t ht
  have hll : (xs.map fun x => ps.getD x (0, 0)).length = xs.length := List.length_map _
  refine ⟨?_, h.zero, fun j hj => h.mem _ (List.getElem_mem hj), rfl, ?_, ?_, ?_, ?_, ?_⟩
  · refine nodup_le _ xs ?_ h.mem
    exact h.apart.imp fun g e => g (by rw [e])
  · intro i hi j hj e
    have hj' : j < xs.length := by omega
    have h1 := hap i hi j hj' (by omega)
    apply h1
    rw [getD_at hi, getD_at hj']
    unfold crdX
    rw [e]
  · intro t ht
    rw [hll]
    by_cases h2 : 2 ≤ xs.length
    · exact ins_ring (hrg h2) h2 (hlf h2 t ht)
    · have h0 := h.zero
      have h1 : xs.length = 1 := by omega
      have e : crdX ps t = crdX (xs.map fun x => ps.getD x (0, 0)) 0 := by
        rw [h.one h1 t ht, crdX_at (by omega)]
      have e2 : (crd (ps.getD t (0, 0)).1, crd (ps.getD t (0, 0)).2) = crdX (xs.map fun x => ps.getD x (0, 0)) 0 := e
      rw [e2, h1, ins_on (k := 0) (by omega)]
      · exact Int.le_refl _
      · unfold edgeOn onP
        generalize crdX (xs.map fun x => ps.getD x (0, 0)) = R
        simp [PlRd.sgn]
  · intro t ht j hj
    rw [hll] at hj ⊢
    have hj1 : (j + 1) % xs.length < xs.length := Nat.mod_lt _ (by omega)
    rw [map_at hj, map_at hj1, turn_sgn (hmay _ (hmem j hj)) (hmay _ (hmem _ hj1)) (hmay t ht)]
    by_cases h2 : 2 ≤ xs.length
    · have h9 := (h.edge h2 j hj t ht).1
      rw [← Int.not_lt]
      intro g
      have := sgn_le (x := cr (crd (ps.getD (xs.getD j 0) (0, 0)).1, crd (ps.getD (xs.getD j 0) (0, 0)).2) (crd (ps.getD (xs.getD ((j + 1) % xs.length) 0) (0, 0)).1, crd (ps.getD (xs.getD ((j + 1) % xs.length) 0) (0, 0)).2) (crd (ps.getD t (0, 0)).1, crd (ps.getD t (0, 0)).2))
      have g1 := this.1 (by omega)
      have e0 : cr (crd (ps.getD (xs.getD j 0) (0, 0)).1, crd (ps.getD (xs.getD j 0) (0, 0)).2) (crd (ps.getD (xs.getD ((j + 1) % xs.length) 0) (0, 0)).1, crd (ps.getD (xs.getD ((j + 1) % xs.length) 0) (0, 0)).2) (crd (ps.getD t (0, 0)).1, crd (ps.getD t (0, 0)).2) = 0 := Int.le_antisymm g1 h9
      rw [e0] at g
      exact absurd g (by decide)
    · have h1 : xs.length = 1 := by omega
      have hj0 : j = 0 := by omega
      subst hj0
      rw [h1]
      rw [show (0 + 1) % 1 = 0 from rfl]
      unfold cr
      simp [PlRd.sgn]
  · intro h2 j hj
    rw [hll] at h2 hj ⊢
    have hj1 : (j + 1) % xs.length < xs.length := Nat.mod_lt _ (by omega)
    have hj2 : (j + 2) % xs.length < xs.length := Nat.mod_lt _ (by omega)
    have h9 := (hrg (by omega)).left h2 hj
    rw [crdX_at hj, crdX_at hj1, crdX_at hj2] at h9
    rw [map_at hj, map_at hj1, map_at hj2, turn_sgn (hmay _ (hmem j hj)) (hmay _ (hmem _ hj1)) (hmay _ (hmem _ hj2))]
    have h8 : 0 < cr (crd (ps.getD (xs.getD j 0) (0, 0)).1, crd (ps.getD (xs.getD j 0) (0, 0)).2) (crd (ps.getD (xs.getD ((j + 1) % xs.length) 0) (0, 0)).1, crd (ps.getD (xs.getD ((j + 1) % xs.length) 0) (0, 0)).2) (crd (ps.getD (xs.getD ((j + 2) % xs.length) 0) (0, 0)).1, crd (ps.getD (xs.getD ((j + 2) % xs.length) 0) (0, 0)).2) := h9
    unfold PlRd.sgn
    rw [if_pos h8]
  · intro t ht x0 hx hlt
    have h0 : 0 < xs.length := by
      cases xs with
      | nil => simp at hx
      | cons a l => simp
    have e0 : xs.getD 0 0 = x0 := by rw [List.getD_eq_getElem?_getD, hx]; rfl
    have h1 := h.first t ht
    rw [e0] at h1
    have hx0 : x0 < ps.length := by rw [← e0]; exact hmem 0 h0
    apply h1
    unfold crdX lx
    simp only
    rw [(hB t ht).1.val, (hB t ht).2.val, (hB x0 hx0).1.val, (hB x0 hx0).2.val]
    have hp := PlRd.two_pow_pos (k + 100).toNat
    rcases hlt with g | ⟨g1, g2⟩
    · exact .inl (Int.mul_lt_mul_of_pos_right g hp)
    · exact .inr ⟨by rw [g1], Int.mul_lt_mul_of_pos_right g2 hp⟩

theorem hulled_any (va : Option Addr) (n c : Nat) (pw : Int) (ss : List (Int × Int)) (w : World) (hs : SsAt w va n ss) (hn : n ≤ 8796093021952) (hpw : I64 pw) (hI : ∀ t, t < n → I64 (ss.getD t (0, 0)).1 ∧ I64 (ss.getD t (0, 0)).2) :
    Calls Try.prog 8 #[.slice va n c, .int .i64 pw] w fun e w' => e = .returned (.bool true) ∧ Below w.heap.size w w' :=
  hulled_walk va n c (min n 60) pw (scaleI pw) ss w rfl hs hn ⟨fun V => scale_any pw V hpw⟩ hI (scaleI_range pw) fun _ hB _ ho => ⟨_, hf_of hB (cn_of ho.ord)⟩

end Go.Proofs.Ytbjjkfmdkmbcfaa
