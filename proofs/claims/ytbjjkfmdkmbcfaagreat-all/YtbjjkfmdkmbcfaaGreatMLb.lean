import Derived.Test.YtbjjkfmdkmbcfaaGreatMAd
import Derived.Test.YtbjjkfmdkmbcfaaGreatMHj
import Derived.Test.YtbjjkfmdkmbcfaaGreatMLa
namespace Go.Proofs.YtbjjkfmdkmbcfaaGreat
open HL (Pt cr lx Btw Ring hullL)

theorem first_spec (X : Nat → Int × Int) : ∀ n, 0 < n → firstN X n < n ∧ (∀ i, i < n → ¬ lx (X i) (X (firstN X n))) ∧ ∀ i, i < n → X i = X (firstN X n) → firstN X n ≤ i := by
  intro n
  induction n with
  | zero => intro h; omega
  | succ n ih =>
    intro _
    rcases Nat.eq_zero_or_pos n with h0 | h0
    · subst h0
      rw [first_neg (HL.lx_irr _)]
      have e : firstN X 0 = 0 := rfl
      rw [e]
      refine ⟨by omega, ?_, ?_⟩
      · intro i hi
        have : i = 0 := by omega
        subst this
        exact HL.lx_irr _
      · intro i hi _
        omega
    · obtain ⟨h1, h2, h3⟩ := ih h0
      by_cases hl : lx (X n) (X (firstN X n))
      · rw [first_pos hl]
        refine ⟨by omega, ?_, ?_⟩
        · intro i hi hq
          by_cases e : i = n
          · subst e; exact HL.lx_irr _ hq
          · exact h2 i (by omega) (HL.lx_trans hq hl)
        · intro i hi hq
          by_cases e : i = n
          · omega
          · exact absurd (hq ▸ hl) (h2 i (by omega))
      · rw [first_neg hl]
        refine ⟨by omega, ?_, ?_⟩
        · intro i hi
          by_cases e : i = n
          · subst e; exact hl
          · exact h2 i (by omega)
        · intro i hi hq
          by_cases e : i = n
          · omega
          · exact h3 i (by omega) hq

theorem first_ord {X : Nat → Int × Int} {n : Nat} {O : List Nat} (h : Ord X n O) (hn : 0 < n) : O.head? = some (firstN X n) := by
  obtain ⟨h1, h2, h3⟩ := first_spec X n hn
  generalize firstN X n = f at *
  obtain ⟨q, hq, e⟩ := h.all f h1
  cases O with
  | nil => cases hq
  | cons a l =>
    have ha := h.mem a (by simp)
    have e2 : X a = X f := by
      rcases List.mem_cons.1 hq with g | g
      · rw [← g, e]
      · have g2 := List.rel_of_pairwise_cons h.sorted g
        rw [e] at g2
        exact absurd g2 (h2 a ha)
    have l1 := h.low a (by simp) f h1 e2.symm
    have l2 := h3 a ha e2
    have : a = f := by omega
    rw [this]
    rfl

theorem best_inv {X : Nat → Int × Int} {n : Nat} {O : List Nat} {i j : Nat} (h : Ord X n O) (hj : j ∈ O) (hE : HL.Edge X O i j) : ∀ k, k ≤ n → (bestN X (X i) k = none → ∀ m, m < k → X m = X i) ∧ ∀ b, bestN X (X i) k = some b → b < k ∧ (j < k → b = j) := by
  intro k
  induction k with
  | zero => intro _; exact ⟨fun _ m hm => absurd hm (Nat.not_lt_zero _), fun b hb => by cases hb⟩
  | succ k ih =>
    intro hk
    obtain ⟨i1, i2⟩ := ih (by omega)
    have hne : X j ≠ X i := fun e => hE.1 e.symm
    rw [bestN]
    cases hb : bestN X (X i) k with
    | none =>
      have i3 := i1 hb
      rw [bestS]
      by_cases hx : X k = X i
      · rw [if_pos hx]
        refine ⟨fun _ m hm => ?_, fun b hb => by cases hb⟩
        by_cases e : m = k
        · rw [e]; exact hx
        · exact i3 m (by omega)
      · rw [if_neg hx]
        refine ⟨fun hb => (by cases hb), fun b hb => ?_⟩
        cases hb
        refine ⟨by omega, fun hjk => ?_⟩
        by_cases e : j = k
        · exact e.symm
        · exact absurd (i3 j (by omega)) hne
    | some b =>
      obtain ⟨i3, i4⟩ := i2 b hb
      rw [bestS]
      by_cases hx : X k = X i
      · rw [if_pos hx]
        refine ⟨fun hb => (by cases hb), fun b' hb' => ?_⟩
        cases hb'
        refine ⟨by omega, fun hjk => ?_⟩
        by_cases e : j = k
        · rw [← e] at hx; exact absurd hx hne
        · exact i4 (by omega)
      · rw [if_neg hx]
        by_cases hB : HL.better (X i) (X b) (X k)
        · have hB' := hB
          unfold HL.better at hB'
          rw [if_pos hB']
          refine ⟨fun hb => (by cases hb), fun b' hb' => ?_⟩
          cases hb'
          refine ⟨by omega, fun hjk => ?_⟩
          by_cases e : j = k
          · exact e.symm
          · have e2 := i4 (by omega)
            subst e2
            obtain ⟨q, hq, e3⟩ := h.all k (by omega)
            rw [← e3] at hB
            exact absurd hB (HL.best_not hE hq)
        · have hB' := hB
          unfold HL.better at hB'
          rw [if_neg hB']
          refine ⟨fun hb => (by cases hb), fun b' hb' => ?_⟩
          cases hb'
          refine ⟨by omega, fun hjk => ?_⟩
          by_cases e : j = k
          · subst e
            obtain ⟨q, hq, e3⟩ := h.all b (by omega)
            rw [← e3] at hB
            refine absurd (HL.best_is hE hq ?_) hB
            intro e4
            have := h.low j hj b (by omega) (by rw [← e3, e4])
            omega
          · exact i4 (by omega)

theorem best_edge {X : Nat → Int × Int} {n : Nat} {O : List Nat} {i j : Nat} (h : Ord X n O) (hj : j ∈ O) (hE : HL.Edge X O i j) : bestN X (X i) n = some j := by
  obtain ⟨h1, h2⟩ := best_inv h hj hE n (Nat.le_refl _)
  have hjn := h.mem j hj
  cases hb : bestN X (X i) n with
  | none => exact absurd (h1 hb j hjn).symm hE.1
  | some b => rw [(h2 b hb).2 hjn]

theorem best_all {X : Nat → Int × Int} {A : Int × Int} : ∀ n, (∀ i, i < n → X i = A) → bestN X A n = none := by
  intro n
  induction n with
  | zero => intro _; rfl
  | succ n ih =>
    intro h
    rw [bestN, ih fun i hi => h i (by omega), bestS, if_pos (h n (by omega))]

theorem nodup_le : ∀ (n : Nat) (l : List Nat), l.Nodup → (∀ x ∈ l, x < n) → l.length ≤ n := by
  intro n
  induction n with
  | zero =>
    intro l _ h
    cases l with
    | nil => exact Nat.le_refl _
    | cons a l => exact absurd (h a (by simp)) (Nat.not_lt_zero _)
  | succ n ih =>
    intro l hn h
    by_cases hm : n ∈ l
    · have h1 := ih (l.erase n) (hn.erase n) (fun x hx => by
        have h2 := (hn.mem_erase_iff).1 hx
        have h3 := h x h2.2
        have := h2.1
        omega)
      rw [List.length_erase_of_mem hm] at h1
      omega
    · have h1 := ih l hn (fun x hx => by
        have h3 := h x hx
        have : x ≠ n := fun e => hm (e ▸ hx)
        omega)
      omega

theorem getD_at {xs : List Nat} {i : Nat} (hi : i < xs.length) : xs.getD i 0 = xs[i] := by
  rw [List.getD_eq_getElem?_getD, List.getElem?_eq_getElem hi]
  rfl

/-- From each corner to the next. -/
theorem ring_edge {X : Nat → Pt} {O xs : List Nat} (h : Ring X O xs) (i : Nat) (hi : i < xs.length) : HL.Edge X O (xs.getD i 0) (xs.getD ((i + 1) % xs.length) 0) := by
  have h0 : 0 < xs.length := by omega
  obtain ⟨a, ha⟩ : ∃ a, xs.head? = some a := by
    cases xs with
    | nil => simp at h0
    | cons a l => exact ⟨a, rfl⟩
  have hl := h.links
  rw [ha] at hl
  have h1 := HL.Fk.get hl i (by simp; omega)
  simp only [Option.toList_some] at h1
  have e1 : (xs ++ [a]).getD i 0 = xs.getD i 0 := by
    rw [List.getD_eq_getElem?_getD, List.getD_eq_getElem?_getD, List.getElem?_append_left hi]
  have e2 : (xs ++ [a]).getD (i + 1) 0 = xs.getD ((i + 1) % xs.length) 0 := by
    by_cases g : i + 1 < xs.length
    · rw [Nat.mod_eq_of_lt g, List.getD_eq_getElem?_getD, List.getD_eq_getElem?_getD, List.getElem?_append_left g]
    · have g2 : i + 1 = xs.length := by omega
      rw [g2, Nat.mod_self, List.getD_eq_getElem?_getD, List.getElem?_concat_length, List.getD_eq_getElem?_getD, ← List.head?_eq_getElem?, ha]
  rw [e1, e2] at h1
  exact h1

theorem hullW_ring {X : Nat → Int × Int} {n : Nat} {O xs : List Nat} (h : Ord X n O) (R : Ring X O xs) : ∀ d t k, t + 1 + d = xs.length → d + 1 ≤ k → hullW X n (xs.getD 0 0) k (xs.take (t + 1)) (bestN X (X (xs.getD t 0)) n) = xs := by
  intro d
  induction d with
  | zero =>
    intro t k ht hk
    have hE := ring_edge R t (by omega)
    have e : (t + 1) % xs.length = 0 := by rw [← ht, Nat.add_zero, Nat.mod_self]
    rw [e] at hE
    have hm : xs.getD 0 0 ∈ O := R.mem _ (by rw [getD_at (by omega)]; exact List.getElem_mem _)
    rw [best_edge h hm hE]
    obtain ⟨k', rfl⟩ : ∃ k', k = k' + 1 := ⟨k - 1, by omega⟩
    rw [hullW, if_pos rfl, List.take_of_length_le (by omega)]
  | succ d ih =>
    intro t k ht hk
    have hE := ring_edge R t (by omega)
    have e : (t + 1) % xs.length = t + 1 := Nat.mod_eq_of_lt (by omega)
    rw [e] at hE
    have hm : xs.getD (t + 1) 0 ∈ O := R.mem _ (by rw [getD_at (by omega)]; exact List.getElem_mem _)
    rw [best_edge h hm hE]
    obtain ⟨k', rfl⟩ : ∃ k', k = k' + 1 := ⟨k - 1, by omega⟩
    have hne : ¬ X (xs.getD (t + 1) 0) = X (xs.getD 0 0) := by
      rw [getD_at (by omega : t + 1 < xs.length), getD_at (by omega : 0 < xs.length)]
      have hp := List.pairwise_iff_getElem.1 R.apart 0 (t + 1) (by omega) (by omega) (by omega)
      exact fun e => hp e.symm
    rw [hullW, if_neg hne]
    have e2 : xs.take (t + 1) ++ [xs.getD (t + 1) 0] = xs.take (t + 1 + 1) := by
      rw [List.take_add_one (i := t + 1), List.getElem?_eq_getElem (by omega), getD_at (by omega)]
      rfl
    rw [e2]
    exact ih (t + 1) k' (by omega) (by omega)

theorem hullR_ord {X : Nat → Int × Int} {n : Nat} {O : List Nat} (h : Ord X n O) : hullR X n = hullL X O := by
  unfold hullR
  by_cases hn : n = 0
  · rw [if_pos hn]
    have e : O = [] := by
      cases O with
      | nil => rfl
      | cons a l => have := h.mem a (by simp); omega
    rw [e]
    rfl
  · rw [if_neg hn]
    have hf := first_ord h (by omega)
    by_cases h2 : O.length < 2
    · have e : hullL X O = O := by unfold hullL; rw [if_pos h2]
      rw [e]
      match O, h2, hf, h with
      | [a], _, hf, h =>
        simp only [List.head?_cons, Option.some.injEq] at hf
        subst hf
        rw [best_all n fun i hi => by
          obtain ⟨q, hq, e⟩ := h.all i hi
          simp only [List.mem_singleton] at hq
          rw [← e, hq]]
        obtain ⟨k', hk⟩ : ∃ k', n = k' + 1 := ⟨n - 1, by omega⟩
        generalize firstN X n = a
        subst hk
        rw [hullW]
    · have R := HL.hull_ring (by omega) h.sorted
      generalize hullL X O = xs at *
      have ht := R.two
      have hle : xs.length ≤ n := nodup_le n xs (R.apart.imp fun g e => g (by rw [e])) fun x hx => h.mem x (R.mem x hx)
      have h0 : xs.getD 0 0 = firstN X n := by
        have e := R.first
        rw [hf] at e
        rw [List.getD_eq_getElem?_getD, ← List.head?_eq_getElem?, e]
        rfl
      have h1 : xs.take 1 = [firstN X n] := by
        rw [← h0]
        match xs, ht with
        | a :: l, _ => rfl
      have := hullW_ring h R (xs.length - 1) 0 n (by omega) (by omega)
      rw [h0, h1] at this
      exact this

end Go.Proofs.YtbjjkfmdkmbcfaaGreat

namespace Go.Proofs.YtbjjkfmdkmbcfaaGreat
open Go.RowKit
open PlLv

attribute [local go_sem ↓] Go.wp_at_zero Go.wp_at_succ

/-- The boxed step, in every later world. -/
theorem box_cells {w W : World} {k a b c d e f : Value} {r1 r2 r3 : Value} {o : Obj} (hb : Below ((w.alloc (.cells #[k, a, b, c, d, e, f, r1, r2, r3] 28)).alloc o).heap.size ((w.alloc (.cells #[k, a, b, c, d, e, f, r1, r2, r3] 28)).alloc o) W) :
    W.cell? ⟨w.heap.size, 0, none⟩ = some k ∧ W.cell? ⟨w.heap.size, 1, none⟩ = some a ∧ W.cell? ⟨w.heap.size, 2, none⟩ = some b ∧ W.cell? ⟨w.heap.size, 3, none⟩ = some c ∧ W.cell? ⟨w.heap.size, 4, none⟩ = some d ∧ W.cell? ⟨w.heap.size, 5, none⟩ = some e ∧ W.cell? ⟨w.heap.size, 6, none⟩ = some f := by
  obtain ⟨hc, _⟩ := bcell hb
  have hl : w.heap.size < ((w.alloc (.cells #[k, a, b, c, d, e, f, r1, r2, r3] 28)).alloc o).heap.size := by simp; omega
  rw [hc _ _ hl, hc _ _ hl, hc _ _ hl, hc _ _ hl, hc _ _ hl, hc _ _ hl, hc _ _ hl]
  simp [go_sem]

set_option maxHeartbeats 4000000 in
set_option maxRecDepth 100000 in
theorem asked_orient_no (ax ay bx by' cx cy : Nat) (w : World) (h64 : ∀ p ∈ [(ax, ay), (bx, by'), (cx, cy)], p.1 < 2 ^ 64 ∧ p.2 < 2 ^ 64) (hok : okPts [(ax, ay), (bx, by'), (cx, cy)] = false) :
    Calls Tryz.prog 12 #[.agg #[.int .i64 1, .int .u64 ax, .int .u64 ay, .int .u64 bx, .int .u64 by', .int .u64 cx, .int .u64 cy, .int .u64 0, .int .u64 0, .slice none 0 0]] w fun e w' => Below w.heap.size w w' ∧ e = .returned (.bool true) := by
  go_enter Tryz.func12, Tryz.ntmps12
  go_wp2_with (first | (go_at_call 15; go_must (refine (points3_no _ ax ay bx by' cx cy _ h64 (by simp [go_sem]) (by simp [go_sem]) (by simp [go_sem]) (by simp [go_sem]) (by simp [go_sem]) (by simp [go_sem]) (by simp) hok).mono ?_; rintro e w1 ⟨hb1, rfl⟩; obtain ⟨bx0, bx1, bx2, bx3, bx4, bx5, bx6⟩ := box_cells hb1; have kz1 := hb1.size; (try simp at kz1))) | (go_at_call 16; go_must (refine (orient_no ax ay bx by' cx cy _ h64 hok).mono ?_; rintro e w2 ⟨hb2, rfl⟩)) | (go_at_call 20; go_must (refine (num_any _ _).mono ?_; rintro e w3 ⟨rfl, rfl⟩)))
  go_ret
  refine ⟨?_, rfl⟩
  exact below_step hb2 (below_step hb1 (((Below.refl _ w).alloc (Nat.le_refl _) _).alloc (by simp) _))

set_option maxHeartbeats 4000000 in
set_option maxRecDepth 100000 in
theorem asked_nearer_no (ax ay bx by' cx cy : Nat) (w : World) (h64 : ∀ p ∈ [(ax, ay), (bx, by'), (cx, cy)], p.1 < 2 ^ 64 ∧ p.2 < 2 ^ 64) (hok : okPts [(ax, ay), (bx, by'), (cx, cy)] = false) :
    Calls Tryz.prog 12 #[.agg #[.int .i64 2, .int .u64 ax, .int .u64 ay, .int .u64 bx, .int .u64 by', .int .u64 cx, .int .u64 cy, .int .u64 0, .int .u64 0, .slice none 0 0]] w fun e w' => Below w.heap.size w w' ∧ e = .returned (.bool true) := by
  go_enter Tryz.func12, Tryz.ntmps12
  go_wp2_with (first | (go_at_call 15; go_must (refine (points3_no _ ax ay bx by' cx cy _ h64 (by simp [go_sem]) (by simp [go_sem]) (by simp [go_sem]) (by simp [go_sem]) (by simp [go_sem]) (by simp [go_sem]) (by simp) hok).mono ?_; rintro e w1 ⟨hb1, rfl⟩; obtain ⟨bx0, bx1, bx2, bx3, bx4, bx5, bx6⟩ := box_cells hb1; have kz1 := hb1.size; (try simp at kz1))) | (go_at_call 17; go_must (refine (nearer_no ax ay bx by' cx cy _ h64 hok).mono ?_; rintro e w2 ⟨hb2, rfl⟩)) | (go_at_call 20; go_must (refine (num_any _ _).mono ?_; rintro e w3 ⟨rfl, rfl⟩)))
  go_ret
  refine ⟨?_, rfl⟩
  exact below_step hb2 (below_step hb1 (((Below.refl _ w).alloc (Nat.le_refl _) _).alloc (by simp) _))

set_option maxHeartbeats 8000000 in
set_option maxRecDepth 100000 in
theorem asked_orient_ok (ax ay bx by' cx cy : Nat) (w : World) (h64 : ∀ p ∈ [(ax, ay), (bx, by'), (cx, cy)], p.1 < 2 ^ 64 ∧ p.2 < 2 ^ 64) (hok : okPts [(ax, ay), (bx, by'), (cx, cy)] = true) :
    Calls Tryz.prog 12 #[.agg #[.int .i64 1, .int .u64 ax, .int .u64 ay, .int .u64 bx, .int .u64 by', .int .u64 cx, .int .u64 cy, .int .u64 0, .int .u64 0, .slice none 0 0]] w fun e w' => Below w.heap.size w w' ∧ e = .returned (.bool true) := by
  have hm : (mayB ax = true ∧ mayB ay = true) ∧ (mayB bx = true ∧ mayB by' = true) ∧ (mayB cx = true ∧ mayB cy = true) := by simpa [okPts] using hok
  have sax := crd_lt hm.1.1
  have say := crd_lt hm.1.2
  have sbx := crd_lt hm.2.1.1
  have sby := crd_lt hm.2.1.2
  have scx := crd_lt hm.2.2.1
  have scy := crd_lt hm.2.2.2
  have HO : Hid (∀ W, Calls Tryz.prog 16 #[.agg #[.int .u64 ax, .int .u64 ay], .agg #[.int .u64 bx, .int .u64 by'], .agg #[.int .u64 cx, .int .u64 cy]] W fun e w' => Below W.heap.size W w' ∧ e = .returned (.tuple #[.int .i64 (PlRd.sgn ((crd bx - crd ax) * (crd cy - crd ay) - (crd by' - crd ay) * (crd cx - crd ax))), .int .i64 0])) :=
    fun W => by rw [← turn_crd hok]; exact orient_ok ax ay bx by' cx cy W h64 hok
  clear hm
  go_enter Tryz.func12, Tryz.ntmps12
  go_wp2_with (first | (go_at_call 15; go_must (refine (points3_ok _ ax ay bx by' cx cy _ h64 (by simp [go_sem]) (by simp [go_sem]) (by simp [go_sem]) (by simp [go_sem]) (by simp [go_sem]) (by simp [go_sem]) (by simp) hok).mono ?_; rintro e w1 ⟨hb1, g, c0, qa, qb, qc, rfl, hQ, Pa, Pb, Pc⟩; obtain ⟨bx0, bx1, bx2, bx3, bx4, bx5, bx6⟩ := box_cells hb1; have kz1 := hb1.size; (try simp at kz1))) | (go_at_call 16; go_must (refine (HO.out _).mono ?_; rintro e w2 ⟨hb2, rfl⟩; have hQ2 := hQ.kept hb2; replace Pa := Pa.kept hb2; replace Pb := Pb.kept hb2; replace Pc := Pc.kept hb2; obtain ⟨bx0, bx1, bx2, bx3, bx4, bx5, bx6⟩ := box_cells (below_step hb2 hb1))))
  obtain ⟨nax, vax, lax, nay, vay, lay⟩ := qa; obtain ⟨nbx, vbx, lbx, nby, vby, lby⟩ := qb; obtain ⟨ncx, vcx, lcx, ncy, vcy, lcy⟩ := qc; obtain ⟨oax, cax, hfax⟩ := bg_form Pa.1; simp only at hfax; subst hfax; obtain ⟨oay, cay, hfay⟩ := bg_form Pa.2; simp only at hfay; subst hfay; obtain ⟨obx, cbx, hfbx⟩ := bg_form Pb.1; simp only at hfbx; subst hfbx; obtain ⟨oby, cby, hfby⟩ := bg_form Pb.2; simp only at hfby; subst hfby; obtain ⟨ocx, ccx, hfcx⟩ := bg_form Pc.1; simp only at hfcx; subst hfcx; obtain ⟨ocy, ccy, hfcy⟩ := bg_form Pc.2; simp only at hfcy; subst hfcy;
  obtain ⟨hQl, ⟨q0, q1, q2, q3⟩, ⟨q4, q5, q6, q7⟩, ⟨q8, q9, q10, q11⟩⟩ := hQ2
  have KS : ∀ w', Below w2.heap.size w2 w' → (w'.cell? ⟨g, 0, none⟩ = some (.bool nax) ∧ w'.cell? ⟨g, 1, none⟩ = some (.slice oax lax.length cax) ∧ w'.cell? ⟨g, 2, none⟩ = some (.bool nay) ∧ w'.cell? ⟨g, 3, none⟩ = some (.slice oay lay.length cay) ∧ w'.cell? ⟨g, 4, none⟩ = some (.bool nbx) ∧ w'.cell? ⟨g, 5, none⟩ = some (.slice obx lbx.length cbx) ∧ w'.cell? ⟨g, 6, none⟩ = some (.bool nby) ∧ w'.cell? ⟨g, 7, none⟩ = some (.slice oby lby.length cby) ∧ w'.cell? ⟨g, 8, none⟩ = some (.bool ncx) ∧ w'.cell? ⟨g, 9, none⟩ = some (.slice ocx lcx.length ccx) ∧ w'.cell? ⟨g, 10, none⟩ = some (.bool ncy) ∧ w'.cell? ⟨g, 11, none⟩ = some (.slice ocy lcy.length ccy)) ∧ Below w2.heap.size w2 w' := by
    intro w' hb
    have hc : ∀ j, w'.cell? ⟨g, j, none⟩ = w2.cell? ⟨g, j, none⟩ := fun j => hb.cell (p := ⟨g, j, none⟩) hQl
    simp only [hc]
    exact ⟨⟨q0, q1, q2, q3, q4, q5, q6, q7, q8, q9, q10, q11⟩, hb⟩
  have hS0 := KS w2 (Below.refl _ _)
  clear q0 q1 q2 q3 q4 q5 q6 q7 q8 q9 q10 q11 hQ
  go_region_held3 (fun w' => (w'.cell? ⟨g, 0, none⟩ = some (.bool nax) ∧ w'.cell? ⟨g, 1, none⟩ = some (.slice oax lax.length cax) ∧ w'.cell? ⟨g, 2, none⟩ = some (.bool nay) ∧ w'.cell? ⟨g, 3, none⟩ = some (.slice oay lay.length cay) ∧ w'.cell? ⟨g, 4, none⟩ = some (.bool nbx) ∧ w'.cell? ⟨g, 5, none⟩ = some (.slice obx lbx.length cbx) ∧ w'.cell? ⟨g, 6, none⟩ = some (.bool nby) ∧ w'.cell? ⟨g, 7, none⟩ = some (.slice oby lby.length cby) ∧ w'.cell? ⟨g, 8, none⟩ = some (.bool ncx) ∧ w'.cell? ⟨g, 9, none⟩ = some (.slice ocx lcx.length ccx) ∧ w'.cell? ⟨g, 10, none⟩ = some (.bool ncy) ∧ w'.cell? ⟨g, 11, none⟩ = some (.slice ocy lcy.length ccy)) ∧ Below w2.heap.size w2 w') (first | exact KS _ (Below.refl _ _).drew | (go_split_ands; first | exact KS _ (below_step hb6 (by assumption)) | exact KS _ (below_step hb5 (by assumption)) | exact KS _ (below_step hb4 (by assumption)) | exact KS _ (below_step hb3 (by assumption)) | exact KS _ (Below.drew (by assumption)) | exact KS _ (by assumption))) (first | (go_at_call 21; go_must (refine (rturn_any nax oax cax lax (crd ax) nay oay cay lay (crd ay) nbx obx cbx lbx (crd bx) nby oby cby lby (crd by') ncx ocx ccx lcx (crd cx) ncy ocy ccy lcy (crd cy) _ (Pa.1.kept (Below.refl _ _).drew) sax (Pa.2.kept (Below.refl _ _).drew) say (Pb.1.kept (Below.refl _ _).drew) sbx (Pb.2.kept (Below.refl _ _).drew) sby (Pc.1.kept (Below.refl _ _).drew) scx (Pc.2.kept (Below.refl _ _).drew) scy).mono ?_; rintro e w3 ⟨hb3, rfl⟩)))
  all_goals
    go_wp2
    go_ret
    refine ⟨?_, rfl⟩
    exact below_step (below_step hb3 (Below.refl _ _).drew) (below_step hb2 (below_step hb1 (((Below.refl _ w).alloc (Nat.le_refl _) _).alloc (by simp) _)))

set_option maxHeartbeats 8000000 in
set_option maxRecDepth 100000 in
theorem asked_nearer_ok (ax ay bx by' cx cy : Nat) (w : World) (h64 : ∀ p ∈ [(ax, ay), (bx, by'), (cx, cy)], p.1 < 2 ^ 64 ∧ p.2 < 2 ^ 64) (hok : okPts [(ax, ay), (bx, by'), (cx, cy)] = true) :
    Calls Tryz.prog 12 #[.agg #[.int .i64 2, .int .u64 ax, .int .u64 ay, .int .u64 bx, .int .u64 by', .int .u64 cx, .int .u64 cy, .int .u64 0, .int .u64 0, .slice none 0 0]] w fun e w' => Below w.heap.size w w' ∧ e = .returned (.bool true) := by
  have hm : (mayB ax = true ∧ mayB ay = true) ∧ (mayB bx = true ∧ mayB by' = true) ∧ (mayB cx = true ∧ mayB cy = true) := by simpa [okPts] using hok
  have sax := crd_lt hm.1.1
  have say := crd_lt hm.1.2
  have sbx := crd_lt hm.2.1.1
  have sby := crd_lt hm.2.1.2
  have scx := crd_lt hm.2.2.1
  have scy := crd_lt hm.2.2.2
  have HO : Hid (∀ W, Calls Tryz.prog 17 #[.agg #[.int .u64 ax, .int .u64 ay], .agg #[.int .u64 bx, .int .u64 by'], .agg #[.int .u64 cx, .int .u64 cy]] W fun e w' => Below W.heap.size W w' ∧ e = .returned (.tuple #[.int .i64 (PlRd.sgn (((crd cx - crd ax) * (crd cx - crd ax) + (crd cy - crd ay) * (crd cy - crd ay)) - ((crd bx - crd ax) * (crd bx - crd ax) + (crd by' - crd ay) * (crd by' - crd ay)))), .int .i64 0])) :=
    fun W => by rw [← dist_crd hok]; exact nearer_ok ax ay bx by' cx cy W h64 hok
  clear hm
  go_enter Tryz.func12, Tryz.ntmps12
  go_wp2_with (first | (go_at_call 15; go_must (refine (points3_ok _ ax ay bx by' cx cy _ h64 (by simp [go_sem]) (by simp [go_sem]) (by simp [go_sem]) (by simp [go_sem]) (by simp [go_sem]) (by simp [go_sem]) (by simp) hok).mono ?_; rintro e w1 ⟨hb1, g, c0, qa, qb, qc, rfl, hQ, Pa, Pb, Pc⟩; obtain ⟨bx0, bx1, bx2, bx3, bx4, bx5, bx6⟩ := box_cells hb1; have kz1 := hb1.size; (try simp at kz1))) | (go_at_call 17; go_must (refine (HO.out _).mono ?_; rintro e w2 ⟨hb2, rfl⟩; have hQ2 := hQ.kept hb2; replace Pa := Pa.kept hb2; replace Pb := Pb.kept hb2; replace Pc := Pc.kept hb2; obtain ⟨bx0, bx1, bx2, bx3, bx4, bx5, bx6⟩ := box_cells (below_step hb2 hb1))))
  obtain ⟨nax, vax, lax, nay, vay, lay⟩ := qa; obtain ⟨nbx, vbx, lbx, nby, vby, lby⟩ := qb; obtain ⟨ncx, vcx, lcx, ncy, vcy, lcy⟩ := qc; obtain ⟨oax, cax, hfax⟩ := bg_form Pa.1; simp only at hfax; subst hfax; obtain ⟨oay, cay, hfay⟩ := bg_form Pa.2; simp only at hfay; subst hfay; obtain ⟨obx, cbx, hfbx⟩ := bg_form Pb.1; simp only at hfbx; subst hfbx; obtain ⟨oby, cby, hfby⟩ := bg_form Pb.2; simp only at hfby; subst hfby; obtain ⟨ocx, ccx, hfcx⟩ := bg_form Pc.1; simp only at hfcx; subst hfcx; obtain ⟨ocy, ccy, hfcy⟩ := bg_form Pc.2; simp only at hfcy; subst hfcy;
  obtain ⟨hQl, ⟨q0, q1, q2, q3⟩, ⟨q4, q5, q6, q7⟩, ⟨q8, q9, q10, q11⟩⟩ := hQ2
  have KS : ∀ w', Below w2.heap.size w2 w' → (w'.cell? ⟨g, 0, none⟩ = some (.bool nax) ∧ w'.cell? ⟨g, 1, none⟩ = some (.slice oax lax.length cax) ∧ w'.cell? ⟨g, 2, none⟩ = some (.bool nay) ∧ w'.cell? ⟨g, 3, none⟩ = some (.slice oay lay.length cay) ∧ w'.cell? ⟨g, 4, none⟩ = some (.bool nbx) ∧ w'.cell? ⟨g, 5, none⟩ = some (.slice obx lbx.length cbx) ∧ w'.cell? ⟨g, 6, none⟩ = some (.bool nby) ∧ w'.cell? ⟨g, 7, none⟩ = some (.slice oby lby.length cby) ∧ w'.cell? ⟨g, 8, none⟩ = some (.bool ncx) ∧ w'.cell? ⟨g, 9, none⟩ = some (.slice ocx lcx.length ccx) ∧ w'.cell? ⟨g, 10, none⟩ = some (.bool ncy) ∧ w'.cell? ⟨g, 11, none⟩ = some (.slice ocy lcy.length ccy)) ∧ Below w2.heap.size w2 w' := by
    intro w' hb
    have hc : ∀ j, w'.cell? ⟨g, j, none⟩ = w2.cell? ⟨g, j, none⟩ := fun j => hb.cell (p := ⟨g, j, none⟩) hQl
    simp only [hc]
    exact ⟨⟨q0, q1, q2, q3, q4, q5, q6, q7, q8, q9, q10, q11⟩, hb⟩
  have hS0 := KS w2 (Below.refl _ _)
  clear q0 q1 q2 q3 q4 q5 q6 q7 q8 q9 q10 q11 hQ
  go_region_held3 (fun w' => (w'.cell? ⟨g, 0, none⟩ = some (.bool nax) ∧ w'.cell? ⟨g, 1, none⟩ = some (.slice oax lax.length cax) ∧ w'.cell? ⟨g, 2, none⟩ = some (.bool nay) ∧ w'.cell? ⟨g, 3, none⟩ = some (.slice oay lay.length cay) ∧ w'.cell? ⟨g, 4, none⟩ = some (.bool nbx) ∧ w'.cell? ⟨g, 5, none⟩ = some (.slice obx lbx.length cbx) ∧ w'.cell? ⟨g, 6, none⟩ = some (.bool nby) ∧ w'.cell? ⟨g, 7, none⟩ = some (.slice oby lby.length cby) ∧ w'.cell? ⟨g, 8, none⟩ = some (.bool ncx) ∧ w'.cell? ⟨g, 9, none⟩ = some (.slice ocx lcx.length ccx) ∧ w'.cell? ⟨g, 10, none⟩ = some (.bool ncy) ∧ w'.cell? ⟨g, 11, none⟩ = some (.slice ocy lcy.length ccy)) ∧ Below w2.heap.size w2 w') (first | exact KS _ (Below.refl _ _).drew | (go_split_ands; first | exact KS _ (below_step hb6 (by assumption)) | exact KS _ (below_step hb5 (by assumption)) | exact KS _ (below_step hb4 (by assumption)) | exact KS _ (below_step hb3 (by assumption)) | exact KS _ (Below.drew (by assumption)) | exact KS _ (by assumption))) (first | (go_at_call 24; have g3 := hb3; go_must (refine (rsquare_any nax oax cax lax (crd ax) nay oay cay lay (crd ay) nbx obx cbx lbx (crd bx) nby oby cby lby (crd by') _ (Pa.1.kept (below_step hb3 (Below.refl _ _).drew)) sax (Pa.2.kept (below_step hb3 (Below.refl _ _).drew)) say (Pb.1.kept (below_step hb3 (Below.refl _ _).drew)) sbx (Pb.2.kept (below_step hb3 (Below.refl _ _).drew)) sby).mono ?_; rintro e w4 ⟨m4, v4, k4, rfl, hg4, hb4⟩; obtain ⟨a4, d4, hv4⟩ := bg_form hg4; subst hv4)) | (go_at_call 24; go_must (refine (rsquare_any nax oax cax lax (crd ax) nay oay cay lay (crd ay) ncx ocx ccx lcx (crd cx) ncy ocy ccy lcy (crd cy) _ (Pa.1.kept (Below.refl _ _).drew) sax (Pa.2.kept (Below.refl _ _).drew) say (Pc.1.kept (Below.refl _ _).drew) scx (Pc.2.kept (Below.refl _ _).drew) scy).mono ?_; rintro e w3 ⟨m3, v3, k3, rfl, hg3, hb3⟩; obtain ⟨a3, d3, hv3⟩ := bg_form hg3; subst hv3)) | (go_at_call 23; go_must (refine (less_bg m3 m4 _ _ k3 k4 _ _ _ (hg3.kept hb4) hg4 (small_of (sumsq_lt scx sax scy say) (by decide)) (small_of (sumsq_lt sbx sax sby say) (by decide))).mono ?_; rintro e w5 ⟨m5, v5, k5, rfl, hg5, hb5⟩; obtain ⟨a5, d5, hv5⟩ := bg_form hg5; subst hv5)) | (go_at_call 22; go_must (refine (sign_bg m5 _ k5 _ _ hg5).mono ?_; rintro e w6 ⟨rfl, hb6⟩)))
  all_goals
    go_wp2
    go_ret
    refine ⟨?_, rfl⟩
    exact below_step (below_step hb6 (below_step hb5 (below_step hb4 (below_step hb3 (Below.refl _ _).drew)))) (below_step hb2 (below_step hb1 (((Below.refl _ w).alloc (Nat.le_refl _) _).alloc (by simp) _)))


end Go.Proofs.YtbjjkfmdkmbcfaaGreat
