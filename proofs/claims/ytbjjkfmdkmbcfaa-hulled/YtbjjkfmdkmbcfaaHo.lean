import Derived.Test.YtbjjkfmdkmbcfaaHn
namespace Go.Proofs.Ytbjjkfmdkmbcfaa
open Go.Shelf Go.RowKit Go.Lib Go.Sort
open HL (cr lx popW chainR)

attribute [local go_sem ↓] Go.wp_at_zero Go.wp_at_succ

theorem addr_add (g j : Nat) : (⟨g, 0, none⟩ : Addr).add j = ⟨g, j, none⟩ := by unfold Addr.add; split <;> simp_all

set_option maxHeartbeats 4000000 in
set_option maxRecDepth 100000 in
theorem grow_any (n : Nat) (w : World) (h0 : 0 < n) (hn : n ≤ 1000000) :
    Calls Try.prog 63 #[.slice none 0 0, .int .i64 n] w fun e w' => ∃ v, e = .returned v ∧ CV w' w.heap.size v [] ∧ Below w.heap.size w w' := by
  obtain ⟨i0, hi, hz0, hz1, hz2⟩ := info_parts infoI
  have h0' : (0 : Int) < (n : Int) := by omega
  have hb8 : Try.t3.bytes = 8 := by kernel_rfl
  have hns : Builtin.nextslicecap n 0 = n := nextslicecap_zero (by omega)
  have q1 : ¬ (281474976710656 : Int) < (n : Int) * 8 := by omega
  have q2 : ¬ 281474976710656 < n * 8 := by omega
  have q3 : ¬ n = 0 := by omega
  have q4 : (n : Int) ≤ 9223372036854775807 := by omega
  go_enter Try.func63, Try.ntmps63
  go_wp2
  go_ret
  obtain ⟨K, hK⟩ : ∃ K, K = (Question.appendCap n 0 3).cut (w.tape w.drawn (Question.appendCap n 0 3)) := ⟨_, rfl⟩
  have hK2 : n ≤ K ∧ K ≤ maxLen := by
    rw [hK]
    have h9 := Nat.mod_lt (w.tape w.drawn (Question.appendCap n 0 3)) (show 0 < 2 ^ 63 - n by omega)
    show n ≤ n + _ % (2 ^ 63 - n) ∧ n + _ % (2 ^ 63 - n) ≤ maxLen
    unfold maxLen
    omega
  rw [← hK]
  refine ⟨_, rfl, ⟨rfl, .inr ⟨w.heap.size, K, Builtin.zeroCells #[Value.int IntKind.i64 0] n ++ Builtin.zeroCells #[Value.int IntKind.i64 0] (K - n), rfl, Nat.le_refl _, ?_, Nat.zero_le _, hK2.2, ?_, rfl⟩⟩, ((Below.refl _ w).alloc (Nat.le_refl _) _).drew⟩
  · show (w.heap.push _)[w.heap.size]? = _
    rw [Array.getElem?_push_size]
  · rw [Array.size_append, size_zeroCells, size_zeroCells]
    simp
    omega

set_option maxHeartbeats 8000000 in
set_option maxRecDepth 100000 in
theorem concat_any (A g1 c1 g2 c2 k : Nat) (xs ys : List Nat) (w : World) (hx0 : xs ≠ []) (hA : A < w.heap.size) (h1 : g1 < w.heap.size) (h2 : g2 < w.heap.size) (hb : xs.length + ys.length ≤ 100000)
    (hc0 : w.cell? ⟨A, 0, none⟩ = some (.slice (some ⟨g1, 0, none⟩) xs.length c1)) (hc1 : w.cell? ⟨A, 1, none⟩ = some (.slice (some ⟨g2, 0, none⟩) ys.length c2))
    (hx : ∀ j (hj : j < xs.length), w.cell? ⟨g1, j, none⟩ = some (encN xs[j])) (hy : ∀ j (hj : j < ys.length), w.cell? ⟨g2, j, none⟩ = some (encN ys[j])) :
    Calls Try.prog 47 #[.slice (some ⟨A, 0, none⟩) 2 k] w fun e w' => ∃ v, e = .returned v ∧ CV w' w.heap.size v (xs ++ ys) ∧ Below w.heap.size w w' := by
  obtain ⟨i0, hi, hz0, hz1, hz2⟩ := info_parts infoI
  have hlx : 0 < xs.length := List.length_pos_iff.2 hx0
  obtain ⟨n1, hn1⟩ : ∃ n1, n1 = xs.length := ⟨_, rfl⟩
  obtain ⟨n2, hn2⟩ : ∃ n2, n2 = ys.length := ⟨_, rfl⟩
  rw [← hn1] at hc0
  rw [← hn2] at hc1
  have HG : Hid (Calls Try.prog 63 #[.slice none 0 0, .int .i64 ((n1 + n2 : Nat) : Int)] w fun e w' => ∃ v, e = .returned v ∧ CV w' w.heap.size v [] ∧ Below w.heap.size w w') := grow_any (n1 + n2) w (by omega) (by omega)
  have HXC : Hid (∀ V, Below w.heap.size w V → ∀ j u, (xs.map encN)[j]? = some u → V.cell? ((⟨g1, 0, none⟩ : Addr).add j) = some u) := by
    intro V hV j u hu
    rw [addr_add, hV.cell (p := ⟨g1, j, none⟩) h1]
    rw [List.getElem?_map] at hu
    by_cases hj : j < xs.length
    · rw [List.getElem?_eq_getElem hj] at hu
      rw [hx j hj]
      exact hu
    · rw [List.getElem?_eq_none (by omega)] at hu
      cases hu
  have HYC : Hid (∀ V, Below w.heap.size w V → ∀ j u, (ys.map encN)[j]? = some u → V.cell? ((⟨g2, 0, none⟩ : Addr).add j) = some u) := by
    intro V hV j u hu
    rw [addr_add, hV.cell (p := ⟨g2, j, none⟩) h2]
    rw [List.getElem?_map] at hu
    by_cases hj : j < ys.length
    · rw [List.getElem?_eq_getElem hj] at hu
      rw [hy j hj]
      exact hu
    · rw [List.getElem?_eq_none (by omega)] at hu
      cases hu
  have HN : Hid (n1 = xs.length ∧ n2 = ys.length) := ⟨hn1, hn2⟩
  have hb' : n1 + n2 ≤ 100000 := by omega
  have hl' : 0 < n1 := by omega
  have j1 : IntKind.i64.wrap ((n1 : Int) + (n2 : Int)) = (n1 : Int) + (n2 : Int) := by rw [IntKind.wrap_i64]; omega
  have j2 : (0 : Int) ≤ (n1 : Int) + (n2 : Int) := by omega
  have j3 : ¬ (n1 : Int) + (n2 : Int) < 0 := by omega
  have j4 : (n1 : Int) + (n2 : Int) = ((n1 + n2 : Nat) : Int) := by omega
  clear hx hy hn1 hn2 hb hlx hx0
  have HJ : Hid ((n1 : Int) + (n2 : Int) = ((n1 + n2 : Nat) : Int)) := j4
  clear j4
  go_enter Try.func47, Try.ntmps47
  go_wp2
  refine wp_loop_rounds 3 ?_
  rw [rounds_succ]
  go_wp2
  rw [rounds_succ]
  go_wp2
  rw [rounds_succ]
  go_wp2_with (go_at_call 63; go_must (rw [HJ.out]; refine HG.out.mono ?_; rintro e w1 ⟨v, rfl, hC, hb1⟩))
  have hA0 : w1.cell? ⟨A, 0, none⟩ = some (.slice (some ⟨g1, 0, none⟩) n1 c1) := by rw [hb1.cell (p := ⟨A, 0, none⟩) hA]; exact hc0
  have hs1 := hb1.size
  have ho1 : w1.ownsRow w.heap.size 3 1 v 0 [] := hC
  refine wp_loop_rounds 3 ?_
  rw [rounds_succ]
  go_wp2_with (at_builtin; go_must (refine wpList_append_own _ rfl _ _ 44 rfl w.heap.size 3 i0 (.int .i64 0) 1 8 Try.underlying44 hi hz0 hz1 hz2 rfl (by decide) _ 0 [] rfl ho1 ⟨g1, 0, none⟩ n1 c1 (xs.map encN) rfl (by have := HN.out.1; simp; omega) (HXC.out _ hb1) (by intro u hu; obtain ⟨q, _, rfl⟩ := List.mem_map.1 hu; rfl) (by unfold maxLen; omega) (by omega) hs1 ?_; intro v1 w2 o2 gr2 _))
  have hb2 : Below w.heap.size w w2 := hb1.grown gr2 hs1 fun g hg => (ho1.lt g hg).1
  have hA1 : w2.cell? ⟨A, 1, none⟩ = some (.slice (some ⟨g2, 0, none⟩) n2 c2) := by rw [hb2.cell (p := ⟨A, 1, none⟩) hA]; exact hc1
  have hs2 := hb2.size
  clear gr2 ho1 hC hA0
  rw [rounds_succ]
  go_wp2_with (at_builtin; go_must (refine wpList_append_own _ rfl _ _ 44 rfl w.heap.size 3 i0 (.int .i64 0) 1 8 Try.underlying44 hi hz0 hz1 hz2 rfl (by decide) _ (0 + n1) ([] ++ xs.map encN) rfl o2 ⟨g2, 0, none⟩ n2 c2 (ys.map encN) rfl (by have := HN.out.2; simp; omega) (HYC.out _ hb2) (by intro u hu; obtain ⟨q, _, rfl⟩ := List.mem_map.1 hu; rfl) (by unfold maxLen; omega) (by omega) hs2 ?_; intro v2 w3 o3 gr3 _))
  have hb3 : Below w.heap.size w w3 := hb2.grown gr3 hs2 fun g hg => (o2.lt g hg).1
  clear gr3 o2 hA1
  rw [rounds_succ]
  go_wp2
  go_ret
  refine ⟨_, rfl, ?_, hb3⟩
  unfold CV
  rw [List.map_append, List.length_append, ← HN.out.1, ← HN.out.2]
  rw [Nat.zero_add, List.nil_append] at o3
  exact o3

end Go.Proofs.Ytbjjkfmdkmbcfaa
