import Derived.Test.YtbjjkfmdkmbcfaaGreatMHn
import Derived.Test.YtbjjkfmdkmbcfaaGreatMLa
import Derived.Test.YtbjjkfmdkmbcfaaGreatMHf
namespace Go.Proofs.YtbjjkfmdkmbcfaaGreat
open Go.Shelf Go.RowKit Go.Lib Go.Sort
open HL (cr lx popW chainR)

attribute [local go_sem ↓] Go.wp_at_zero Go.wp_at_succ

theorem addr_add (g j : Nat) : (⟨g, 0, none⟩ : Addr).add j = ⟨g, j, none⟩ := by unfold Addr.add; split <;> simp_all

set_option maxHeartbeats 4000000 in
set_option maxRecDepth 100000 in
theorem grow_any (n : Nat) (w : World) (h0 : 0 < n) (hn : n ≤ 1000000) :
    Calls Tryz.prog 84 #[.slice none 0 0, .int .i64 n] w fun e w' => ∃ v, e = .returned v ∧ CV w' w.heap.size v [] ∧ Below w.heap.size w w' := by
  obtain ⟨i0, hi, hz0, hz1, hz2⟩ := info_parts infoI
  have h0' : (0 : Int) < (n : Int) := by omega
  have hb8 : Tryz.t3.bytes = 8 := by kernel_rfl
  have hns : Builtin.nextslicecap n 0 = n := nextslicecap_zero (by omega)
  have q1 : ¬ (281474976710656 : Int) < (n : Int) * 8 := by omega
  have q2 : ¬ 281474976710656 < n * 8 := by omega
  have q3 : ¬ n = 0 := by omega
  have q4 : (n : Int) ≤ 9223372036854775807 := by omega
  go_enter Tryz.func84, Tryz.ntmps84
  go_wp2
  go_ret
  obtain ⟨K, hK⟩ : ∃ K, K = (Question.appendCap n 0 3).cut (w.tape w.drawn (Question.appendCap n 0 3)) := ⟨_, rfl⟩
  have hK2 : n ≤ K ∧ K ≤ maxLen := by
    rw [hK]
    have h9 := Nat.mod_lt (w.tape w.drawn (Question.appendCap n 0 3)) (show 0 < 2 ^ 63 - n by omega)
    show n ≤ n + _ % (2 ^ 63 - n) ∧ n + _ % (2 ^ 63 - n) ≤ maxLen
    unfold maxLen
    omega
  rw [← hK]
  refine ⟨_, rfl, ⟨rfl, .inr ⟨w.heap.size, K, Builtin.zeroCells #[Value.int IntKind.i64 0] n ++ Builtin.zeroCells #[Value.int IntKind.i64 0] (K - n), rfl, Nat.le_refl _, ?_, Nat.zero_le _, hK2.2, ?_, rfl⟩⟩, ((Below.refl _ w).alloc (Nat.le_refl _) _).drew⟩
  · show (w.heap.push _)[w.heap.size]? = _
    rw [Array.getElem?_push_size]
  · rw [Array.size_append, size_zeroCells, size_zeroCells]
    simp
    omega

set_option maxHeartbeats 8000000 in
set_option maxRecDepth 100000 in
theorem concat_any (A g1 c1 g2 c2 k : Nat) (xs ys : List Nat) (w : World) (hx0 : xs ≠ []) (hA : A < w.heap.size) (h1 : g1 < w.heap.size) (h2 : g2 < w.heap.size) (hb : xs.length + ys.length ≤ 100000)
    (hc0 : w.cell? ⟨A, 0, none⟩ = some (.slice (some ⟨g1, 0, none⟩) xs.length c1)) (hc1 : w.cell? ⟨A, 1, none⟩ = some (.slice (some ⟨g2, 0, none⟩) ys.length c2))
    (hx : ∀ j (hj : j < xs.length), w.cell? ⟨g1, j, none⟩ = some (encN xs[j])) (hy : ∀ j (hj : j < ys.length), w.cell? ⟨g2, j, none⟩ = some (encN ys[j])) :
    Calls Tryz.prog 69 #[.slice (some ⟨A, 0, none⟩) 2 k] w fun e w' => ∃ v, e = .returned v ∧ CV w' w.heap.size v (xs ++ ys) ∧ Below w.heap.size w w' := by
  obtain ⟨i0, hi, hz0, hz1, hz2⟩ := info_parts infoI
  have hlx : 0 < xs.length := List.length_pos_iff.2 hx0
  obtain ⟨n1, hn1⟩ : ∃ n1, n1 = xs.length := ⟨_, rfl⟩
  obtain ⟨n2, hn2⟩ : ∃ n2, n2 = ys.length := ⟨_, rfl⟩
  rw [← hn1] at hc0
  rw [← hn2] at hc1
  have HG : Hid (Calls Tryz.prog 84 #[.slice none 0 0, .int .i64 ((n1 + n2 : Nat) : Int)] w fun e w' => ∃ v, e = .returned v ∧ CV w' w.heap.size v [] ∧ Below w.heap.size w w') := grow_any (n1 + n2) w (by omega) (by omega)
  have HXC : Hid (∀ V, Below w.heap.size w V → ∀ j u, (xs.map encN)[j]? = some u → V.cell? ((⟨g1, 0, none⟩ : Addr).add j) = some u) := by
    intro V hV j u hu
    rw [addr_add, hV.cell (p := ⟨g1, j, none⟩) h1]
    rw [List.getElem?_map] at hu
    by_cases hj : j < xs.length
    · rw [List.getElem?_eq_getElem hj] at hu
      rw [hx j hj]
      exact hu
    · rw [List.getElem?_eq_none (by omega)] at hu
      cases hu
  have HYC : Hid (∀ V, Below w.heap.size w V → ∀ j u, (ys.map encN)[j]? = some u → V.cell? ((⟨g2, 0, none⟩ : Addr).add j) = some u) := by
    intro V hV j u hu
    rw [addr_add, hV.cell (p := ⟨g2, j, none⟩) h2]
    rw [List.getElem?_map] at hu
    by_cases hj : j < ys.length
    · rw [List.getElem?_eq_getElem hj] at hu
      rw [hy j hj]
      exact hu
    · rw [List.getElem?_eq_none (by omega)] at hu
      cases hu
  have HN : Hid (n1 = xs.length ∧ n2 = ys.length) := ⟨hn1, hn2⟩
  have hb' : n1 + n2 ≤ 100000 := by omega
  have hl' : 0 < n1 := by omega
  have j1 : IntKind.i64.wrap ((n1 : Int) + (n2 : Int)) = (n1 : Int) + (n2 : Int) := by rw [IntKind.wrap_i64]; omega
  have j2 : (0 : Int) ≤ (n1 : Int) + (n2 : Int) := by omega
  have j3 : ¬ (n1 : Int) + (n2 : Int) < 0 := by omega
  have j4 : (n1 : Int) + (n2 : Int) = ((n1 + n2 : Nat) : Int) := by omega
  clear hx hy hn1 hn2 hb hlx hx0
  have HJ : Hid ((n1 : Int) + (n2 : Int) = ((n1 + n2 : Nat) : Int)) := j4
  clear j4
  go_enter Tryz.func69, Tryz.ntmps69
  go_wp2
  refine wp_loop_rounds 3 ?_
  rw [rounds_succ]
  go_wp2
  rw [rounds_succ]
  go_wp2
  rw [rounds_succ]
  go_wp2_with (go_at_call 84; go_must (rw [HJ.out]; refine HG.out.mono ?_; rintro e w1 ⟨v, rfl, hC, hb1⟩))
  have hA0 : w1.cell? ⟨A, 0, none⟩ = some (.slice (some ⟨g1, 0, none⟩) n1 c1) := by rw [hb1.cell (p := ⟨A, 0, none⟩) hA]; exact hc0
  have hs1 := hb1.size
  have ho1 : w1.ownsRow w.heap.size 3 1 v 0 [] := hC
  refine wp_loop_rounds 3 ?_
  rw [rounds_succ]
  go_wp2_with (at_builtin; go_must (refine wpList_append_own _ rfl _ _ 41 rfl w.heap.size 3 i0 (.int .i64 0) 1 8 Tryz.underlying41 hi hz0 hz1 hz2 rfl (by decide) _ 0 [] rfl ho1 ⟨g1, 0, none⟩ n1 c1 (xs.map encN) rfl (by have := HN.out.1; simp; omega) (HXC.out _ hb1) (by intro u hu; obtain ⟨q, _, rfl⟩ := List.mem_map.1 hu; rfl) (by unfold maxLen; omega) (by omega) hs1 ?_; intro v1 w2 o2 gr2 _))
  have hb2 : Below w.heap.size w w2 := hb1.grown gr2 hs1 fun g hg => (ho1.lt g hg).1
  have hA1 : w2.cell? ⟨A, 1, none⟩ = some (.slice (some ⟨g2, 0, none⟩) n2 c2) := by rw [hb2.cell (p := ⟨A, 1, none⟩) hA]; exact hc1
  have hs2 := hb2.size
  clear gr2 ho1 hC hA0
  rw [rounds_succ]
  go_wp2_with (at_builtin; go_must (refine wpList_append_own _ rfl _ _ 41 rfl w.heap.size 3 i0 (.int .i64 0) 1 8 Tryz.underlying41 hi hz0 hz1 hz2 rfl (by decide) _ (0 + n1) ([] ++ xs.map encN) rfl o2 ⟨g2, 0, none⟩ n2 c2 (ys.map encN) rfl (by have := HN.out.2; simp; omega) (HYC.out _ hb2) (by intro u hu; obtain ⟨q, _, rfl⟩ := List.mem_map.1 hu; rfl) (by unfold maxLen; omega) (by omega) hs2 ?_; intro v2 w3 o3 gr3 _))
  have hb3 : Below w.heap.size w w3 := hb2.grown gr3 hs2 fun g hg => (o2.lt g hg).1
  clear gr3 o2 hA1
  rw [rounds_succ]
  go_wp2
  go_ret
  refine ⟨_, rfl, ?_, hb3⟩
  unfold CV
  rw [List.map_append, List.length_append, ← HN.out.1, ← HN.out.2]
  rw [Nat.zero_add, List.nil_append] at o3
  exact o3

end Go.Proofs.YtbjjkfmdkmbcfaaGreat

namespace Go.Proofs.YtbjjkfmdkmbcfaaGreat
open Go.Shelf Go.RowKit Go.Lib Go.Sort
open HL (cr lx popW chainR hullL)

attribute [local go_sem ↓] Go.wp_at_zero Go.wp_at_succ

theorem CV.holds {w : World} {base B c : Nat} {xs : List Nat} {m : Nat} (h : CV w base (.slice (some ⟨B, 0, none⟩) m c) xs) : m = xs.length ∧ base ≤ B ∧ B < w.heap.size ∧ Holds encN w B 0 xs.toArray := by
  obtain ⟨hl, h⟩ := h
  rcases h with ⟨h1, _⟩ | ⟨g, cap, cur, h1, hb, hg, hc, hm, hs, ht⟩
  · cases h1
  · simp only [Value.slice.injEq, Option.some.injEq, Addr.mk.injEq, and_true] at h1
    obtain ⟨rfl, rfl, rfl⟩ := h1
    refine ⟨rfl, hb, ?_, fun j hj => ?_⟩
    · rw [← Nat.not_le]
      intro hle
      rw [Array.getElem?_eq_none hle] at hg
      cases hg
    · have hj' : j < xs.length := by simpa using hj
      refine ⟨?_, by simp [World.frozen?, hg]⟩
      have h3 : (cur.toList.take (xs.length * 1))[j]? = (xs.map encN)[j]? := by rw [ht]
      rw [List.getElem?_take, if_pos (by omega), Array.getElem?_toList, List.getElem?_map, List.getElem?_eq_getElem hj'] at h3
      rw [Nat.zero_add, get_at hj']
      simp [World.cell?, hg, h3]

/-- A row elsewhere is not touched. -/
theorem CV.other {w : World} {base B q : Nat} {v : Value} {xs : List Nat} {d : Array Nat} (h : CV w base v xs) (hB : B < base) : CV (putRow encN (Sort.ahead w q) B 0 d) base v xs := by
  obtain ⟨hl, h⟩ := h
  refine ⟨hl, ?_⟩
  rcases h with h | ⟨g, cap, cur, h1, hbg, hg, h2, h3, h4, h5⟩
  · exact .inl h
  · refine .inr ⟨g, cap, cur, h1, hbg, ?_, h2, h3, h4, h5⟩
    show (w.heap.modify B _)[g]? = _
    rw [Array.getElem?_modify, if_neg (by omega)]
    exact hg

theorem CV.base {w : World} {base base' : Nat} {v : Value} {xs : List Nat} (h : CV w base v xs) (hb : base' ≤ base) : CV w base' v xs := by
  obtain ⟨hl, h⟩ := h
  refine ⟨hl, ?_⟩
  rcases h with h | ⟨g, cap, cur, h1, hbg, h2⟩
  · exact .inl h
  · exact .inr ⟨g, cap, cur, h1, Nat.le_trans hb hbg, h2⟩

theorem reverse_any (B m c : Nat) (xs : List Nat) (w : World) (hm : m = xs.length) (hl : xs.length ≤ 100000) (hH : Holds encN w B 0 xs.toArray) :
    Calls Tryz.prog 68 #[.slice (some ⟨B, 0, none⟩) m c] w fun e w' => e = .returned (.tuple #[]) ∧ ∃ q, w' = putRow encN (Sort.ahead w q) B 0 xs.reverse.toArray := by
  subst hm
  exact AnyE.slices_Reverse Tryz.revL encN encN_one B 0 c xs w hH (by omega)

theorem chain_len {X : Nat → Int × Int} {o : List Nat} (h2 : 2 ≤ o.length) (hp : o.Pairwise fun i j => lx (X i) (X j)) : 2 ≤ (chainR X [] o).reverse.length ∧ 2 ≤ (chainR X [] o.reverse).reverse.length := by
  obtain ⟨a, b, t, e1, _, _, _, ht, _⟩ := HL.chain_two o h2 hp
  have hpn : o.reverse.Pairwise fun i j => lx (HL.neg (X i)) (HL.neg (X j)) := by
    rw [List.pairwise_reverse]
    exact hp.imp fun h => HL.lx_neg.2 h
  obtain ⟨a', b', t', e2, _, _, _, ht', _⟩ := HL.chain_two (X := fun k => HL.neg (X k)) o.reverse (by simpa using h2) hpn
  rw [HL.chain_neg] at e2
  have h3 := List.length_pos_iff.2 ht
  have h4 := List.length_pos_iff.2 ht'
  rw [e1, e2]
  simp
  omega

theorem chain_le (X : Nat → Int × Int) : ∀ (l s : List Nat), (chainR X s l).length ≤ s.length + l.length := by
  have pop : ∀ (i : Nat) (s : List Nat), (popW X i s).length ≤ s.length := by
    intro i s
    induction s with
    | nil => exact Nat.le_refl _
    | cons b s ih =>
      cases s with
      | nil => exact Nat.le_refl _
      | cons a r =>
        rw [popW]
        split
        · exact Nat.le_succ_of_le ih
        · exact Nat.le_refl _
  intro l
  induction l with
  | nil => intro s; simp [chainR]
  | cons i l ih =>
    intro s
    rw [chainR]
    have h1 := ih (i :: popW X i s)
    have h2 := pop i s
    simp at h1 ⊢
    omega

theorem cpt_le (eq : Nat → Nat → Bool) (d : Array Nat) : ∀ m, (cpt eq d m).length ≤ m := by
  intro m
  induction m with
  | zero => simp [cpt]
  | succ m ih =>
    rw [cpt]
    split
    · simp; omega
    · omega

theorem ordL_le (X : Nat → Int × Int) (o : List Nat) : (ordL X o).length ≤ o.length := cpt_le _ _ _

set_option maxHeartbeats 8000000 in
set_option maxRecDepth 100000 in
theorem hull_any (G n c : Nat) (f : Nat → Nat × Nat) (X : Nat → Int × Int) (w : World) (hn : n ≤ 10000) (H : SpX w G n f X) :
    Calls Tryz.prog 49 #[.slice (some ⟨G, 0, none⟩) n c] w fun e w' => ∃ o v, Srt X n o ∧ e = .returned v ∧ CV w' w.heap.size v (hullL X (ordL X o)) ∧ Below w.heap.size w w' := by
  have HF : Hid (Calls Tryz.prog 66 #[.slice (some ⟨G, 0, none⟩) n c] w fun e w' => ∃ o B cap, Srt X n o ∧ e = .returned (.slice (some ⟨B, 0, none⟩) (ordL X o).length cap) ∧ CV w' w.heap.size (.slice (some ⟨B, 0, none⟩) (ordL X o).length cap) (ordL X o) ∧ Below w.heap.size w w') := fromLeft_any G n c f X w (by omega) H
  have HX : Hid (SpX w G n f X) := H
  clear H
  go_enter Tryz.func49, Tryz.ntmps49
  go_upto_region 2 with (go_at_call 66; go_must (refine HF.out.mono ?_; rintro e w1 ⟨o, B, cap, ho, rfl, hC, hb1⟩))
  obtain ⟨hm1, hB1, hB2, hH⟩ := hC.holds
  clear hm1
  have hord := ho.ord
  have hlo : (ordL X o).length ≤ 10000 := by have h9 := ordL_le X o; have h8 := ho.length; omega
  have HCV : Hid (CV w1 w.heap.size (.slice (some ⟨B, 0, none⟩) (ordL X o).length cap) (ordL X o)) := hC
  have HSR : Hid (Srt X n o) := ho
  clear hC ho
  obtain ⟨q, hq⟩ : ∃ q, q = ordL X o := ⟨_, rfl⟩
  rw [← hq] at hH hord hlo HCV ⊢
  have HQ : Hid (q = ordL X o) := hq
  clear hq
  obtain ⟨L, hL⟩ : ∃ L, L = q.length := ⟨_, rfl⟩
  have HL' : Hid (L = q.length) := hL
  rw [← hL] at hlo HCV ⊢
  by_cases h2 : L < 2
  · have h2' : (L : Int) < 2 := by omega
    clear hL
    go_wp2
    go_ret
    refine ⟨o, _, HSR.out, rfl, ?_, hb1⟩
    rw [← HQ.out]
    unfold hullL
    rw [if_pos (by have := HL'.out; omega)]
    exact HCV.out
  · have h2' : ¬ (L : Int) < 2 := by omega
    have h2'' : (2 : Int) ≤ (L : Int) := by omega
    have hlen := chain_len (X := X) (o := q) (by omega) hord.sorted
    have hle1 := chain_le X q []
    have hle2 := chain_le X q.reverse []
    obtain ⟨xs, hxs⟩ : ∃ xs, xs = (chainR X [] q).reverse := ⟨_, rfl⟩
    obtain ⟨ys, hys⟩ : ∃ ys, ys = (chainR X [] q.reverse).reverse := ⟨_, rfl⟩
    have hx2 : 2 ≤ xs.length ∧ xs.length ≤ 10000 := by rw [hxs]; refine ⟨hlen.1, ?_⟩; simp at hle1 ⊢; omega
    have hy2 : 2 ≤ ys.length ∧ ys.length ≤ 10000 := by rw [hys]; refine ⟨hlen.2, ?_⟩; simp at hle2 ⊢; omega
    have hX1 := HX.out.kept hb1
    have HLT : Hid (Calls Tryz.prog 67 #[.slice (some ⟨G, 0, none⟩) n c, .slice (some ⟨B, 0, none⟩) L cap] w1 fun e w' => ∃ v, e = .returned v ∧ CV w' w1.heap.size v xs ∧ Below w1.heap.size w1 w') := by
      rw [hxs, hL]
      exact leftTurns_any G n c B cap f X q w1 (by omega) (by omega) hX1 hord.mem (fun j hj => by have h9 := (hH j (by simpa using hj)).1; rw [Nat.zero_add, get_at hj] at h9; exact h9) hB2
    have HRV : Hid (∀ V, Below w1.heap.size w1 V → Calls Tryz.prog 68 #[.slice (some ⟨B, 0, none⟩) L cap] V fun e w' => e = .returned (.tuple #[]) ∧ ∃ p, w' = putRow encN (Sort.ahead V p) B 0 q.reverse.toArray) := by
      intro V hV
      refine reverse_any B L cap q V hL (by omega) fun j hj => ?_
      have h9 := hH j hj
      obtain ⟨hc, hf⟩ := bcell hV
      rw [hc _ _ hB2, hf _ _ hB2]
      exact h9
    have HLT2 : Hid (∀ V p, Below w1.heap.size w1 V → Calls Tryz.prog 67 #[.slice (some ⟨G, 0, none⟩) n c, .slice (some ⟨B, 0, none⟩) L cap] (putRow encN (Sort.ahead V p) B 0 q.reverse.toArray) fun e w' => ∃ v, e = .returned v ∧ CV w' V.heap.size v ys ∧ Below V.heap.size (putRow encN (Sort.ahead V p) B 0 q.reverse.toArray) w') := by
      intro V p hV
      have hsz := put_size V B 0 p q.reverse.toArray
      have hHV : Holds encN V B 0 q.toArray := fun j hj => by
        have h9 := hH j hj
        obtain ⟨hc, hf⟩ := bcell hV
        rw [hc _ _ hB2, hf _ _ hB2]
        exact h9
      have hH2 : Holds encN (putRow encN (Sort.ahead V p) B 0 q.reverse.toArray) B 0 q.reverse.toArray := holds_putRow encN _ B 0 q.toArray q.reverse.toArray (holds_ahead encN V p B 0 _ hHV) (by simp)
      have hGB : G < B := by have := HX.out.lt; omega
      have h9 := leftTurns_any G n c B cap f X q.reverse (putRow encN (Sort.ahead V p) B 0 q.reverse.toArray) (by omega) (by simp; omega) ((hX1.kept hV).keptB hGB (put_below V B 0 p _)) (fun i hi => hord.mem i (List.mem_reverse.1 hi)) (fun j hj => by have h9 := (hH2 j (by simpa using hj)).1; rw [Nat.zero_add, get_at hj] at h9; exact h9) (by rw [hsz]; exact Nat.lt_of_lt_of_le hB2 hV.size)
      rw [hsz, List.length_reverse, ← hL, ← hys] at h9
      exact h9
    have HRES : Hid (hullL X (ordL X o) = xs.take (xs.length - 1) ++ ys.take (ys.length - 1)) := by
      unfold Hid
      rw [← HQ.out]
      unfold hullL
      rw [if_neg (by have := HL'.out; omega), ← hxs, ← hys, List.dropLast_eq_take, List.dropLast_eq_take]
    clear hlen hle1 hle2 hX1 hH hord hL hxs hys
    go_upto_region 7 with (first | (go_at_call 67; have gg := hb3; go_must (refine (HLT2.out _ _ hb2).mono ?_; rintro e w4 ⟨v4, rfl, hC4, hb4⟩)) | (go_at_call 67; go_must (refine HLT.out.mono ?_; rintro e w2 ⟨v2, rfl, hC2, hb2⟩)) | (go_at_call 68; go_must (refine (HRV.out _ hb2).mono ?_; rintro e w3 ⟨rfl, p, rfl⟩; have hb3 : True := trivial)))
    have hsz3 := put_size w2 B 0 p q.reverse.toArray
    have hb4' : Below (putRow encN (Sort.ahead w2 p) B 0 q.reverse.toArray).heap.size (putRow encN (Sort.ahead w2 p) B 0 q.reverse.toArray) w4 := by rw [hsz3]; exact hb4
    have hCx := (hC2.other (q := p) (d := q.reverse.toArray) hB2).kept hb4'
    have hbw : Below w.heap.size w w4 := (hb1.trans (hb2.mono hb1.size)).trans (((put_below w2 B 0 p q.reverse.toArray).mono hB1).trans (hb4.mono (Nat.le_trans hb1.size hb2.size)))
    obtain ⟨ga, ca, hv2, hga, hla, _, hcx, htx⟩ := hCx.full (by intro h; rw [h] at hx2; simp at hx2)
    obtain ⟨gb, cb, hv4, hgb, hlb, _, hcy, hty⟩ := hC4.full (by intro h; rw [h] at hy2; simp at hy2)
    subst hv2 hv4
    have hgal : ga < w4.heap.size := hCx.holds.2.2.1
    have hgbl : gb < w4.heap.size := hC4.holds.2.2.1
    obtain ⟨m1, hm1⟩ : ∃ m1, m1 = xs.length := ⟨_, rfl⟩
    obtain ⟨m2, hm2⟩ : ∃ m2, m2 = ys.length := ⟨_, rfl⟩
    have HCC : Hid (∀ V k, Below w4.heap.size w4 V → V.cell? ⟨w4.heap.size, 0, none⟩ = some (.slice (some ⟨ga, 0, none⟩) (m1 - 1) ca) → V.cell? ⟨w4.heap.size, 1, none⟩ = some (.slice (some ⟨gb, 0, none⟩) (m2 - 1) cb) → w4.heap.size < V.heap.size → Calls Tryz.prog 69 #[.slice (some ⟨w4.heap.size, 0, none⟩) 2 k] V fun e w' => ∃ v, e = .returned v ∧ CV w' V.heap.size v (hullL X (ordL X o)) ∧ Below V.heap.size V w') := by
      intro V k hV c0 c1 hlt
      rw [HRES.out]
      have hl1 : (xs.take (xs.length - 1)).length = m1 - 1 := by rw [List.length_take]; omega
      have hl2 : (ys.take (ys.length - 1)).length = m2 - 1 := by rw [List.length_take]; omega
      refine concat_any w4.heap.size ga ca gb cb k (xs.take (xs.length - 1)) (ys.take (ys.length - 1)) V ?_ hlt (Nat.lt_of_lt_of_le hgal hV.size) (Nat.lt_of_lt_of_le hgbl hV.size) ?_ ?_ ?_ ?_ ?_
      · intro h
        rw [h] at hl1
        simp at hl1
        omega
      · rw [hl1, hl2]; omega
      · rw [hl1]; exact c0
      · rw [hl2]; exact c1
      · intro j hj
        rw [hV.cell (p := ⟨ga, j, none⟩) hgal, List.getElem_take]
        exact hcx j (by omega)
      · intro j hj
        rw [hV.cell (p := ⟨gb, j, none⟩) hgbl, List.getElem_take]
        exact hcy j (by omega)
    rw [← hm1] at hx2 hla ⊢
    rw [← hm2] at hy2 hlb ⊢
    clear hcx hcy htx hty hCx hC4 hC2 hm1 hm2 hb4 hb4' hsz3 HLT HRV HLT2
    have i1 : (0 : Int) ≤ (m1 : Int) - 1 := by omega
    have i2 : (m1 : Int) - 1 ≤ (ca : Int) := by omega
    have i3 : ((m1 : Int) - 1).toNat = m1 - 1 := by omega
    have i4 : IntKind.i64.wrap ((m1 : Int) - 1) = (m1 : Int) - 1 := by rw [IntKind.wrap_i64]; omega
    have i5 : (0 : Int) ≤ (m2 : Int) - 1 := by omega
    have i6 : (m2 : Int) - 1 ≤ (cb : Int) := by omega
    have i7 : ((m2 : Int) - 1).toNat = m2 - 1 := by omega
    have i8 : IntKind.i64.wrap ((m2 : Int) - 1) = (m2 : Int) - 1 := by rw [IntKind.wrap_i64]; omega
    have i9 : (1 : Int) ≤ (m1 : Int) := by omega
    have i10 : (1 : Int) ≤ (m2 : Int) := by omega
    go_region_held3 (fun _ : World => True) (trivial) (first | (go_at_call 69; go_must (refine (HCC.out _ _ (by repeat (with_reducible first | refine below_alloc _ ?_ | refine Below.drew ?_ | exact Below.refl _ _)) (by simp [go_sem]) (by simp [go_sem]) (by simp)).mono ?_; rintro e w5 ⟨v5, rfl, hC5, hb5⟩)))
    all_goals
      go_wp2
      go_ret
      refine ⟨o, _, HSR.out, rfl, hC5.base ?_, ?_⟩
      · have := hbw.size
        simp
        omega
      · exact below_step hb5 (by repeat (with_reducible first | refine below_alloc _ ?_ | refine Below.drew ?_ | exact hbw))

end Go.Proofs.YtbjjkfmdkmbcfaaGreat

namespace Go.Proofs.YtbjjkfmdkmbcfaaGreat
open Go.Shelf Go.RowKit Go.Lib Go.Sort
open HL (cr lx popW chainR hullL)

attribute [local go_sem ↓] Go.wp_at_zero Go.wp_at_succ

set_option maxHeartbeats 2000000 in
set_option maxRecDepth 100000 in
theorem hullE_many (o : Option Addr) (n c : Nat) (w : World) (hn : 100 < n) (h63 : n < 9223372036854775808) :
    Calls Tryz.prog 31 #[.slice o n c] w fun e w' => Below w.heap.size w w' ∧ e = .returned (.tuple #[.slice none 0 0, .int .i64 2]) := by
  go_enter Tryz.func31, Tryz.ntmps31
  go_wp2
  go_ret2
  exact ⟨Below.refl _ w, rfl⟩

set_option maxHeartbeats 4000000 in
set_option maxRecDepth 100000 in
theorem hullE_no (v : Value) (n : Nat) (ps : List (Nat × Nat)) (w : World) (hv : SlAt w v n ps) (hn : ps.length = n) (hnm : n ≤ 100) (h64 : ∀ p ∈ ps, p.1 < 2 ^ 64 ∧ p.2 < 2 ^ 64) (hok : okPts ps = false) :
    Calls Tryz.prog 31 #[v] w fun e w' => Below w.heap.size w w' ∧ e = .returned (.tuple #[.slice none 0 0, .int .i64 1]) := by
  have HV : Hid (Calls Tryz.prog 35 #[v] w fun e w' => Below w.heap.size w w' ∧ e = .returned (.tuple #[.slice none 0 0, .int .i64 1])) := spots_no v n ps w hv hn (by omega) h64 hok
  obtain ⟨o, c, rfl⟩ := hv.form
  clear hv
  go_enter Tryz.func31, Tryz.ntmps31
  go_wp2_with (first | (go_at_call 35; go_must (refine HV.out.mono ?_; rintro e w1 ⟨hb1, rfl⟩)))
  go_ret2
  exact ⟨hb1, rfl⟩

theorem spx_of_row {w : World} {G n : Nat} {ps : List (Nat × Nat)} (h : SpRow w G ps) (hn : ps.length = n) (hok : okPts ps = true) : SpX w G n (fun i => ps.getD i (0, 0)) (crdX ps) :=
  ⟨h.1, fun i hi => ⟨h.2 i (by omega), cr_mayB (ok_at hok i (by omega)).1, cr_mayB (ok_at hok i (by omega)).2⟩⟩

set_option maxHeartbeats 4000000 in
set_option maxRecDepth 100000 in
theorem hullE_ok (v : Value) (n : Nat) (ps : List (Nat × Nat)) (w : World) (hv : SlAt w v n ps) (hn : ps.length = n) (hnm : n ≤ 100) (h64 : ∀ p ∈ ps, p.1 < 2 ^ 64 ∧ p.2 < 2 ^ 64) (hok : okPts ps = true) :
    Calls Tryz.prog 31 #[v] w fun e w' => ∃ o u, Srt (crdX ps) n o ∧ e = .returned (.tuple #[u, .int .i64 0]) ∧ CV w' w.heap.size u (hullL (crdX ps) (ordL (crdX ps) o)) ∧ Below w.heap.size w w' := by
  have HV : Hid (Calls Tryz.prog 35 #[v] w fun e w' => Below w.heap.size w w' ∧ ∃ G, e = .returned (.tuple #[.slice (some ⟨G, 0, none⟩) n n, .int .i64 0]) ∧ SpRow w' G ps) := spots_yes v n ps w hv hn (by omega) h64 hok
  have HU : Hid (∀ V G, SpRow V G ps → Calls Tryz.prog 49 #[.slice (some ⟨G, 0, none⟩) n n] V fun e w' => ∃ o u, Srt (crdX ps) n o ∧ e = .returned u ∧ CV w' V.heap.size u (hullL (crdX ps) (ordL (crdX ps) o)) ∧ Below V.heap.size V w') := fun V G hr => hull_any G n n _ _ V (by omega) (spx_of_row hr hn hok)
  obtain ⟨o, c, rfl⟩ := hv.form
  clear hv
  go_enter Tryz.func31, Tryz.ntmps31
  go_wp2_with (first | (go_at_call 35; go_must (refine HV.out.mono ?_; rintro e w1 ⟨hb1, G, rfl, hrow⟩)) | (go_at_call 49; go_must (refine (HU.out _ _ hrow).mono ?_; rintro e w2 ⟨o, u, ho, rfl, hC, hb2⟩)))
  go_ret2
  exact ⟨o, u, ho, rfl, hC.base hb1.size, below_step hb2 hb1⟩

end Go.Proofs.YtbjjkfmdkmbcfaaGreat

namespace Go.Proofs.YtbjjkfmdkmbcfaaGreat
open Go.RowKit
open PlLv

attribute [local go_sem ↓] Go.wp_at_zero Go.wp_at_succ
attribute [local go_sem] eql_nil

set_option maxHeartbeats 8000000 in
set_option maxRecDepth 100000 in
theorem hlaw_many (pw : Option Addr) (ad : Addr) (sc n : Nat) (ax ay bx by' cx cy dx dy : Nat) (ps : List (Nat × Nat)) (w : World) (hv : SrcAt w (.slice (some ad) n sc) n ps) (hn : ps.length = n) (hm : 100 < n) (hnb : n ≤ 8796093021952) :
    Calls Tryz.prog 14 #[.pointer pw, .agg #[.int .i64 6, .int .u64 ax, .int .u64 ay, .int .u64 bx, .int .u64 by', .int .u64 cx, .int .u64 cy, .int .u64 dx, .int .u64 dy, .slice (some ad) n sc]] w fun e w' => Below w.heap.size w w' ∧ e = .returned (.bool true) := by
  go_enter Tryz.func14, Tryz.ntmps14
  go_upto_region 1 with fail
  generalize hW : World.alloc w _ = W
  have hWs : W.heap.size = w.heap.size + 1 := by subst hW; simp
  have hw : Below w.heap.size w W := by subst hW; exact (Below.refl _ _).alloc (Nat.le_refl _) _
  have KS : ∀ w', Below W.heap.size W w' → w'.cell? ⟨w.heap.size, 9, none⟩ = some (.slice (some ad) n sc) := by
    intro w' hb
    obtain ⟨hc, _⟩ := bcell hb
    rw [hc _ _ (by omega)]
    subst hW
    simp [go_sem]
  have HSRC : Hid (∀ w', Below W.heap.size W w' → SrcAt w' (.slice (some ad) n sc) n ps) := fun w' hb => SrcAt.kept (w := w) (hv) (hw.trans (hb.mono hw.size))
  clear hW hWs hv
  have hS0 := KS W (Below.refl _ _)
  go_wp2_with (first | (go_at_call 27; go_must (refine (lent_any _ n ps _ (HSRC.out _ (Below.refl _ _)) hn (by omega)).mono ?_; rintro e w1 ⟨rfl, hrow1, hb1⟩; have hS1 := KS w1 hb1; have hH1 := lt_of_row hrow1; have HR1 : Hid (w1.heap[W.heap.size]? = some (.cells (ptCells (ps ++ tail3)).toArray 24 (0, 0))) := hrow1; clear hrow1)) | (go_at_call 31; go_must (refine (hullE_many _ n _ _ (by omega) (by omega)).mono ?_; rintro e w2 ⟨hb2, rfl⟩; have hW2 : Below W.heap.size W w2 := below_step hb2 hb1; have hS2 := KS w2 hW2; have HR2 : Hid (w2.heap[W.heap.size]? = some (.cells (ptCells (ps ++ tail3)).toArray 24 (0, 0))) := (hb2.block _ hH1).trans HR1.out)) | (go_at_call 29; go_must (refine (whole_any W.heap.size n _ ps _ HR2.out (HSRC.out _ hW2) hn (by omega)).mono ?_; rintro e w3 ⟨rfl, hb3⟩; have hW3 : Below W.heap.size W w3 := hW2.trans hb3; have hS3 := KS w3 hW3)) | (go_at_call 20; go_must (refine (num_any _ _).mono ?_; rintro e w9 ⟨rfl, rfl⟩)))
  go_ret
  exact ⟨hw.trans (Below.mono (B := W.heap.size) hW3 hw.size), rfl⟩

set_option maxHeartbeats 8000000 in
set_option maxRecDepth 100000 in
theorem hlaw_no (pw : Option Addr) (ad : Addr) (sc n : Nat) (ax ay bx by' cx cy dx dy : Nat) (ps : List (Nat × Nat)) (w : World) (hv : SrcAt w (.slice (some ad) n sc) n ps) (hn : ps.length = n) (hnm : n ≤ 100) (h64 : ∀ p ∈ ps, p.1 < 2 ^ 64 ∧ p.2 < 2 ^ 64) (hok : okPts ps = false) :
    Calls Tryz.prog 14 #[.pointer pw, .agg #[.int .i64 6, .int .u64 ax, .int .u64 ay, .int .u64 bx, .int .u64 by', .int .u64 cx, .int .u64 cy, .int .u64 dx, .int .u64 dy, .slice (some ad) n sc]] w fun e w' => Below w.heap.size w w' ∧ e = .returned (.bool true) := by
  go_enter Tryz.func14, Tryz.ntmps14
  go_upto_region 1 with fail
  generalize hW : World.alloc w _ = W
  have hWs : W.heap.size = w.heap.size + 1 := by subst hW; simp
  have hw : Below w.heap.size w W := by subst hW; exact (Below.refl _ _).alloc (Nat.le_refl _) _
  have KS : ∀ w', Below W.heap.size W w' → w'.cell? ⟨w.heap.size, 9, none⟩ = some (.slice (some ad) n sc) := by
    intro w' hb
    obtain ⟨hc, _⟩ := bcell hb
    rw [hc _ _ (by omega)]
    subst hW
    simp [go_sem]
  have HSRC : Hid (∀ w', Below W.heap.size W w' → SrcAt w' (.slice (some ad) n sc) n ps) := fun w' hb => SrcAt.kept (w := w) (hv) (hw.trans (hb.mono hw.size))
  clear hW hWs hv
  have hS0 := KS W (Below.refl _ _)
  go_wp2_with (first | (go_at_call 27; go_must (refine (lent_any _ n ps _ (HSRC.out _ (Below.refl _ _)) hn (by omega)).mono ?_; rintro e w1 ⟨rfl, hrow1, hb1⟩; have hS1 := KS w1 hb1; have hH1 := lt_of_row hrow1; have HR1 : Hid (w1.heap[W.heap.size]? = some (.cells (ptCells (ps ++ tail3)).toArray 24 (0, 0))) := hrow1; clear hrow1)) | (go_at_call 31; go_must (refine (hullE_no _ n ps _ (sl_of_row HR1.out hn) hn (by omega) h64 hok).mono ?_; rintro e w2 ⟨hb2, rfl⟩; have hW2 : Below W.heap.size W w2 := below_step hb2 hb1; have hS2 := KS w2 hW2; have HR2 : Hid (w2.heap[W.heap.size]? = some (.cells (ptCells (ps ++ tail3)).toArray 24 (0, 0))) := (hb2.block _ hH1).trans HR1.out)) | (go_at_call 29; go_must (refine (whole_any W.heap.size n _ ps _ HR2.out (HSRC.out _ hW2) hn (by omega)).mono ?_; rintro e w3 ⟨rfl, hb3⟩; have hW3 : Below W.heap.size W w3 := hW2.trans hb3; have hS3 := KS w3 hW3)) | (go_at_call 20; go_must (refine (num_any _ _).mono ?_; rintro e w9 ⟨rfl, rfl⟩)) | (go_at_call 15; go_must (refine (points_no _ n ps _ (HSRC.out _ hW3) hn (by omega) h64 hok).mono ?_; rintro e w4 ⟨hb4, rfl⟩; have hW4 : Below W.heap.size W w4 := below_step hb4 hW3; have hS4 := KS w4 hW4)))
  go_ret
  exact ⟨hw.trans (Below.mono (B := W.heap.size) hW4 hw.size), rfl⟩

end Go.Proofs.YtbjjkfmdkmbcfaaGreat
