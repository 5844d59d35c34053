import Derived.Test.YtbjjkfmdkmbcfaaHo
namespace Go.Proofs.Ytbjjkfmdkmbcfaa
open Go.Shelf Go.RowKit Go.Lib Go.Sort
open HL (cr lx popW chainR hullL)

attribute [local go_sem ↓] Go.wp_at_zero Go.wp_at_succ

theorem CV.holds {w : World} {base B c : Nat} {xs : List Nat} {m : Nat} (h : CV w base (.slice (some ⟨B, 0, none⟩) m c) xs) : m = xs.length ∧ base ≤ B ∧ B < w.heap.size ∧ Holds encN w B 0 xs.toArray := by
  obtain ⟨hl, h⟩ := h
  rcases h with ⟨h1, _⟩ | ⟨g, cap, cur, h1, hb, hg, hc, hm, hs, ht⟩
  · cases h1
  · simp only [Value.slice.injEq, Option.some.injEq, Addr.mk.injEq, and_true] at h1
    obtain ⟨rfl, rfl, rfl⟩ := h1
    refine ⟨rfl, hb, ?_, fun j hj => ?_⟩
    · rw [← Nat.not_le]
      intro hle
      rw [Array.getElem?_eq_none hle] at hg
      cases hg
    · have hj' : j < xs.length := by simpa using hj
      refine ⟨?_, by simp [World.frozen?, hg]⟩
      have h3 : (cur.toList.take (xs.length * 1))[j]? = (xs.map encN)[j]? := by rw [ht]
      rw [List.getElem?_take, if_pos (by omega), Array.getElem?_toList, List.getElem?_map, List.getElem?_eq_getElem hj'] at h3
      rw [Nat.zero_add, get_at hj']
      simp [World.cell?, hg, h3]

/-- A row elsewhere is not touched. -/
theorem CV.other {w : World} {base B q : Nat} {v : Value} {xs : List Nat} {d : Array Nat} (h : CV w base v xs) (hB : B < base) : CV (putRow encN (Sort.ahead w q) B 0 d) base v xs := by
  obtain ⟨hl, h⟩ := h
  refine ⟨hl, ?_⟩
  rcases h with h | ⟨g, cap, cur, h1, hbg, hg, h2, h3, h4, h5⟩
  · exact .inl h
  · refine .inr ⟨g, cap, cur, h1, hbg, ?_, h2, h3, h4, h5⟩
    show (w.heap.modify B _)[g]? = _
    rw [Array.getElem?_modify, if_neg (by omega)]
    exact hg

theorem CV.base {w : World} {base base' : Nat} {v : Value} {xs : List Nat} (h : CV w base v xs) (hb : base' ≤ base) : CV w base' v xs := by
  obtain ⟨hl, h⟩ := h
  refine ⟨hl, ?_⟩
  rcases h with h | ⟨g, cap, cur, h1, hbg, h2⟩
  · exact .inl h
  · exact .inr ⟨g, cap, cur, h1, Nat.le_trans hb hbg, h2⟩

theorem reverse_any (B m c : Nat) (xs : List Nat) (w : World) (hm : m = xs.length) (hl : xs.length ≤ 100000) (hH : Holds encN w B 0 xs.toArray) :
    Calls Try.prog 46 #[.slice (some ⟨B, 0, none⟩) m c] w fun e w' => e = .returned (.tuple #[]) ∧ ∃ q, w' = putRow encN (Sort.ahead w q) B 0 xs.reverse.toArray := by
  subst hm
  exact AnyE.slices_Reverse Try.revL encN encN_one B 0 c xs w hH (by omega)

theorem chain_len {X : Nat → Int × Int} {o : List Nat} (h2 : 2 ≤ o.length) (hp : o.Pairwise fun i j => lx (X i) (X j)) : 2 ≤ (chainR X [] o).reverse.length ∧ 2 ≤ (chainR X [] o.reverse).reverse.length := by
  obtain ⟨a, b, t, e1, _, _, _, ht, _⟩ := HL.chain_two o h2 hp
  have hpn : o.reverse.Pairwise fun i j => lx (HL.neg (X i)) (HL.neg (X j)) := by
    rw [List.pairwise_reverse]
    exact hp.imp fun h => HL.lx_neg.2 h
  obtain ⟨a', b', t', e2, _, _, _, ht', _⟩ := HL.chain_two (X := fun k => HL.neg (X k)) o.reverse (by simpa using h2) hpn
  rw [HL.chain_neg] at e2
  have h3 := List.length_pos_iff.2 ht
  have h4 := List.length_pos_iff.2 ht'
  rw [e1, e2]
  simp
  omega

theorem chain_le (X : Nat → Int × Int) : ∀ (l s : List Nat), (chainR X s l).length ≤ s.length + l.length := by
  have pop : ∀ (i : Nat) (s : List Nat), (popW X i s).length ≤ s.length := by
    intro i s
    induction s with
    | nil => exact Nat.le_refl _
    | cons b s ih =>
      cases s with
      | nil => exact Nat.le_refl _
      | cons a r =>
        rw [popW]
        split
        · exact Nat.le_succ_of_le ih
        · exact Nat.le_refl _
  intro l
  induction l with
  | nil => intro s; simp [chainR]
  | cons i l ih =>
    intro s
    rw [chainR]
    have h1 := ih (i :: popW X i s)
    have h2 := pop i s
    simp at h1 ⊢
    omega

theorem cpt_le (eq : Nat → Nat → Bool) (d : Array Nat) : ∀ m, (cpt eq d m).length ≤ m := by
  intro m
  induction m with
  | zero => simp [cpt]
  | succ m ih =>
    rw [cpt]
    split
    · simp; omega
    · omega

theorem ordL_le (X : Nat → Int × Int) (o : List Nat) : (ordL X o).length ≤ o.length := cpt_le _ _ _

set_option maxHeartbeats 8000000 in
set_option maxRecDepth 100000 in
theorem hull_any (G n c : Nat) (f : Nat → Nat × Nat) (X : Nat → Int × Int) (w : World) (hn : n ≤ 10000) (H : SpX w G n f X) :
    Calls Try.prog 34 #[.slice (some ⟨G, 0, none⟩) n c] w fun e w' => ∃ o v, Srt X n o ∧ e = .returned v ∧ CV w' w.heap.size v (hullL X (ordL X o)) ∧ Below w.heap.size w w' := by
  have HF : Hid (Calls Try.prog 44 #[.slice (some ⟨G, 0, none⟩) n c] w fun e w' => ∃ o B cap, Srt X n o ∧ e = .returned (.slice (some ⟨B, 0, none⟩) (ordL X o).length cap) ∧ CV w' w.heap.size (.slice (some ⟨B, 0, none⟩) (ordL X o).length cap) (ordL X o) ∧ Below w.heap.size w w') := fromLeft_any G n c f X w (by omega) H
  have HX : Hid (SpX w G n f X) := H
  clear H
  go_enter Try.func34, Try.ntmps34
  go_upto_region 2 with (go_at_call 44; go_must (refine HF.out.mono ?_; rintro e w1 ⟨o, B, cap, ho, rfl, hC, hb1⟩))
  obtain ⟨hm1, hB1, hB2, hH⟩ := hC.holds
  clear hm1
  have hord := ho.ord
  have hlo : (ordL X o).length ≤ 10000 := by have h9 := ordL_le X o; have h8 := ho.length; omega
  have HCV : Hid (CV w1 w.heap.size (.slice (some ⟨B, 0, none⟩) (ordL X o).length cap) (ordL X o)) := hC
  have HSR : Hid (Srt X n o) := ho
  clear hC ho
  obtain ⟨q, hq⟩ : ∃ q, q = ordL X o := ⟨_, rfl⟩
  rw [← hq] at hH hord hlo HCV ⊢
  have HQ : Hid (q = ordL X o) := hq
  clear hq
  obtain ⟨L, hL⟩ : ∃ L, L = q.length := ⟨_, rfl⟩
  have HL' : Hid (L = q.length) := hL
  rw [← hL] at hlo HCV ⊢
  by_cases h2 : L < 2
  · have h2' : (L : Int) < 2 := by omega
    clear hL
    go_wp2
    go_ret
    refine ⟨o, _, HSR.out, rfl, ?_, hb1⟩
    rw [← HQ.out]
    unfold hullL
    rw [if_pos (by have := HL'.out; omega)]
    exact HCV.out
  · have h2' : ¬ (L : Int) < 2 := by omega
    have h2'' : (2 : Int) ≤ (L : Int) := by omega
    have hlen := chain_len (X := X) (o := q) (by omega) hord.sorted
    have hle1 := chain_le X q []
    have hle2 := chain_le X q.reverse []
    obtain ⟨xs, hxs⟩ : ∃ xs, xs = (chainR X [] q).reverse := ⟨_, rfl⟩
    obtain ⟨ys, hys⟩ : ∃ ys, ys = (chainR X [] q.reverse).reverse := ⟨_, rfl⟩
    have hx2 : 2 ≤ xs.length ∧ xs.length ≤ 10000 := by rw [hxs]; refine ⟨hlen.1, ?_⟩; simp at hle1 ⊢; omega
    have hy2 : 2 ≤ ys.length ∧ ys.length ≤ 10000 := by rw [hys]; refine ⟨hlen.2, ?_⟩; simp at hle2 ⊢; omega
    have hX1 := HX.out.kept hb1
    have HLT : Hid (Calls Try.prog 45 #[.slice (some ⟨G, 0, none⟩) n c, .slice (some ⟨B, 0, none⟩) L cap] w1 fun e w' => ∃ v, e = .returned v ∧ CV w' w1.heap.size v xs ∧ Below w1.heap.size w1 w') := by
      rw [hxs, hL]
      exact leftTurns_any G n c B cap f X q w1 (by omega) (by omega) hX1 hord.mem (fun j hj => by have h9 := (hH j (by simpa using hj)).1; rw [Nat.zero_add, get_at hj] at h9; exact h9) hB2
    have HRV : Hid (∀ V, Below w1.heap.size w1 V → Calls Try.prog 46 #[.slice (some ⟨B, 0, none⟩) L cap] V fun e w' => e = .returned (.tuple #[]) ∧ ∃ p, w' = putRow encN (Sort.ahead V p) B 0 q.reverse.toArray) := by
      intro V hV
      refine reverse_any B L cap q V hL (by omega) fun j hj => ?_
      have h9 := hH j hj
      obtain ⟨hc, hf⟩ := bcell hV
      rw [hc _ _ hB2, hf _ _ hB2]
      exact h9
    have HLT2 : Hid (∀ V p, Below w1.heap.size w1 V → Calls Try.prog 45 #[.slice (some ⟨G, 0, none⟩) n c, .slice (some ⟨B, 0, none⟩) L cap] (putRow encN (Sort.ahead V p) B 0 q.reverse.toArray) fun e w' => ∃ v, e = .returned v ∧ CV w' V.heap.size v ys ∧ Below V.heap.size (putRow encN (Sort.ahead V p) B 0 q.reverse.toArray) w') := by
      intro V p hV
      have hsz := put_size V B 0 p q.reverse.toArray
      have hHV : Holds encN V B 0 q.toArray := fun j hj => by
        have h9 := hH j hj
        obtain ⟨hc, hf⟩ := bcell hV
        rw [hc _ _ hB2, hf _ _ hB2]
        exact h9
      have hH2 : Holds encN (putRow encN (Sort.ahead V p) B 0 q.reverse.toArray) B 0 q.reverse.toArray := holds_putRow encN _ B 0 q.toArray q.reverse.toArray (holds_ahead encN V p B 0 _ hHV) (by simp)
      have hGB : G < B := by have := HX.out.lt; omega
      have h9 := leftTurns_any G n c B cap f X q.reverse (putRow encN (Sort.ahead V p) B 0 q.reverse.toArray) (by omega) (by simp; omega) ((hX1.kept hV).keptB hGB (put_below V B 0 p _)) (fun i hi => hord.mem i (List.mem_reverse.1 hi)) (fun j hj => by have h9 := (hH2 j (by simpa using hj)).1; rw [Nat.zero_add, get_at hj] at h9; exact h9) (by rw [hsz]; exact Nat.lt_of_lt_of_le hB2 hV.size)
      rw [hsz, List.length_reverse, ← hL, ← hys] at h9
      exact h9
    have HRES : Hid (hullL X (ordL X o) = xs.take (xs.length - 1) ++ ys.take (ys.length - 1)) := by
      unfold Hid
      rw [← HQ.out]
      unfold hullL
      rw [if_neg (by have := HL'.out; omega), ← hxs, ← hys, List.dropLast_eq_take, List.dropLast_eq_take]
    clear hlen hle1 hle2 hX1 hH hord hL hxs hys
    go_upto_region 7 with (first | (go_at_call 45; have gg := hb3; go_must (refine (HLT2.out _ _ hb2).mono ?_; rintro e w4 ⟨v4, rfl, hC4, hb4⟩)) | (go_at_call 45; go_must (refine HLT.out.mono ?_; rintro e w2 ⟨v2, rfl, hC2, hb2⟩)) | (go_at_call 46; go_must (refine (HRV.out _ hb2).mono ?_; rintro e w3 ⟨rfl, p, rfl⟩; have hb3 : True := trivial)))
    have hsz3 := put_size w2 B 0 p q.reverse.toArray
    have hb4' : Below (putRow encN (Sort.ahead w2 p) B 0 q.reverse.toArray).heap.size (putRow encN (Sort.ahead w2 p) B 0 q.reverse.toArray) w4 := by rw [hsz3]; exact hb4
    have hCx := (hC2.other (q := p) (d := q.reverse.toArray) hB2).kept hb4'
    have hbw : Below w.heap.size w w4 := (hb1.trans (hb2.mono hb1.size)).trans (((put_below w2 B 0 p q.reverse.toArray).mono hB1).trans (hb4.mono (Nat.le_trans hb1.size hb2.size)))
    obtain ⟨ga, ca, hv2, hga, hla, _, hcx, htx⟩ := hCx.full (by intro h; rw [h] at hx2; simp at hx2)
    obtain ⟨gb, cb, hv4, hgb, hlb, _, hcy, hty⟩ := hC4.full (by intro h; rw [h] at hy2; simp at hy2)
    subst hv2 hv4
    have hgal : ga < w4.heap.size := hCx.holds.2.2.1
    have hgbl : gb < w4.heap.size := hC4.holds.2.2.1
    obtain ⟨m1, hm1⟩ : ∃ m1, m1 = xs.length := ⟨_, rfl⟩
    obtain ⟨m2, hm2⟩ : ∃ m2, m2 = ys.length := ⟨_, rfl⟩
    have HCC : Hid (∀ V k, Below w4.heap.size w4 V → V.cell? ⟨w4.heap.size, 0, none⟩ = some (.slice (some ⟨ga, 0, none⟩) (m1 - 1) ca) → V.cell? ⟨w4.heap.size, 1, none⟩ = some (.slice (some ⟨gb, 0, none⟩) (m2 - 1) cb) → w4.heap.size < V.heap.size → Calls Try.prog 47 #[.slice (some ⟨w4.heap.size, 0, none⟩) 2 k] V fun e w' => ∃ v, e = .returned v ∧ CV w' V.heap.size v (hullL X (ordL X o)) ∧ Below V.heap.size V w') := by
      intro V k hV c0 c1 hlt
      rw [HRES.out]
      have hl1 : (xs.take (xs.length - 1)).length = m1 - 1 := by rw [List.length_take]; omega
      have hl2 : (ys.take (ys.length - 1)).length = m2 - 1 := by rw [List.length_take]; omega
      refine concat_any w4.heap.size ga ca gb cb k (xs.take (xs.length - 1)) (ys.take (ys.length - 1)) V ?_ hlt (Nat.lt_of_lt_of_le hgal hV.size) (Nat.lt_of_lt_of_le hgbl hV.size) ?_ ?_ ?_ ?_ ?_
      · intro h
        rw [h] at hl1
        simp at hl1
        omega
      · rw [hl1, hl2]; omega
      · rw [hl1]; exact c0
      · rw [hl2]; exact c1
      · intro j hj
        rw [hV.cell (p := ⟨ga, j, none⟩) hgal, List.getElem_take]
        exact hcx j (by omega)
      · intro j hj
        rw [hV.cell (p := ⟨gb, j, none⟩) hgbl, List.getElem_take]
        exact hcy j (by omega)
    rw [← hm1] at hx2 hla ⊢
    rw [← hm2] at hy2 hlb ⊢
    clear hcx hcy htx hty hCx hC4 hC2 hm1 hm2 hb4 hb4' hsz3 HLT HRV HLT2
    have i1 : (0 : Int) ≤ (m1 : Int) - 1 := by omega
    have i2 : (m1 : Int) - 1 ≤ (ca : Int) := by omega
    have i3 : ((m1 : Int) - 1).toNat = m1 - 1 := by omega
    have i4 : IntKind.i64.wrap ((m1 : Int) - 1) = (m1 : Int) - 1 := by rw [IntKind.wrap_i64]; omega
    have i5 : (0 : Int) ≤ (m2 : Int) - 1 := by omega
    have i6 : (m2 : Int) - 1 ≤ (cb : Int) := by omega
    have i7 : ((m2 : Int) - 1).toNat = m2 - 1 := by omega
    have i8 : IntKind.i64.wrap ((m2 : Int) - 1) = (m2 : Int) - 1 := by rw [IntKind.wrap_i64]; omega
    have i9 : (1 : Int) ≤ (m1 : Int) := by omega
    have i10 : (1 : Int) ≤ (m2 : Int) := by omega
    go_region_held3 (fun _ : World => True) (trivial) (first | (go_at_call 47; go_must (refine (HCC.out _ _ (by repeat (with_reducible first | refine below_alloc _ ?_ | refine Below.drew ?_ | exact Below.refl _ _)) (by simp [go_sem]) (by simp [go_sem]) (by simp)).mono ?_; rintro e w5 ⟨v5, rfl, hC5, hb5⟩)))
    all_goals
      go_wp2
      go_ret
      refine ⟨o, _, HSR.out, rfl, hC5.base ?_, ?_⟩
      · have := hbw.size
        simp
        omega
      · exact below_step hb5 (by repeat (with_reducible first | refine below_alloc _ ?_ | refine Below.drew ?_ | exact hbw))

end Go.Proofs.Ytbjjkfmdkmbcfaa
