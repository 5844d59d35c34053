import Derived.Test.YtbjjkfmdkmbcfaaGreatMAa
import Derived.Test.YtbjjkfmdkmbcfaaGreatMAk
import Derived.Test.YtbjjkfmdkmbcfaaGreatMWz
namespace Go.Proofs.YtbjjkfmdkmbcfaaGreat
open Go.RowKit
open PlLv

attribute [local go_sem ↓] Go.wp_at_zero Go.wp_at_succ
attribute [local go_sem] eql_nil

theorem cw_form {w : World} {base m : Nat} {v : Value} {xs : List Nat} (hm : xs.length = m) (h : CW w base v xs) : ∃ p c, v = .slice p m c := by
  subst hm
  exact row_form h

theorem cw_grown {w w' : World} {base A : Nat} {v : Value} {xs : List Nat} (h : CW w base v xs) (hg : w.grownBy w' (some A)) (hA : A < base) : CW w' base v xs := by
  refine World.ownsRow.kept h hg ?_
  cases hv : v.ownBlock with
  | none => exact .inl rfl
  | some k =>
    refine .inr fun e => ?_
    have := (World.ownsRow.lt h k hv).1
    simp only [Option.some.injEq] at e
    omega

set_option maxHeartbeats 1000000 in
theorem rhull_none (o : Option Addr) (c : Nat) (w : World) : Calls Tryz.prog 32 #[.slice o 0 c] w fun e w' => ∃ u, e = .returned u ∧ CW w' w.heap.size u [] ∧ Below w.heap.size w w' := by
  go_enter Tryz.func32, Tryz.ntmps32
  go_wp2
  go_ret
  exact ⟨_, rfl, World.ownsRow_nil _ _ _ _, Below.refl _ _⟩

theorem rhull_gen (v : Value) (n : Nat) (ps : List (Nat × Nat)) (w : World) (hP : PolyAt w v n ps) (hn : n ≤ 100000) :
    Calls Tryz.prog 32 #[v] w fun e w' => ∃ u, e = .returned u ∧ CW w' w.heap.size u (hullR (crdX ps) n) ∧ Below w.heap.size w w' := by
  by_cases h0 : n = 0
  · subst h0
    obtain ⟨o, c, rfl⟩ := hP.form
    exact rhull_none o c w
  · rcases hP with ⟨_, h⟩ | ⟨g, c, rfl, hg, f, hf⟩
    · exact absurd h h0
    · exact rhull_walk g n c f _ w (by omega) hn hg hf

set_option maxHeartbeats 8000000 in
set_option maxRecDepth 100000 in
theorem hlaw_ok (ad : Addr) (sc n : Nat) (ax ay bx by' cx cy dx dy : Nat) (ps : List (Nat × Nat)) (w : World) (hv : SrcAt w (.slice (some ad) n sc) n ps) (hn : ps.length = n) (hnm : n ≤ 100) (h64 : ∀ p ∈ ps, p.1 < 2 ^ 64 ∧ p.2 < 2 ^ 64) (hok : okPts ps = true) (xs : List Nat) (hxs : xs = hullR (crdX ps) n) (hxl : xs.length ≤ 101) (HU : ∀ V v, SlAt V v n ps → Calls Tryz.prog 31 #[v] V fun e w' => ∃ u, e = .returned (.tuple #[u, .int .i64 0]) ∧ CW w' V.heap.size u xs ∧ Below V.heap.size V w') (base box q N : Nat) (lv : Value) (ls : List Value) (hK : Bk w base box lv ls) (hN : N = ls.length) (hq : N = 4 * q) (hlen : (N + 4) * 24 ≤ 140737488355328) :
    Calls Tryz.prog 14 #[.pointer (some ⟨box, 0, none⟩), .agg #[.int .i64 6, .int .u64 ax, .int .u64 ay, .int .u64 bx, .int .u64 by', .int .u64 cx, .int .u64 cy, .int .u64 dx, .int .u64 dy, .slice (some ad) n sc]] w fun e w' => e = .returned (.bool true) ∧ Below base w w' ∧ ∃ lv' ls', Bk w' base box lv' ls' ∧ ls'.length = 4 * (q + 1) := by
  have HUU : Hid (∀ V v, SlAt V v n ps → Calls Tryz.prog 31 #[v] V fun e w' => ∃ u, e = .returned (.tuple #[u, .int .i64 0]) ∧ CW w' V.heap.size u xs ∧ Below V.heap.size V w') := HU
  have HX : Hid (xs = hullR (crdX ps) n) := hxs
  have HK : Hid (Bk w base box lv ls) := hK
  have HNL : Hid (N = ls.length) := hN
  have HQ : Hid (N = 4 * q) := hq
  obtain ⟨m, hm⟩ : ∃ m, m = xs.length := ⟨_, rfl⟩
  have HM : Hid (xs.length = m) := hm.symm
  have hml : m ≤ 101 := by omega
  clear HU hxs hK hN hq hm hxl
  go_enter Tryz.func14, Tryz.ntmps14
  go_upto_region 1 with fail
  generalize hW : World.alloc w _ = W
  have hWs : W.heap.size = w.heap.size + 1 := by subst hW; simp
  have hw : Below w.heap.size w W := by subst hW; exact (Below.refl _ _).alloc (Nat.le_refl _) _
  have KS : ∀ w', Below W.heap.size W w' → w'.cell? ⟨w.heap.size, 9, none⟩ = some (.slice (some ad) n sc) := by
    intro w' hb
    obtain ⟨hc, _⟩ := bcell hb
    rw [hc _ _ (by omega)]
    subst hW
    simp [go_sem]
  have HSRC : Hid (∀ w', Below W.heap.size W w' → SrcAt w' (.slice (some ad) n sc) n ps) := fun w' hb => SrcAt.kept (w := w) (hv) (hw.trans (hb.mono hw.size))
  clear hW hWs hv
  have hS0 := KS W (Below.refl _ _)
  go_upto_block 0 with (first | (go_at_call 27; go_must (refine (lent_any _ n ps _ (HSRC.out _ (Below.refl _ _)) hn (by omega)).mono ?_; rintro e w1 ⟨rfl, hrow1, hb1⟩; have hS1 := KS w1 hb1; have hH1 := lt_of_row hrow1; have HR1 : Hid (w1.heap[W.heap.size]? = some (.cells (ptCells (ps ++ tail3)).toArray 24 (0, 0))) := hrow1; clear hrow1)) | (go_at_call 31; go_must (refine (HUU.out _ _ (sl_of_row HR1.out hn)).mono ?_; rintro e w2 ⟨u, rfl, hC2, hb2⟩; obtain ⟨o7, c7, hf7⟩ := cw_form HM.out hC2; subst hf7; have HC2 : Hid (CW w2 w1.heap.size (.slice o7 m c7) xs) := hC2; clear hC2; have hW2 : Below W.heap.size W w2 := below_step hb2 hb1; have hS2 := KS w2 hW2; have HR2 : Hid (w2.heap[W.heap.size]? = some (.cells (ptCells (ps ++ tail3)).toArray 24 (0, 0))) := (hb2.block _ hH1).trans HR1.out)) | (go_at_call 29; go_must (refine (whole_g W.heap.size n _ ps _ HR2.out (HSRC.out _ hW2) hn (by omega)).mono ?_; rintro e w3 ⟨rfl, hg3⟩; have hW3 : Below W.heap.size W w3 := hW2.trans (below_of_grown hg3 hW2.size); have hS3 := KS w3 hW3; have HC3 : Hid (CW w3 w1.heap.size (.slice o7 m c7) xs) := cw_grown HC2.out hg3 hH1)) | (go_at_call 15; go_must (refine (points_yes _ n ps _ (HSRC.out _ hW3) hn (by omega) h64 hok).mono ?_; rintro e w4 ⟨hb4, v4, rfl, hP4⟩; obtain ⟨o4, c4, hf4⟩ := hP4.form; subst hf4; have HP4 : Hid (PolyAt w4 (.slice o4 n c4) n ps) := hP4; clear hP4; have hW4 : Below W.heap.size W w4 := below_step hb4 hW3; have hS4 := KS w4 hW4)) | (go_at_call 32; go_must (refine (rhull_gen _ n ps _ HP4.out (by omega)).mono ?_; rintro e w5 ⟨u5, rfl, hC5, hb5⟩; rw [← HX.out] at hC5; obtain ⟨o8, c8, hf8⟩ := cw_form HM.out hC5; subst hf8; have HC5 : Hid (CW w5 w4.heap.size (.slice o8 m c8) xs) := hC5; clear hC5; have hW5 : Below W.heap.size W w5 := below_step hb5 hW4)))
  have hC7 : CW w5 w1.heap.size (.slice o7 m c7) xs := row_below (row_below HC3.out hb4) hb5
  have hK5 : Bk w5 base box lv ls := HK.out.kept (hw.trans (hW5.mono hw.size))
  have hb15 : w1.heap.size ≤ w5.heap.size := by have h2 := hb2.size; have h3 := hg3.size; have h4 := hb4.size; have h5 := hb5.size; omega
  have hw1 : w.heap.size ≤ w1.heap.size := by have h1 := hb1.size; have h0 := hw.size; omega
  have hwb : Below w.heap.size w w5 := hw.trans (hW5.mono hw.size)
  have HOLD : Hid (∀ i (h : i < ls.length) g, ls[i].ownBlock = some g → g < w1.heap.size) := fun i h g hg => by
    obtain ⟨_, hm⟩ := HK.out.each i h
    have := (World.ownsRow.lt hm g hg).2
    omega
  have hbw : base ≤ w.heap.size := by have h8 := HK.out.le; have h9 := HK.out.lt; omega
  clear hS0 hS1 hS2 hS3 hS4 KS HSRC HR1 HR2 HC2 HC3 hW2 hW3 hW4 hW5 hH1 hb1 hb2 hb4 hb5 hg3 HP4 h64 hok HUU HX hw
  have HC7 : Hid (CW w5 w1.heap.size (.slice o7 m c7) xs) := hC7
  have HK5 : Hid (Bk w5 base box lv ls) := hK5
  clear hC7 hK5
  obtain ⟨U, hU⟩ : ∃ z, z = w5 := ⟨_, rfl⟩
  subst hU
  go_cut [9, 13] (fun s9 s13 wc => s9 = .bool true ∧ Below U.heap.size U wc)
  case first =>
    by_cases h0 : m = 0
    · subst h0
      go_wp2_with fail
      refine wp_loop_rounds 1 ?_
      rw [rounds_succ]
      go_wp2_with fail
      go_meet
      exact ⟨rfl, Below.refl _ _⟩
    · obtain ⟨g7, hg7⟩ : ∃ g7, o7 = some ⟨g7, 0, none⟩ ∧ g7 < U.heap.size ∧ ∀ j (hj : j < xs.length), U.cell? ⟨g7, j, none⟩ = some (nV xs[j]) := by
        obtain ⟨g, c', h1, h2, h3⟩ := HC7.out.cells (by rw [HM.out]; exact h0)
        simp only [Value.slice.injEq] at h1
        exact ⟨g, h1.1, h2, h3⟩
      obtain ⟨g8, hg8⟩ : ∃ g8, o8 = some ⟨g8, 0, none⟩ ∧ g8 < U.heap.size ∧ ∀ j (hj : j < xs.length), U.cell? ⟨g8, j, none⟩ = some (nV xs[j]) := by
        obtain ⟨g, c', h1, h2, h3⟩ := HC5.out.cells (by rw [HM.out]; exact h0)
        simp only [Value.slice.injEq] at h1
        exact ⟨g, h1.1, h2, h3⟩
      obtain ⟨rfl, hg7, hx7⟩ := hg7
      obtain ⟨rfl, hg8, hx8⟩ := hg8
      have KC : Hid (∀ j, j < m → ∃ x : Nat, ∀ w', Below U.heap.size U w' → w'.cell? ⟨g7, j, none⟩ = some (.int .i64 (x : Int)) ∧ w'.cell? ⟨g8, j, none⟩ = some (.int .i64 (x : Int))) := fun j hj => by
        have hjx : j < xs.length := by rw [HM.out]; exact hj
        refine ⟨xs[j], fun w' hb => ?_⟩
        obtain ⟨hc, _⟩ := bcell hb
        rw [hc _ _ hg7, hc _ _ hg8]
        exact ⟨hx7 j hjx, hx8 j hjx⟩
      clear hx7 hx8
      go_wp2_with fail
      go_loopw [9, 13] (fun s9 s13 wr => ∃ k : Nat, s13 = .int .i64 k ∧ k ≤ m ∧ s9 = .bool true ∧ Below U.heap.size U wr) (fun _ s13 _ => m - (intOf s13).toNat)
      case atStart => exact ⟨0, rfl, Nat.zero_le _, rfl, Below.refl _ _⟩
      case round =>
        obtain ⟨k, rfl, hk, rfl, hbel⟩ := hrel
        by_cases hlt : k < m
        · obtain ⟨x, hx⟩ := KC.out k hlt
          have hS := hx wr hbel
          have hsz := hbel.size
          have hg7r : g7 < wr.heap.size := by omega
          have hg8r : g8 < wr.heap.size := by omega
          have hik : (k : Int) < (m : Int) := by omega
          clear hx
          have hbd : Below U.heap.size U wr.drew := hbel.drew
          go_wp2_with fail
          go_region_held3 (fun w' : World => w'.cell? ⟨g7, k, none⟩ = some (.int .i64 (x : Int)) ∧ w'.cell? ⟨g8, k, none⟩ = some (.int .i64 (x : Int))) (exact hS) (fail)
          all_goals
            go_wp2
            go_roundw
            case rel => exact ⟨k + 1, by go_num, by omega, rfl, hbd⟩
            case measure => simp [intOf]; omega
        · have hkm : k = m := by omega
          subst hkm
          go_wp2
          go_meet
          exact ⟨rfl, hbel⟩
  case rest =>
  obtain ⟨rfl, hbc⟩ := hcut
  have hKe : Bk wc base box lv ls := HK5.out.kept hbc
  have hFr : Fresh wc w1.heap.size (.slice o7 m c7) m ls := ⟨⟨_, cw_len HM.out (row_below HC7.out hbc)⟩, HOLD.out⟩
  have hcs := hbc.size
  go_wp2_with (go_at_call 33; go_must (refine (keep_walk base box w1.heap.size m q N lv ls o7 c7 _ hKe HNL.out HQ.out hlen (by omega) (by omega) (by omega) hFr).mono ?_; rintro e w6 ⟨rfl, hb6, lv6, ls6, hK6, hl6⟩))
  go_ret
  exact ⟨rfl, ((hwb.trans (hbc.mono hwb.size)).mono hbw).trans hb6, lv6, ls6, hK6, hl6⟩

set_option maxHeartbeats 8000000 in
set_option maxRecDepth 100000 in
theorem hlaw_oknil (ax ay bx by' cx cy dx dy : Nat) (ps : List (Nat × Nat)) (w : World) (hn : ps.length = 0) (h64 : ∀ p ∈ ps, p.1 < 2 ^ 64 ∧ p.2 < 2 ^ 64) (hok : okPts ps = true) (xs : List Nat) (hxs : xs = hullR (crdX ps) 0) (hxl : xs.length ≤ 101) (HU : ∀ V v, SlAt V v 0 ps → Calls Tryz.prog 31 #[v] V fun e w' => ∃ u, e = .returned (.tuple #[u, .int .i64 0]) ∧ CW w' V.heap.size u xs ∧ Below V.heap.size V w') (base box q N : Nat) (lv : Value) (ls : List Value) (hK : Bk w base box lv ls) (hN : N = ls.length) (hq : N = 4 * q) (hlen : (N + 4) * 24 ≤ 140737488355328) :
    Calls Tryz.prog 14 #[.pointer (some ⟨box, 0, none⟩), .agg #[.int .i64 6, .int .u64 ax, .int .u64 ay, .int .u64 bx, .int .u64 by', .int .u64 cx, .int .u64 cy, .int .u64 dx, .int .u64 dy, .slice none 0 0]] w fun e w' => e = .returned (.bool true) ∧ Below base w w' ∧ ∃ lv' ls', Bk w' base box lv' ls' ∧ ls'.length = 4 * (q + 1) := by
  have HUU : Hid (∀ V v, SlAt V v 0 ps → Calls Tryz.prog 31 #[v] V fun e w' => ∃ u, e = .returned (.tuple #[u, .int .i64 0]) ∧ CW w' V.heap.size u xs ∧ Below V.heap.size V w') := HU
  have HX : Hid (xs = hullR (crdX ps) 0) := hxs
  have HK : Hid (Bk w base box lv ls) := hK
  have HNL : Hid (N = ls.length) := hN
  have HQ : Hid (N = 4 * q) := hq
  obtain ⟨m, hm⟩ : ∃ m, m = xs.length := ⟨_, rfl⟩
  have HM : Hid (xs.length = m) := hm.symm
  have hml : m ≤ 101 := by omega
  clear HU hxs hK hN hq hm hxl
  go_enter Tryz.func14, Tryz.ntmps14
  go_upto_region 1 with fail
  generalize hW : World.alloc w _ = W
  have hWs : W.heap.size = w.heap.size + 1 := by subst hW; simp
  have hw : Below w.heap.size w W := by subst hW; exact (Below.refl _ _).alloc (Nat.le_refl _) _
  have KS : ∀ w', Below W.heap.size W w' → w'.cell? ⟨w.heap.size, 9, none⟩ = some (.slice none 0 0) := by
    intro w' hb
    obtain ⟨hc, _⟩ := bcell hb
    rw [hc _ _ (by omega)]
    subst hW
    simp [go_sem]
  have HSRC : Hid (∀ w', Below W.heap.size W w' → SrcAt w' (.slice none 0 0) 0 ps) := fun w' hb => SrcAt.kept (w := w) (.inl ⟨rfl, rfl⟩) (hw.trans (hb.mono hw.size))
  clear hW hWs
  have hS0 := KS W (Below.refl _ _)
  go_upto_block 0 with (first | (go_at_call 27; go_must (refine (lent_any _ 0 ps _ (HSRC.out _ (Below.refl _ _)) hn (by omega)).mono ?_; rintro e w1 ⟨rfl, hrow1, hb1⟩; have hS1 := KS w1 hb1; have hH1 := lt_of_row hrow1; have HR1 : Hid (w1.heap[W.heap.size]? = some (.cells (ptCells (ps ++ tail3)).toArray 24 (0, 0))) := hrow1; clear hrow1)) | (go_at_call 31; go_must (refine (HUU.out _ _ (.inl ⟨rfl, rfl⟩)).mono ?_; rintro e w2 ⟨u, rfl, hC2, hb2⟩; obtain ⟨o7, c7, hf7⟩ := cw_form HM.out hC2; subst hf7; have HC2 : Hid (CW w2 w1.heap.size (.slice o7 m c7) xs) := hC2; clear hC2; have hW2 : Below W.heap.size W w2 := below_step hb2 hb1; have hS2 := KS w2 hW2; have HR2 : Hid (w2.heap[W.heap.size]? = some (.cells (ptCells (ps ++ tail3)).toArray 24 (0, 0))) := (hb2.block _ hH1).trans HR1.out)) | (go_at_call 29; go_must (refine (whole_g W.heap.size 0 _ ps _ HR2.out (HSRC.out _ hW2) hn (by omega)).mono ?_; rintro e w3 ⟨rfl, hg3⟩; have hW3 : Below W.heap.size W w3 := hW2.trans (below_of_grown hg3 hW2.size); have hS3 := KS w3 hW3; have HC3 : Hid (CW w3 w1.heap.size (.slice o7 m c7) xs) := cw_grown HC2.out hg3 hH1)) | (go_at_call 15; go_must (refine (points_yes _ 0 ps _ (HSRC.out _ hW3) hn (by omega) h64 hok).mono ?_; rintro e w4 ⟨hb4, v4, rfl, hP4⟩; obtain ⟨o4, c4, hf4⟩ := hP4.form; subst hf4; have HP4 : Hid (PolyAt w4 (.slice o4 0 c4) 0 ps) := hP4; clear hP4; have hW4 : Below W.heap.size W w4 := below_step hb4 hW3; have hS4 := KS w4 hW4)) | (go_at_call 32; go_must (refine (rhull_gen _ 0 ps _ HP4.out (by omega)).mono ?_; rintro e w5 ⟨u5, rfl, hC5, hb5⟩; rw [← HX.out] at hC5; obtain ⟨o8, c8, hf8⟩ := cw_form HM.out hC5; subst hf8; have HC5 : Hid (CW w5 w4.heap.size (.slice o8 m c8) xs) := hC5; clear hC5; have hW5 : Below W.heap.size W w5 := below_step hb5 hW4)))
  have hC7 : CW w5 w1.heap.size (.slice o7 m c7) xs := row_below (row_below HC3.out hb4) hb5
  have hK5 : Bk w5 base box lv ls := HK.out.kept (hw.trans (hW5.mono hw.size))
  have hb15 : w1.heap.size ≤ w5.heap.size := by have h2 := hb2.size; have h3 := hg3.size; have h4 := hb4.size; have h5 := hb5.size; omega
  have hw1 : w.heap.size ≤ w1.heap.size := by have h1 := hb1.size; have h0 := hw.size; omega
  have hwb : Below w.heap.size w w5 := hw.trans (hW5.mono hw.size)
  have HOLD : Hid (∀ i (h : i < ls.length) g, ls[i].ownBlock = some g → g < w1.heap.size) := fun i h g hg => by
    obtain ⟨_, hm⟩ := HK.out.each i h
    have := (World.ownsRow.lt hm g hg).2
    omega
  have hbw : base ≤ w.heap.size := by have h8 := HK.out.le; have h9 := HK.out.lt; omega
  clear hS0 hS1 hS2 hS3 hS4 KS HSRC HR1 HR2 HC2 HC3 hW2 hW3 hW4 hW5 hH1 hb1 hb2 hb4 hb5 hg3 HP4 h64 hok HUU HX hw
  have HC7 : Hid (CW w5 w1.heap.size (.slice o7 m c7) xs) := hC7
  have HK5 : Hid (Bk w5 base box lv ls) := hK5
  clear hC7 hK5
  obtain ⟨U, hU⟩ : ∃ z, z = w5 := ⟨_, rfl⟩
  subst hU
  go_cut [9, 13] (fun s9 s13 wc => s9 = .bool true ∧ Below U.heap.size U wc)
  case first =>
    by_cases h0 : m = 0
    · subst h0
      go_wp2_with fail
      refine wp_loop_rounds 1 ?_
      rw [rounds_succ]
      go_wp2_with fail
      go_meet
      exact ⟨rfl, Below.refl _ _⟩
    · obtain ⟨g7, hg7⟩ : ∃ g7, o7 = some ⟨g7, 0, none⟩ ∧ g7 < U.heap.size ∧ ∀ j (hj : j < xs.length), U.cell? ⟨g7, j, none⟩ = some (nV xs[j]) := by
        obtain ⟨g, c', h1, h2, h3⟩ := HC7.out.cells (by rw [HM.out]; exact h0)
        simp only [Value.slice.injEq] at h1
        exact ⟨g, h1.1, h2, h3⟩
      obtain ⟨g8, hg8⟩ : ∃ g8, o8 = some ⟨g8, 0, none⟩ ∧ g8 < U.heap.size ∧ ∀ j (hj : j < xs.length), U.cell? ⟨g8, j, none⟩ = some (nV xs[j]) := by
        obtain ⟨g, c', h1, h2, h3⟩ := HC5.out.cells (by rw [HM.out]; exact h0)
        simp only [Value.slice.injEq] at h1
        exact ⟨g, h1.1, h2, h3⟩
      obtain ⟨rfl, hg7, hx7⟩ := hg7
      obtain ⟨rfl, hg8, hx8⟩ := hg8
      have KC : Hid (∀ j, j < m → ∃ x : Nat, ∀ w', Below U.heap.size U w' → w'.cell? ⟨g7, j, none⟩ = some (.int .i64 (x : Int)) ∧ w'.cell? ⟨g8, j, none⟩ = some (.int .i64 (x : Int))) := fun j hj => by
        have hjx : j < xs.length := by rw [HM.out]; exact hj
        refine ⟨xs[j], fun w' hb => ?_⟩
        obtain ⟨hc, _⟩ := bcell hb
        rw [hc _ _ hg7, hc _ _ hg8]
        exact ⟨hx7 j hjx, hx8 j hjx⟩
      clear hx7 hx8
      go_wp2_with fail
      go_loopw [9, 13] (fun s9 s13 wr => ∃ k : Nat, s13 = .int .i64 k ∧ k ≤ m ∧ s9 = .bool true ∧ Below U.heap.size U wr) (fun _ s13 _ => m - (intOf s13).toNat)
      case atStart => exact ⟨0, rfl, Nat.zero_le _, rfl, Below.refl _ _⟩
      case round =>
        obtain ⟨k, rfl, hk, rfl, hbel⟩ := hrel
        by_cases hlt : k < m
        · obtain ⟨x, hx⟩ := KC.out k hlt
          have hS := hx wr hbel
          have hsz := hbel.size
          have hg7r : g7 < wr.heap.size := by omega
          have hg8r : g8 < wr.heap.size := by omega
          have hik : (k : Int) < (m : Int) := by omega
          clear hx
          have hbd : Below U.heap.size U wr.drew := hbel.drew
          go_wp2_with fail
          go_region_held3 (fun w' : World => w'.cell? ⟨g7, k, none⟩ = some (.int .i64 (x : Int)) ∧ w'.cell? ⟨g8, k, none⟩ = some (.int .i64 (x : Int))) (exact hS) (fail)
          all_goals
            go_wp2
            go_roundw
            case rel => exact ⟨k + 1, by go_num, by omega, rfl, hbd⟩
            case measure => simp [intOf]; omega
        · have hkm : k = m := by omega
          subst hkm
          go_wp2
          go_meet
          exact ⟨rfl, hbel⟩
  case rest =>
  obtain ⟨rfl, hbc⟩ := hcut
  have hKe : Bk wc base box lv ls := HK5.out.kept hbc
  have hFr : Fresh wc w1.heap.size (.slice o7 m c7) m ls := ⟨⟨_, cw_len HM.out (row_below HC7.out hbc)⟩, HOLD.out⟩
  have hcs := hbc.size
  go_wp2_with (go_at_call 33; go_must (refine (keep_walk base box w1.heap.size m q N lv ls o7 c7 _ hKe HNL.out HQ.out hlen (by omega) (by omega) (by omega) hFr).mono ?_; rintro e w6 ⟨rfl, hb6, lv6, ls6, hK6, hl6⟩))
  go_ret
  exact ⟨rfl, ((hwb.trans (hbc.mono hwb.size)).mono hbw).trans hb6, lv6, ls6, hK6, hl6⟩

end Go.Proofs.YtbjjkfmdkmbcfaaGreat

namespace Go.Proofs.YtbjjkfmdkmbcfaaGreat
open Go.RowKit
open PlRd

attribute [local go_sem ↓] Go.wp_at_zero Go.wp_at_succ

/-- How two numbers stand. -/
def cmpI (x y : Int) : Int := if x < y then -1 else if y < x then 1 else 0

theorem is_eqs {b : Nat} {x : Int} (h : Is b x) : FloatKind.f64.format.order b b = some .eq := by
  rcases ord_of h h with ⟨h1, _⟩ | ⟨_, h2⟩ | ⟨h1, _⟩
  · omega
  · exact h2
  · omega

set_option maxHeartbeats 2000000 in
set_option maxRecDepth 100000 in
theorem isNaNF (b : Nat) (x : Int) (w : World) (h : Is b x) : Calls Tryz.prog 93 #[.float .f64 b] w fun e w' => e = .returned (.bool false) ∧ w' = w := by
  have hs := is_eqs h
  clear h
  go_enter Tryz.func93, Tryz.ntmps93
  go_wp2
  go_ret
  exact ⟨rfl, rfl⟩

set_option maxHeartbeats 2000000 in
set_option maxRecDepth 100000 in
theorem isNaNI (x : Int) (w : World) : Calls Tryz.prog 94 #[.int .i64 x] w fun e w' => e = .returned (.bool false) ∧ w' = w := by
  go_enter Tryz.func94, Tryz.ntmps94
  go_wp2
  go_ret
  exact ⟨by simp, rfl⟩

set_option maxHeartbeats 2000000 in
set_option maxRecDepth 100000 in
theorem cmpF_is (a b : Nat) (x y : Int) (w : World) (ha : Is a x) (hb : Is b y) : Calls Tryz.prog 80 #[.float .f64 a, .float .f64 b] w fun e w' => e = .returned (.int .i64 (cmpI x y)) ∧ w' = w := by
  have h1 := fun V => isNaNF a x V ha
  have h2 := fun V => isNaNF b y V hb
  have o1 := ord_of ha hb
  have o2 := ord_of hb ha
  clear ha hb
  obtain ⟨r, hr⟩ : ∃ r, r = cmpI x y := ⟨_, rfl⟩
  rw [← hr]
  unfold cmpI at hr
  have HR : Hid (r = if x < y then -1 else if y < x then 1 else 0) := hr
  clear hr
  go_enter Tryz.func80, Tryz.ntmps80
  rcases o1 with ⟨g, o1⟩ | ⟨g, o1⟩ | ⟨g, o1⟩ <;> rcases o2 with ⟨g2, o2⟩ | ⟨g2, o2⟩ | ⟨g2, o2⟩
  all_goals first | (exfalso; omega) | skip
  all_goals
    go_wp2_with (first | (go_at_call 93; have q1 := n1; go_must (refine (h2 _).mono ?_; rintro e w2 ⟨rfl, rfl⟩)) | (go_at_call 93; go_must (refine (h1 _).mono ?_; rintro e w1 ⟨rfl, rfl⟩; have n1 : True := trivial)))
    go_ret
    refine ⟨?_, rfl⟩
    have h := HR.out
    rw [h]
    first | (rw [if_pos (by omega)]; rfl) | (rw [if_neg (by omega), if_pos (by omega)]; rfl) | (rw [if_neg (by omega), if_neg (by omega)]; rfl)

set_option maxHeartbeats 2000000 in
set_option maxRecDepth 100000 in
theorem cmpI_is (x y : Int) (w : World) : Calls Tryz.prog 81 #[.int .i64 x, .int .i64 y] w fun e w' => e = .returned (.int .i64 (cmpI x y)) ∧ w' = w := by
  have h1 := fun x V => isNaNI x V
  obtain ⟨r, hr⟩ : ∃ r, r = cmpI x y := ⟨_, rfl⟩
  rw [← hr]
  unfold cmpI at hr
  have HR : Hid (r = if x < y then -1 else if y < x then 1 else 0) := hr
  clear hr
  go_enter Tryz.func81, Tryz.ntmps81
  go_wp2_with (first | (go_at_call 94; go_must (refine (h1 _ _).mono ?_; rintro e w1 ⟨rfl, rfl⟩)))
  all_goals
    go_ret
    refine ⟨?_, rfl⟩
    have h := HR.out
    rw [h]
    first | (rw [if_pos (by omega)]; rfl) | (rw [if_neg (by omega), if_pos (by omega)]; rfl) | (rw [if_neg (by omega), if_neg (by omega)]; rfl)

end Go.Proofs.YtbjjkfmdkmbcfaaGreat

namespace Go.Proofs.YtbjjkfmdkmbcfaaGreat
open Go.RowKit
open PlRd

attribute [local go_sem ↓] Go.wp_at_zero Go.wp_at_succ

/-- The first of three numbers that is not 0. -/
def orI (a b c : Int) : Int := if a ≠ 0 then a else if b ≠ 0 then b else c

set_option maxHeartbeats 2000000 in
set_option maxRecDepth 100000 in
theorem or_any (a b c : Int) (g k : Nat) (w : World) (h0 : w.cell? ⟨g, 0, none⟩ = some (.int .i64 a)) (h1 : w.cell? ⟨g, 1, none⟩ = some (.int .i64 b)) (h2 : w.cell? ⟨g, 2, none⟩ = some (.int .i64 c)) :
    Calls Tryz.prog 79 #[.slice (some ⟨g, 0, none⟩) 3 k] w fun e w' => e = .returned (.int .i64 (orI a b c)) ∧ w' = w := by
  unfold orI
  by_cases ha : a = 0
  · by_cases hb : b = 0
    · by_cases hc : c = 0
      · rw [if_neg (by omega), if_neg (by omega)]
        subst hc
        subst ha hb
        go_enter Tryz.func79, Tryz.ntmps79
        go_wp2
        refine wp_loop_rounds 4 ?_
        rw [rounds_succ]
        go_wp2
        rw [rounds_succ]
        go_wp2
        rw [rounds_succ]
        go_wp2
        rw [rounds_succ]
        go_wp2
        go_ret
        exact ⟨rfl, rfl⟩
      · rw [if_neg (by omega), if_neg (by omega)]
        subst ha hb
        go_enter Tryz.func79, Tryz.ntmps79
        go_wp2
        refine wp_loop_rounds 4 ?_
        rw [rounds_succ]
        go_wp2
        rw [rounds_succ]
        go_wp2
        rw [rounds_succ]
        go_wp2
        go_ret
        exact ⟨rfl, rfl⟩
    · rw [if_neg (by omega), if_pos hb]
      subst ha
      go_enter Tryz.func79, Tryz.ntmps79
      go_wp2
      refine wp_loop_rounds 4 ?_
      rw [rounds_succ]
      go_wp2
      rw [rounds_succ]
      go_wp2
      go_ret
      exact ⟨rfl, rfl⟩
  · rw [if_pos ha]
    go_enter Tryz.func79, Tryz.ntmps79
    go_wp2
    refine wp_loop_rounds 4 ?_
    rw [rounds_succ]
    go_wp2
    go_ret
    exact ⟨rfl, rfl⟩

end Go.Proofs.YtbjjkfmdkmbcfaaGreat

namespace Go.Proofs.YtbjjkfmdkmbcfaaGreat
open Go.RowKit
open PlRd
open HL (cr lx)

attribute [local go_sem ↓] Go.wp_at_zero Go.wp_at_succ

/-- The spots of a list of bits lie at G; each coordinate is the number X. -/
structure SpX (w : World) (G n : Nat) (f : Nat → Nat × Nat) (X : Nat → Int × Int) : Prop where
  lt : G < w.heap.size
  cs : ∀ i, i < n → (w.cell? ⟨G, i * 2, none⟩ = some (.float .f64 (f i).1) ∧ w.cell? ⟨G, i * 2 + 1, none⟩ = some (.float .f64 (f i).2)) ∧ Cr (f i).1 (X i).1 ∧ Cr (f i).2 (X i).2

theorem SpX.kept {w w' : World} {G n : Nat} {f : Nat → Nat × Nat} {X : Nat → Int × Int} (h : SpX w G n f X) (hb : Below w.heap.size w w') : SpX w' G n f X := by
  obtain ⟨hc, _⟩ := bcell hb
  refine ⟨Nat.lt_of_lt_of_le h.lt hb.size, fun i hi => ?_⟩
  rw [hc _ _ h.lt, hc _ _ h.lt]
  exact h.cs i hi

/-- How the numbers i and j stand in the order from the left. -/
def lexI (X : Nat → Int × Int) (i j : Nat) : Int := orI (cmpI (X i).1 (X j).1) (cmpI (X i).2 (X j).2) (cmpI (i : Int) (j : Int))

/-- Nothing was turned, and the draws went on. -/
structure Gr (w w' : World) : Prop where
  below : Below w.heap.size w w'
  drawn : w.drawn ≤ w'.drawn

theorem cmpF_cr (a b : Nat) (x y : Int) (w : World) (ha : Cr a x) (hb : Cr b y) : Calls Tryz.prog 80 #[.float .f64 a, .float .f64 b] w fun e w' => e = .returned (.int .i64 (cmpI x y)) ∧ w' = w := by
  have h := cmpF_is a b (x * EU) (y * EU) w ha.1 hb.1
  have e : cmpI (x * EU) (y * EU) = cmpI x y := by
    unfold cmpI
    have hp := EU_pos
    simp only [Int.mul_lt_mul_right hp]
  rwa [e] at h

set_option maxHeartbeats 8000000 in
set_option maxRecDepth 100000 in
theorem clo1 (i j bx G n c : Nat) (f : Nat → Nat × Nat) (X : Nat → Int × Int) (w : World) (hi : i < n) (hj : j < n) (hb : bx < w.heap.size) (hbox : w.cell? ⟨bx, 0, none⟩ = some (.slice (some ⟨G, 0, none⟩) n c)) (H : SpX w G n f X) :
    Calls Tryz.prog 78 #[.int .i64 i, .int .i64 j, .pointer (some ⟨bx, 0, none⟩)] w fun e w' => e = .returned (.int .i64 (lexI X i j)) ∧ Gr w w' := by
  obtain ⟨⟨hi0, hi1⟩, ci0, ci1⟩ := H.cs i hi
  obtain ⟨⟨hj0, hj1⟩, cj0, cj1⟩ := H.cs j hj
  unfold lexI
  have hG := H.lt
  generalize (X i).1 = xi at *
  generalize (X i).2 = yi at *
  generalize (X j).1 = xj at *
  generalize (X j).2 = yj at *
  generalize (f i).1 = ix at *
  generalize (f i).2 = iy at *
  generalize (f j).1 = jx at *
  generalize (f j).2 = jy at *
  clear H
  go_enter Tryz.func78, Tryz.ntmps78
  have KS : ∀ w', Below w.heap.size w w' → (w'.cell? ⟨bx, 0, none⟩ = some (.slice (some ⟨G, 0, none⟩) n c) ∧ w'.cell? ⟨G, i * 2, none⟩ = some (.float .f64 ix) ∧ w'.cell? ⟨G, i * 2 + 1, none⟩ = some (.float .f64 iy) ∧ w'.cell? ⟨G, j * 2, none⟩ = some (.float .f64 jx) ∧ w'.cell? ⟨G, j * 2 + 1, none⟩ = some (.float .f64 jy)) := by
    intro w' h
    obtain ⟨hc, _⟩ := bcell h
    rw [hc _ _ hb, hc _ _ hG, hc _ _ hG, hc _ _ hG, hc _ _ hG]
    exact ⟨hbox, hi0, hi1, hj0, hj1⟩
  go_wp2_with fail
  go_region_held3 (fun w' : World => (w'.cell? ⟨bx, 0, none⟩ = some (.slice (some ⟨G, 0, none⟩) n c) ∧ w'.cell? ⟨G, i * 2, none⟩ = some (.float .f64 ix) ∧ w'.cell? ⟨G, i * 2 + 1, none⟩ = some (.float .f64 iy) ∧ w'.cell? ⟨G, j * 2, none⟩ = some (.float .f64 jx) ∧ w'.cell? ⟨G, j * 2 + 1, none⟩ = some (.float .f64 jy))) (exact KS _ (by repeat (with_reducible first | refine below_alloc _ ?_ | refine Below.drew ?_ | exact Below.refl _ _))) (first | (go_at_call 80; go_must (refine (cmpF_cr _ _ _ _ _ (by assumption) (by assumption)).mono ?_; rintro e w1 ⟨rfl, rfl⟩)) | (go_at_call 81; go_must (refine (cmpI_is _ _ _).mono ?_; rintro e w3 ⟨rfl, rfl⟩)) | (go_at_call 79; go_must (refine (or_any _ _ _ _ _ _ (by simp [go_sem]; rfl) (by simp [go_sem]; rfl) (by simp [go_sem]; rfl)).mono ?_; rintro e w4 ⟨rfl, rfl⟩)))

  all_goals
    go_wp2
    go_ret
    refine ⟨rfl, ?_, ?_⟩
    · repeat (with_reducible first | refine below_alloc _ ?_ | refine Below.drew ?_ | exact Below.refl _ _)
    · skip
      simp [World.drew]

end Go.Proofs.YtbjjkfmdkmbcfaaGreat
