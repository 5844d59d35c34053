import Derived.Test.YtbjjkfmdkmbcfaaGreatWj
namespace Go.Proofs.YtbjjkfmdkmbcfaaGreat
open Go.RowKit
open PlRd

attribute [local go_sem ↓] Go.wp_at_zero Go.wp_at_succ

set_option maxHeartbeats 2000000 in
set_option maxRecDepth 100000 in
theorem spots_nil (w : World) :
    Calls Tryz.prog 35 #[.slice none 0 0] w fun e w' => Below w.heap.size w w' ∧ e = .returned (.tuple #[.slice (some ⟨w.heap.size, 0, none⟩) 0 0, .int .i64 0]) ∧ w.heap.size < w'.heap.size := by
  obtain ⟨i0, hi, hz0, hz1, hz2⟩ := info_parts info76
  go_enter Tryz.func35, Tryz.ntmps35
  go_wp2_with (at_make; refine wpList_make_own _ rfl _ _ 70 rfl w.heap.size 76 i0 _ 2 Tryz.underlying70 hi hz0 hz1 _ _ _ 0 rfl rfl (by omega) (by rw [hz2]; omega) (by unfold maxLen; omega) (Nat.le_refl _) ?_; intro w0 hown0 hgrow0)
  have hb : Below w.heap.size w w0 := (Below.refl _ _).grown hgrow0 (Nat.le_refl _) (fun k h => by cases h)
  have hl : w.heap.size < w0.heap.size := (hown0.lt w.heap.size rfl).2
  go_wp2
  refine wp_loop_rounds 1 ?_
  rw [rounds_succ]
  go_wp2
  go_ret2
  exact ⟨hb, rfl, hl⟩

/-- The points' slice: nil, or its cells. -/
def SlAt (w : World) (v : Value) (n : Nat) (ps : List (Nat × Nat)) : Prop := (v = .slice none 0 0 ∧ n = 0) ∨ ∃ g c, v = .slice (some ⟨g, 0, none⟩) n c ∧ g < w.heap.size ∧ PtsAt w g 0 ps

theorem SlAt.kept {w w' : World} {v : Value} {n : Nat} {ps : List (Nat × Nat)} (h : SlAt w v n ps) (hb : Below w.heap.size w w') : SlAt w' v n ps := by
  rcases h with h | ⟨g, c, rfl, hg, hp⟩
  · exact .inl h
  · refine .inr ⟨g, c, rfl, Nat.lt_of_lt_of_le hg hb.size, fun t ht => ?_⟩
    obtain ⟨hc, _⟩ := bcell hb
    rw [hc _ _ hg, hc _ _ hg]
    exact hp t ht

/-- Spots that lie in memory. -/
def SpRow (w : World) (G : Nat) (ps : List (Nat × Nat)) : Prop := G < w.heap.size ∧ ∀ t, t < ps.length → w.cell? ⟨G, t * 2, none⟩ = some (.float .f64 (ps.getD t (0, 0)).1) ∧ w.cell? ⟨G, t * 2 + 1, none⟩ = some (.float .f64 (ps.getD t (0, 0)).2)

theorem SpRow.kept {w w' : World} {G : Nat} {ps : List (Nat × Nat)} (h : SpRow w G ps) (hb : Below w.heap.size w w') : SpRow w' G ps := by
  obtain ⟨hc, _⟩ := bcell hb
  refine ⟨Nat.lt_of_lt_of_le h.1 hb.size, fun t ht => ?_⟩
  rw [hc _ _ h.1, hc _ _ h.1]
  exact h.2 t ht

theorem spotCells_at (ps : List (Nat × Nat)) : ∀ t, t < ps.length → (spotCells ps)[t * 2]? = some (.float .f64 (ps.getD t (0, 0)).1) ∧ (spotCells ps)[t * 2 + 1]? = some (.float .f64 (ps.getD t (0, 0)).2) := by
  induction ps with
  | nil => intro t ht; simp at ht
  | cons p ps ih =>
    intro t ht
    have e : spotCells (p :: ps) = .float .f64 p.1 :: .float .f64 p.2 :: spotCells ps := by simp [spotCells]
    rw [e]
    cases t with
    | zero => simp
    | succ t =>
      have h := ih t (by simpa using ht)
      rw [show (t + 1) * 2 = t * 2 + 1 + 1 by omega]
      simpa using h

theorem spotCells_length (ps : List (Nat × Nat)) : (spotCells ps).length = ps.length * 2 := by
  induction ps with
  | nil => rfl
  | cons p ps ih => simp [spotCells] at ih ⊢; omega

theorem spots_gen (v : Value) (n : Nat) (ps : List (Nat × Nat)) (w : World) (hv : SlAt w v n ps) (hn : ps.length = n) (hnm : n ≤ 100000) (h64 : ∀ p ∈ ps, p.1 < 2 ^ 64 ∧ p.2 < 2 ^ 64) :
    Calls Tryz.prog 35 #[v] w fun e w' => Below w.heap.size w w' ∧ ((okPts ps = true ∧ ∃ G, e = .returned (.tuple #[.slice (some ⟨G, 0, none⟩) n n, .int .i64 0]) ∧ SpRow w' G ps) ∨ (okPts ps = false ∧ e = .returned (.tuple #[.slice none 0 0, .int .i64 1]))) := by
  rcases hv with ⟨rfl, rfl⟩ | ⟨g, c, rfl, hg, hp⟩
  · have hps : ps = [] := List.eq_nil_of_length_eq_zero hn
    subst hps
    refine (spots_nil w).mono ?_
    rintro e w' ⟨hb, rfl, hl⟩
    exact ⟨hb, .inl ⟨rfl, w.heap.size, rfl, hl, fun t ht => by simp at ht⟩⟩
  · refine (spots_walk g n c ps w hn hnm hg hp h64).mono ?_
    rintro e w' ⟨hb, ⟨hok, rfl, hown⟩ | ⟨hok, rfl⟩⟩
    · refine ⟨hb, .inl ⟨hok, w.heap.size, rfl, (hown.lt _ rfl).2, fun t ht => ?_⟩⟩
      have hl := spotCells_length ps
      have h2 := spotCells_at ps t ht
      exact ⟨(hown.cellAt (t * 2) (by omega)).trans h2.1, (hown.cellAt (t * 2 + 1) (by omega)).trans h2.2⟩
    · exact ⟨hb, .inr ⟨hok, rfl⟩⟩

theorem spots_yes (v : Value) (n : Nat) (ps : List (Nat × Nat)) (w : World) (hv : SlAt w v n ps) (hn : ps.length = n) (hnm : n ≤ 100000) (h64 : ∀ p ∈ ps, p.1 < 2 ^ 64 ∧ p.2 < 2 ^ 64) (hok : okPts ps = true) :
    Calls Tryz.prog 35 #[v] w fun e w' => Below w.heap.size w w' ∧ ∃ G, e = .returned (.tuple #[.slice (some ⟨G, 0, none⟩) n n, .int .i64 0]) ∧ SpRow w' G ps := by
  refine (spots_gen v n ps w hv hn hnm h64).mono ?_
  rintro e w' ⟨hb, ⟨_, h⟩ | ⟨h, _⟩⟩
  · exact ⟨hb, h⟩
  · rw [hok] at h; cases h

theorem spots_no (v : Value) (n : Nat) (ps : List (Nat × Nat)) (w : World) (hv : SlAt w v n ps) (hn : ps.length = n) (hnm : n ≤ 100000) (h64 : ∀ p ∈ ps, p.1 < 2 ^ 64 ∧ p.2 < 2 ^ 64) (hok : okPts ps = false) :
    Calls Tryz.prog 35 #[v] w fun e w' => Below w.heap.size w w' ∧ e = .returned (.tuple #[.slice none 0 0, .int .i64 1]) := by
  refine (spots_gen v n ps w hv hn hnm h64).mono ?_
  rintro e w' ⟨hb, ⟨h, _⟩ | ⟨_, h⟩⟩
  · rw [hok] at h; cases h
  · exact ⟨hb, h⟩

/-- The polygon's corners in the document's units. -/
def crdX (ps : List (Nat × Nat)) (i : Nat) : Int × Int := (crd (ps.getD i (0, 0)).1, crd (ps.getD i (0, 0)).2)

theorem ok_at {ps : List (Nat × Nat)} (h : okPts ps = true) (i : Nat) (hi : i < ps.length) : mayB (ps.getD i (0, 0)).1 = true ∧ mayB (ps.getD i (0, 0)).2 = true := by
  have h1 := List.all_eq_true.1 h (ps.getD i (0, 0)) (by rw [List.getD_eq_getElem?_getD, List.getElem?_eq_getElem hi]; exact List.getElem_mem _)
  simpa using h1

theorem SlAt.form {w : World} {v : Value} {n : Nat} {ps : List (Nat × Nat)} (h : SlAt w v n ps) : ∃ o c, v = .slice o n c := by
  rcases h with ⟨rfl, rfl⟩ | ⟨g, c, rfl, _⟩
  · exact ⟨_, _, rfl⟩
  · exact ⟨_, _, rfl⟩

theorem sl_one {w : World} {x y : Nat} {b : Nat} {t : TypeId} (hb : b = w.heap.size) : SlAt (w.alloc (.cells #[.int .u64 x, .int .u64 y] t)) (.slice (some ⟨b, 0, none⟩) 1 1) 1 [(x, y)] := by
  subst hb
  refine .inr ⟨_, _, rfl, by simp, fun t ht => ?_⟩
  match t, ht with
  | 0, _ => exact ⟨by simp [go_sem], by simp [go_sem]⟩

theorem ptbox {w W : World} {a b : Value} {t : TypeId} (hb : Below (w.alloc (.cells #[a, b] t)).heap.size (w.alloc (.cells #[a, b] t)) W) : W.cell? ⟨w.heap.size, 0, none⟩ = some a ∧ W.cell? ⟨w.heap.size, 1, none⟩ = some b := by
  obtain ⟨hc, _⟩ := bcell hb
  rw [hc _ _ (by simp), hc _ _ (by simp)]
  simp [go_sem]

set_option maxHeartbeats 1000000 in
theorem insideE_many (o : Option Addr) (n c px py : Nat) (w : World) (hn : 100 < n) (h63 : n < 9223372036854775808) :
    Calls Tryz.prog 28 #[.slice o n c, .agg #[.int .u64 px, .int .u64 py]] w fun e w' => Below w.heap.size w w' ∧ e = .returned (.tuple #[.int .i64 0, .int .i64 2]) := by
  go_enter Tryz.func28, Tryz.ntmps28
  go_wp2
  go_ret2
  exact ⟨(Below.refl _ w).alloc (Nat.le_refl _) _, rfl⟩

set_option maxHeartbeats 4000000 in
set_option maxRecDepth 100000 in
theorem insideE_no1 (v : Value) (n : Nat) (ps : List (Nat × Nat)) (px py : Nat) (w : World) (hv : SlAt w v n ps) (hn : ps.length = n) (hnm : n ≤ 100) (h64 : ∀ p ∈ ps, p.1 < 2 ^ 64 ∧ p.2 < 2 ^ 64) (hok : okPts ps = false) :
    Calls Tryz.prog 28 #[v, .agg #[.int .u64 px, .int .u64 py]] w fun e w' => Below w.heap.size w w' ∧ e = .returned (.tuple #[.int .i64 0, .int .i64 1]) := by
  have hvk : ∀ o : Obj, SlAt (w.alloc o) v n ps := fun o => hv.kept ((Below.refl _ w).alloc (Nat.le_refl _) o)
  obtain ⟨o, c, rfl⟩ := hv.form
  clear hv
  go_enter Tryz.func28, Tryz.ntmps28
  go_wp2_with (first | (go_at_call 35; go_must (refine (spots_no _ n ps _ (hvk _) hn (by omega) h64 hok).mono ?_; rintro e w1 ⟨hb1, rfl⟩)))
  go_ret2
  exact ⟨below_step hb1 ((Below.refl _ w).alloc (Nat.le_refl _) _), rfl⟩

set_option maxHeartbeats 4000000 in
set_option maxRecDepth 100000 in
theorem insideE_no2 (v : Value) (n : Nat) (ps : List (Nat × Nat)) (px py : Nat) (w : World) (hv : SlAt w v n ps) (hn : ps.length = n) (hnm : n ≤ 100) (h64 : ∀ p ∈ ps, p.1 < 2 ^ 64 ∧ p.2 < 2 ^ 64) (hok : okPts ps = true) (hp64 : ∀ p ∈ [(px, py)], p.1 < 2 ^ 64 ∧ p.2 < 2 ^ 64) (hpk : okPts [(px, py)] = false) :
    Calls Tryz.prog 28 #[v, .agg #[.int .u64 px, .int .u64 py]] w fun e w' => Below w.heap.size w w' ∧ e = .returned (.tuple #[.int .i64 0, .int .i64 1]) := by
  have hvk : ∀ o : Obj, SlAt (w.alloc o) v n ps := fun o => hv.kept ((Below.refl _ w).alloc (Nat.le_refl _) o)
  obtain ⟨o, c, rfl⟩ := hv.form
  clear hv
  go_enter Tryz.func28, Tryz.ntmps28
  go_wp2_with (first | (go_at_call 35; have g1 := hb1; go_must (refine (spots_no _ 1 [(px, py)] _ (sl_one (by simp)) rfl (by omega) hp64 hpk).mono ?_; rintro e w2 ⟨hb2, rfl⟩)) | (go_at_call 35; go_must (refine (spots_yes _ n ps _ (hvk _) hn (by omega) h64 hok).mono ?_; rintro e w1 ⟨hb1, G, rfl, hrow⟩; have hbx := ptbox hb1)))
  go_ret2
  have h1 := below_step hb1 ((Below.refl _ w).alloc (Nat.le_refl _) _)
  exact ⟨below_step hb2 (h1.alloc h1.size _), rfl⟩

set_option maxHeartbeats 4000000 in
set_option maxRecDepth 100000 in
theorem insideE_ok (v : Value) (n : Nat) (ps : List (Nat × Nat)) (px py : Nat) (w : World) (hv : SlAt w v n ps) (hn : ps.length = n) (hnm : n ≤ 100) (h64 : ∀ p ∈ ps, p.1 < 2 ^ 64 ∧ p.2 < 2 ^ 64) (hok : okPts ps = true) (hp64 : ∀ p ∈ [(px, py)], p.1 < 2 ^ 64 ∧ p.2 < 2 ^ 64) (hpk : okPts [(px, py)] = true) :
    Calls Tryz.prog 28 #[v, .agg #[.int .u64 px, .int .u64 py]] w fun e w' => Below w.heap.size w w' ∧ e = .returned (.tuple #[.int .i64 (insV (crdX ps) n (crd px, crd py)), .int .i64 0]) := by
  have hvk : ∀ o : Obj, SlAt (w.alloc o) v n ps := fun o => hv.kept ((Below.refl _ w).alloc (Nat.le_refl _) o)
  obtain ⟨o, c, rfl⟩ := hv.form
  have hm : mayB px = true ∧ mayB py = true := by simpa [okPts] using hpk
  have HI : Hid (∀ (V : World) (G : Nat), SpRow V G ps → Calls Tryz.prog 48 #[.slice (some ⟨G, 0, none⟩) n n, .agg #[.float .f64 px, .float .f64 py]] V fun e w' => e = .returned (.int .i64 (insV (crdX ps) n (crd px, crd py))) ∧ Below V.heap.size V w') := fun V G hr =>
    inside_cr G n n (fun i => ps.getD i (0, 0)) (crdX ps) px py (crd px) (crd py) V (by omega) hr.1 (fun i hi => ⟨hr.2 i (by omega), cr_mayB (ok_at hok i (by omega)).1, cr_mayB (ok_at hok i (by omega)).2⟩) (cr_mayB hm.1) (cr_mayB hm.2)
  clear hv hm
  go_enter Tryz.func28, Tryz.ntmps28
  go_wp2_with (first | (go_at_call 35; have g1 := hb1; go_must (refine (spots_yes _ 1 [(px, py)] _ (sl_one (by simp)) rfl (by omega) hp64 hpk).mono ?_; rintro e w2 ⟨hb2, G2, rfl, hrow2⟩; have hbb : Below w1.heap.size w1 w2 := below_step hb2 ((Below.refl _ _).alloc (Nat.le_refl _) _); have hc2 := hrow2.2 0 (Nat.zero_lt_one); have hr1 := hrow.kept hbb; simp at hc2)) | (go_at_call 35; go_must (refine (spots_yes _ n ps _ (hvk _) hn (by omega) h64 hok).mono ?_; rintro e w1 ⟨hb1, G, rfl, hrow⟩; have hbx := ptbox hb1)) | (go_at_call 48; go_must (refine (HI.out _ _ hr1).mono ?_; rintro e w3 ⟨rfl, hb3⟩)))
  go_ret2
  have h1 := below_step hb1 ((Below.refl _ w).alloc (Nat.le_refl _) _)
  exact ⟨below_step hb3 (below_step hb2 (h1.alloc h1.size _)), rfl⟩

end Go.Proofs.YtbjjkfmdkmbcfaaGreat
