import Derived.Test.YtbjjkfmdkmbcfaaOw
import Derived.Test.YtbjjkfmdkmbcfaaWz
namespace Go.Proofs.Ytbjjkfmdkmbcfaa
open Go.RowKit
open PlRd
open Ieee (double signed)

attribute [local go_sem ↓] Go.wp_at_zero Go.wp_at_succ

/-- A coordinate in the document's units. -/
def crd (b : Nat) : Int := valB b / 2 ^ 974

theorem valB_crd {b : Nat} (h : mayB b = true) : valB b = crd b * 2 ^ 974 := by
  obtain ⟨_, hd, _⟩ := co_mayB h
  unfold crd
  exact (Int.ediv_mul_cancel hd).symm

theorem cr_mayB {b : Nat} (h : mayB b = true) : Cr b (crd b) := by
  have h1 := co_mayB h
  rw [valB_crd h] at h1
  exact h1

theorem crs4_of_ok {ax ay bx by' cx cy dx dy : Nat} (hok : okPts [(ax, ay), (bx, by'), (cx, cy), (dx, dy)] = true) : (Cr ax (crd ax) ∧ Cr ay (crd ay)) ∧ (Cr bx (crd bx) ∧ Cr by' (crd by')) ∧ (Cr cx (crd cx) ∧ Cr cy (crd cy)) ∧ (Cr dx (crd dx) ∧ Cr dy (crd dy)) := by
  have hm : (mayB ax = true ∧ mayB ay = true) ∧ (mayB bx = true ∧ mayB by' = true) ∧ (mayB cx = true ∧ mayB cy = true) ∧ (mayB dx = true ∧ mayB dy = true) := by simpa [okPts] using hok
  exact ⟨⟨cr_mayB hm.1.1, cr_mayB hm.1.2⟩, ⟨cr_mayB hm.2.1.1, cr_mayB hm.2.1.2⟩, ⟨cr_mayB hm.2.2.1.1, cr_mayB hm.2.2.1.2⟩, ⟨cr_mayB hm.2.2.2.1, cr_mayB hm.2.2.2.2⟩⟩

set_option maxHeartbeats 2000000 in
set_option maxRecDepth 100000 in
theorem spots_nil (w : World) :
    Calls Try.prog 24 #[.slice none 0 0] w fun e w' => Below w.heap.size w w' ∧ e = .returned (.tuple #[.slice (some ⟨w.heap.size, 0, none⟩) 0 0, .int .i64 0]) ∧ w.heap.size < w'.heap.size := by
  obtain ⟨i0, hi, hz0, hz1, hz2⟩ := info_parts info55
  go_enter Try.func24, Try.ntmps24
  go_wp2_with (at_make; refine wpList_make_own _ rfl _ _ 49 rfl w.heap.size 55 i0 _ 2 Try.underlying49 hi hz0 hz1 _ _ _ 0 rfl rfl (by omega) (by rw [hz2]; omega) (by unfold maxLen; omega) (Nat.le_refl _) ?_; intro w0 hown0 hgrow0)
  have hb : Below w.heap.size w w0 := (Below.refl _ _).grown hgrow0 (Nat.le_refl _) (fun k h => by cases h)
  have hl : w.heap.size < w0.heap.size := (hown0.lt w.heap.size rfl).2
  go_wp2
  refine wp_loop_rounds 1 ?_
  rw [rounds_succ]
  go_wp2
  go_ret2
  exact ⟨hb, rfl, hl⟩

/-- The points' slice: nil, or its cells. -/
def SlAt (w : World) (v : Value) (n : Nat) (ps : List (Nat × Nat)) : Prop := (v = .slice none 0 0 ∧ n = 0) ∨ ∃ g c, v = .slice (some ⟨g, 0, none⟩) n c ∧ g < w.heap.size ∧ PtsAt w g 0 ps

theorem SlAt.kept {w w' : World} {v : Value} {n : Nat} {ps : List (Nat × Nat)} (h : SlAt w v n ps) (hb : Below w.heap.size w w') : SlAt w' v n ps := by
  rcases h with h | ⟨g, c, rfl, hg, hp⟩
  · exact .inl h
  · refine .inr ⟨g, c, rfl, Nat.lt_of_lt_of_le hg hb.size, fun t ht => ?_⟩
    obtain ⟨hc, _⟩ := bcell hb
    rw [hc _ _ hg, hc _ _ hg]
    exact hp t ht

/-- Spots that lie in memory. -/
def SpRow (w : World) (G : Nat) (ps : List (Nat × Nat)) : Prop := G < w.heap.size ∧ ∀ t, t < ps.length → w.cell? ⟨G, t * 2, none⟩ = some (.float .f64 (ps.getD t (0, 0)).1) ∧ w.cell? ⟨G, t * 2 + 1, none⟩ = some (.float .f64 (ps.getD t (0, 0)).2)

theorem SpRow.kept {w w' : World} {G : Nat} {ps : List (Nat × Nat)} (h : SpRow w G ps) (hb : Below w.heap.size w w') : SpRow w' G ps := by
  obtain ⟨hc, _⟩ := bcell hb
  refine ⟨Nat.lt_of_lt_of_le h.1 hb.size, fun t ht => ?_⟩
  rw [hc _ _ h.1, hc _ _ h.1]
  exact h.2 t ht

theorem spotCells_at (ps : List (Nat × Nat)) : ∀ t, t < ps.length → (spotCells ps)[t * 2]? = some (.float .f64 (ps.getD t (0, 0)).1) ∧ (spotCells ps)[t * 2 + 1]? = some (.float .f64 (ps.getD t (0, 0)).2) := by
  induction ps with
  | nil => intro t ht; simp at ht
  | cons p ps ih =>
    intro t ht
    have e : spotCells (p :: ps) = .float .f64 p.1 :: .float .f64 p.2 :: spotCells ps := by simp [spotCells]
    rw [e]
    cases t with
    | zero => simp
    | succ t =>
      have h := ih t (by simpa using ht)
      rw [show (t + 1) * 2 = t * 2 + 1 + 1 by omega]
      simpa using h

theorem spotCells_length (ps : List (Nat × Nat)) : (spotCells ps).length = ps.length * 2 := by
  induction ps with
  | nil => rfl
  | cons p ps ih => simp [spotCells] at ih ⊢; omega

theorem spots_gen (v : Value) (n : Nat) (ps : List (Nat × Nat)) (w : World) (hv : SlAt w v n ps) (hn : ps.length = n) (hnm : n ≤ 100000) (h64 : ∀ p ∈ ps, p.1 < 2 ^ 64 ∧ p.2 < 2 ^ 64) :
    Calls Try.prog 24 #[v] w fun e w' => Below w.heap.size w w' ∧ ((okPts ps = true ∧ ∃ G, e = .returned (.tuple #[.slice (some ⟨G, 0, none⟩) n n, .int .i64 0]) ∧ SpRow w' G ps) ∨ (okPts ps = false ∧ e = .returned (.tuple #[.slice none 0 0, .int .i64 1]))) := by
  rcases hv with ⟨rfl, rfl⟩ | ⟨g, c, rfl, hg, hp⟩
  · have hps : ps = [] := List.eq_nil_of_length_eq_zero hn
    subst hps
    refine (spots_nil w).mono ?_
    rintro e w' ⟨hb, rfl, hl⟩
    exact ⟨hb, .inl ⟨rfl, w.heap.size, rfl, hl, fun t ht => by simp at ht⟩⟩
  · refine (spots_walk g n c ps w hn hnm hg hp h64).mono ?_
    rintro e w' ⟨hb, ⟨hok, rfl, hown⟩ | ⟨hok, rfl⟩⟩
    · refine ⟨hb, .inl ⟨hok, w.heap.size, rfl, (hown.lt _ rfl).2, fun t ht => ?_⟩⟩
      have hl := spotCells_length ps
      have h2 := spotCells_at ps t ht
      exact ⟨(hown.cellAt (t * 2) (by omega)).trans h2.1, (hown.cellAt (t * 2 + 1) (by omega)).trans h2.2⟩
    · exact ⟨hb, .inr ⟨hok, rfl⟩⟩

theorem spots_yes (v : Value) (n : Nat) (ps : List (Nat × Nat)) (w : World) (hv : SlAt w v n ps) (hn : ps.length = n) (hnm : n ≤ 100000) (h64 : ∀ p ∈ ps, p.1 < 2 ^ 64 ∧ p.2 < 2 ^ 64) (hok : okPts ps = true) :
    Calls Try.prog 24 #[v] w fun e w' => Below w.heap.size w w' ∧ ∃ G, e = .returned (.tuple #[.slice (some ⟨G, 0, none⟩) n n, .int .i64 0]) ∧ SpRow w' G ps := by
  refine (spots_gen v n ps w hv hn hnm h64).mono ?_
  rintro e w' ⟨hb, ⟨_, h⟩ | ⟨h, _⟩⟩
  · exact ⟨hb, h⟩
  · rw [hok] at h; cases h

theorem spots_no (v : Value) (n : Nat) (ps : List (Nat × Nat)) (w : World) (hv : SlAt w v n ps) (hn : ps.length = n) (hnm : n ≤ 100000) (h64 : ∀ p ∈ ps, p.1 < 2 ^ 64 ∧ p.2 < 2 ^ 64) (hok : okPts ps = false) :
    Calls Try.prog 24 #[v] w fun e w' => Below w.heap.size w w' ∧ e = .returned (.tuple #[.slice none 0 0, .int .i64 1]) := by
  refine (spots_gen v n ps w hv hn hnm h64).mono ?_
  rintro e w' ⟨hb, ⟨h, _⟩ | ⟨_, h⟩⟩
  · rw [hok] at h; cases h
  · exact ⟨hb, h⟩

/-- The polygon's corners in the document's units. -/
def crdX (ps : List (Nat × Nat)) (i : Nat) : Int × Int := (crd (ps.getD i (0, 0)).1, crd (ps.getD i (0, 0)).2)

theorem ok_at {ps : List (Nat × Nat)} (h : okPts ps = true) (i : Nat) (hi : i < ps.length) : mayB (ps.getD i (0, 0)).1 = true ∧ mayB (ps.getD i (0, 0)).2 = true := by
  have h1 := List.all_eq_true.1 h (ps.getD i (0, 0)) (by rw [List.getD_eq_getElem?_getD, List.getElem?_eq_getElem hi]; exact List.getElem_mem _)
  simpa using h1

theorem SlAt.form {w : World} {v : Value} {n : Nat} {ps : List (Nat × Nat)} (h : SlAt w v n ps) : ∃ o c, v = .slice o n c := by
  rcases h with ⟨rfl, rfl⟩ | ⟨g, c, rfl, _⟩
  · exact ⟨_, _, rfl⟩
  · exact ⟨_, _, rfl⟩

theorem sl_one {w : World} {x y : Nat} {b : Nat} {t : TypeId} (hb : b = w.heap.size) : SlAt (w.alloc (.cells #[.int .u64 x, .int .u64 y] t)) (.slice (some ⟨b, 0, none⟩) 1 1) 1 [(x, y)] := by
  subst hb
  refine .inr ⟨_, _, rfl, by simp, fun t ht => ?_⟩
  match t, ht with
  | 0, _ => exact ⟨by simp [go_sem], by simp [go_sem]⟩

theorem ptbox {w W : World} {a b : Value} {t : TypeId} (hb : Below (w.alloc (.cells #[a, b] t)).heap.size (w.alloc (.cells #[a, b] t)) W) : W.cell? ⟨w.heap.size, 0, none⟩ = some a ∧ W.cell? ⟨w.heap.size, 1, none⟩ = some b := by
  obtain ⟨hc, _⟩ := bcell hb
  rw [hc _ _ (by simp), hc _ _ (by simp)]
  simp [go_sem]

/-- How the bits are read, by their parts. -/
theorem read_parts (b e0 m0 : Nat) (ng : Bool) (hb : b < 2 ^ 64) (he : e0 = b / 4503599627370496 % 2048) (hm : m0 = b % 4503599627370496) (hn : ng = decide (9223372036854775808 ≤ b)) :
    (e0 = 0 → double.read b = .number ng m0 (-1074)) ∧ (0 < e0 → e0 < 2047 → double.read b = .number ng (4503599627370496 + m0) (-1074 + ((e0 - 1 : Nat) : Int))) ∧ (e0 = 2047 → (∃ s, double.read b = .infinity s) ∨ ∃ s t, double.read b = .nan s t) := by
  have hsw : double.signWeight = 9223372036854775808 := by decide
  have hbi : double.binade = 4503599627370496 := by decide
  have hi : double.infRung = 2047 * 4503599627370496 := by decide
  have hlp : double.leastPlace = -1074 := by decide
  have e1 : (b / 9223372036854775808 % 2 == 1) = ng := by
    rw [hn]
    by_cases h : 9223372036854775808 ≤ b
    · have : b / 9223372036854775808 = 1 := by omega
      simp [this, h]
    · have : b / 9223372036854775808 = 0 := by omega
      simp [this, h]
  have hq : b % 9223372036854775808 / 4503599627370496 = e0 := by omega
  have hr : b % 9223372036854775808 % 4503599627370496 = m0 := by omega
  unfold Ieee.Format.read
  simp only [hsw, hbi, hi, hlp, e1]
  refine ⟨fun h => ?_, fun h1 h2 => ?_, fun h => ?_⟩
  · rw [if_pos (by omega), show b % 9223372036854775808 = m0 by omega]
  · rw [if_neg (by omega), if_pos (by omega), hq, hr]
  · rw [if_neg (by omega), if_neg (by omega)]
    split
    · exact .inl ⟨_, rfl⟩
    · exact .inr ⟨_, _, rfl⟩

/-- May it be, by its magnitude in units. -/
theorem mayB_mag {b M k V : Nat} {ng : Bool} {p : Int} (h : double.read b = .number ng M p) (hk : (p + 1074).toNat = k) (hV : V = M * 2 ^ k) : mayB b = (decide (V < 2 ^ 1174) && decide (2 ^ 974 ∣ V)) ∧ valB b = if ng then -(V : Int) else (V : Int) := by
  have e1 : signed ng M k = if ng then -(V : Int) else (V : Int) := by
    rw [PlRd.signed_eq, hV, PlRd.cast_two_pow]; split <;> simp [Int.neg_mul]
  constructor
  · unfold mayB
    rw [h]
    simp only [hk, e1]
    have a1 : (if ng then -(V : Int) else (V : Int)).natAbs = V := by split <;> simp
    have a2 : ((2 : Int) ^ 974 ∣ if ng then -(V : Int) else (V : Int)) ↔ 2 ^ 974 ∣ V := by
      have c := cast_pow2 974
      rw [← c]
      split
      · rw [Int.dvd_neg]; exact Int.ofNat_dvd
      · exact Int.ofNat_dvd
    rw [a1]
    congr 1
    exact decide_eq_decide.2 a2
  · unfold valB
    rw [h]
    simp only [hk, e1]

end Go.Proofs.Ytbjjkfmdkmbcfaa
