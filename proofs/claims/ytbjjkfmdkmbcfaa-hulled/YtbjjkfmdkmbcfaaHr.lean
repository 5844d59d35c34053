import Derived.Test.YtbjjkfmdkmbcfaaHp
import Derived.Test.YtbjjkfmdkmbcfaaCd
namespace Go.Proofs.Ytbjjkfmdkmbcfaa
open Go.Shelf Go.RowKit Go.Lib Go.Sort
open HL (cr lx popW chainR hullL)

attribute [local go_sem ↓] Go.wp_at_zero Go.wp_at_succ

set_option maxHeartbeats 2000000 in
set_option maxRecDepth 100000 in
theorem hullE_many (o : Option Addr) (n c : Nat) (w : World) (hn : 100 < n) (h63 : n < 9223372036854775808) :
    Calls Try.prog 22 #[.slice o n c] w fun e w' => Below w.heap.size w w' ∧ e = .returned (.tuple #[.slice none 0 0, .int .i64 2]) := by
  go_enter Try.func22, Try.ntmps22
  go_wp2
  go_ret2
  exact ⟨Below.refl _ w, rfl⟩

set_option maxHeartbeats 4000000 in
set_option maxRecDepth 100000 in
theorem hullE_no (v : Value) (n : Nat) (ps : List (Nat × Nat)) (w : World) (hv : SlAt w v n ps) (hn : ps.length = n) (hnm : n ≤ 100) (h64 : ∀ p ∈ ps, p.1 < 2 ^ 64 ∧ p.2 < 2 ^ 64) (hok : okPts ps = false) :
    Calls Try.prog 22 #[v] w fun e w' => Below w.heap.size w w' ∧ e = .returned (.tuple #[.slice none 0 0, .int .i64 1]) := by
  have HV : Hid (Calls Try.prog 24 #[v] w fun e w' => Below w.heap.size w w' ∧ e = .returned (.tuple #[.slice none 0 0, .int .i64 1])) := spots_no v n ps w hv hn (by omega) h64 hok
  obtain ⟨o, c, rfl⟩ := hv.form
  clear hv
  go_enter Try.func22, Try.ntmps22
  go_wp2_with (first | (go_at_call 24; go_must (refine HV.out.mono ?_; rintro e w1 ⟨hb1, rfl⟩)))
  go_ret2
  exact ⟨hb1, rfl⟩

theorem spx_of_row {w : World} {G n : Nat} {ps : List (Nat × Nat)} (h : SpRow w G ps) (hn : ps.length = n) (hok : okPts ps = true) : SpX w G n (fun i => ps.getD i (0, 0)) (crdX ps) :=
  ⟨h.1, fun i hi => ⟨h.2 i (by omega), cr_mayB (ok_at hok i (by omega)).1, cr_mayB (ok_at hok i (by omega)).2⟩⟩

set_option maxHeartbeats 4000000 in
set_option maxRecDepth 100000 in
theorem hullE_ok (v : Value) (n : Nat) (ps : List (Nat × Nat)) (w : World) (hv : SlAt w v n ps) (hn : ps.length = n) (hnm : n ≤ 100) (h64 : ∀ p ∈ ps, p.1 < 2 ^ 64 ∧ p.2 < 2 ^ 64) (hok : okPts ps = true) :
    Calls Try.prog 22 #[v] w fun e w' => ∃ o u, Srt (crdX ps) n o ∧ e = .returned (.tuple #[u, .int .i64 0]) ∧ CV w' w.heap.size u (hullL (crdX ps) (ordL (crdX ps) o)) ∧ Below w.heap.size w w' := by
  have HV : Hid (Calls Try.prog 24 #[v] w fun e w' => Below w.heap.size w w' ∧ ∃ G, e = .returned (.tuple #[.slice (some ⟨G, 0, none⟩) n n, .int .i64 0]) ∧ SpRow w' G ps) := spots_yes v n ps w hv hn (by omega) h64 hok
  have HU : Hid (∀ V G, SpRow V G ps → Calls Try.prog 34 #[.slice (some ⟨G, 0, none⟩) n n] V fun e w' => ∃ o u, Srt (crdX ps) n o ∧ e = .returned u ∧ CV w' V.heap.size u (hullL (crdX ps) (ordL (crdX ps) o)) ∧ Below V.heap.size V w') := fun V G hr => hull_any G n n _ _ V (by omega) (spx_of_row hr hn hok)
  obtain ⟨o, c, rfl⟩ := hv.form
  clear hv
  go_enter Try.func22, Try.ntmps22
  go_wp2_with (first | (go_at_call 24; go_must (refine HV.out.mono ?_; rintro e w1 ⟨hb1, G, rfl, hrow⟩)) | (go_at_call 34; go_must (refine (HU.out _ _ hrow).mono ?_; rintro e w2 ⟨o, u, ho, rfl, hC, hb2⟩)))
  go_ret2
  exact ⟨o, u, ho, rfl, hC.base hb1.size, below_step hb2 hb1⟩

end Go.Proofs.Ytbjjkfmdkmbcfaa
