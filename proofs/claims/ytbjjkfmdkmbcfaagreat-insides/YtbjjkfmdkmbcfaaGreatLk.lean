import Derived.Test.YtbjjkfmdkmbcfaaGreatLj
namespace Go.Proofs.YtbjjkfmdkmbcfaaGreat
open Go.RowKit
open PlLv

attribute [local go_sem ↓] Go.wp_at_zero Go.wp_at_succ

/-- The row while it is written over: from place k on it reads as ever. -/
def WRow (w : World) (A : Nat) (qs : List (Nat × Nat)) (k : Nat) : Prop := ∃ cur : Array Value, w.heap[A]? = some (.cells cur 24 (0, 0)) ∧ cur.size = qs.length * 2 ∧ cur.toList.drop (k * 2) = (ptCells qs).drop (k * 2)

theorem WRow.cells {w : World} {A k : Nat} {qs : List (Nat × Nat)} (h : WRow w A qs k) (hk : k < qs.length) : (w.cell? ⟨A, k * 2, none⟩ = some (.int .u64 (qs.getD k (0, 0)).1) ∧ w.cell? ⟨A, k * 2 + 1, none⟩ = some (.int .u64 (qs.getD k (0, 0)).2)) ∧ w.frozen? ⟨A, k * 2, none⟩ = false ∧ w.frozen? ⟨A, k * 2 + 1, none⟩ = false := by
  obtain ⟨cur, hg, hs, hd⟩ := h
  have h2 := ptCells_at qs k hk
  have e0 : cur.toList[k * 2]? = (ptCells qs)[k * 2]? := by
    have := congrArg (fun l => l[0]?) hd
    simpa [List.getElem?_drop] using this
  have e1 : cur.toList[k * 2 + 1]? = (ptCells qs)[k * 2 + 1]? := by
    have := congrArg (fun l => l[1]?) hd
    simpa [List.getElem?_drop] using this
  rw [h2.1] at e0
  rw [h2.2] at e1
  refine ⟨⟨?_, ?_⟩, ?_, ?_⟩
  · simpa [World.cell?, hg] using e0
  · simpa [World.cell?, hg] using e1
  · simp [World.frozen?, hg]
  · simp [World.frozen?, hg]

theorem drop_set2 (l : List Value) (i : Nat) (x y : Value) : ((l.set i x).set (i + 1) y).drop (i + 2) = l.drop (i + 2) := by
  apply List.ext_getElem?
  intro j
  rw [List.getElem?_drop, List.getElem?_drop, List.getElem?_set_ne (by omega), List.getElem?_set_ne (by omega)]

theorem WRow.put {w : World} {A k : Nat} {qs : List (Nat × Nat)} {x y : Value} (h : WRow w A qs k) : WRow ((w.setCell ⟨A, k * 2, none⟩ x).setCell ⟨A, k * 2 + 1, none⟩ y) A qs (k + 1) := by
  obtain ⟨cur, hg, hs, hd⟩ := h
  refine ⟨_, heap_setCell_same _ A (k * 2 + 1) _ _ _ (heap_setCell_same _ A (k * 2) _ _ _ hg), by simpa using hs, ?_⟩
  have e := drop_set2 cur.toList (k * 2) x y
  have e2 := congrArg (List.drop 2) hd
  rw [List.drop_drop, List.drop_drop] at e2
  rw [show (k + 1) * 2 = k * 2 + 2 by omega]
  simp only [Array.toList_setIfInBounds]
  rw [e]
  exact e2

theorem row_of_full {w : World} {A : Nat} {qs : List (Nat × Nat)} (h : w.heap[A]? = some (.cells (ptCells qs).toArray 24 (0, 0))) (k : Nat) : WRow w A qs k := ⟨_, h, by simp [ptCells_length], by simp⟩

set_option maxHeartbeats 8000000 in
set_option maxRecDepth 100000 in
theorem whole_any (A n : Nat) (v : Value) (ps : List (Nat × Nat)) (w : World) (hA : w.heap[A]? = some (.cells (ptCells (ps ++ tail3)).toArray 24 (0, 0))) (hv : SrcAt w v n ps) (hn : ps.length = n) (hnb : n ≤ 8796093021952) :
    Calls Tryz.prog 29 #[.slice (some ⟨A, 0, none⟩) (n + 3 : Nat) (n + 3 : Nat), v] w fun e w' => e = .returned (.bool true) ∧ Below A w w' := by
  have hAl : A < w.heap.size := lt_of_row hA
  have hql : (ps ++ tail3).length = n + 3 := by simp [tail3, hn]
  obtain ⟨qs, hqs⟩ : ∃ qs, qs = ps ++ tail3 := ⟨_, rfl⟩
  have HL : Hid (Calls Tryz.prog 27 #[v] w fun e w' => e = .returned (.slice (some ⟨w.heap.size, 0, none⟩) (n + 3 : Nat) (n + 3 : Nat)) ∧ w'.heap[w.heap.size]? = some (.cells (ptCells qs).toArray 24 (0, 0)) ∧ Below w.heap.size w w') := by rw [hqs]; exact lent_any v n ps w hv hn hnb
  obtain ⟨sp, sc, hvf⟩ := hv.form
  subst hvf
  rw [← hqs] at hA hql
  clear hv hqs
  have HA : Hid (w.heap[A]? = some (.cells (ptCells qs).toArray 24 (0, 0))) := hA
  clear hA
  go_enter Tryz.func29, Tryz.ntmps29
  go_wp2_with (go_at_call 27; go_must (refine HL.out.mono ?_; rintro e w1 ⟨rfl, hH, hb1⟩))
  have RH : Hid (w1.heap[w.heap.size]? = some (.cells (ptCells qs).toArray 24 (0, 0))) := hH
  have RA : WRow w1 A qs 0 := row_of_full (by rw [hb1.block _ hAl]; exact HA.out) 0
  have hlt1 : w.heap.size < w1.heap.size := lt_of_row hH
  clear hH
  go_loopw [6, 7] (fun so si wr => ∃ k : Nat, si = .int .i64 k ∧ so = .bool true ∧ k ≤ n + 3 ∧ WRow wr A qs k ∧ Hid (wr.heap[w.heap.size]? = some (.cells (ptCells qs).toArray 24 (0, 0))) ∧ Below A w wr) (fun _ si _ => n + 3 - (intOf si).toNat)
  case atStart => exact ⟨0, rfl, rfl, Nat.zero_le _, RA, RH, hb1.mono (by omega)⟩
  case round =>
    obtain ⟨k, rfl, rfl, hk, R, RHr, hbel⟩ := hrel
    clear RA RH
    by_cases hlt : k < n + 3
    · obtain ⟨x, y, hxy⟩ : ∃ x y, (x, y) = qs.getD k (0, 0) := ⟨_, _, rfl⟩
      have hca := R.cells (by omega)
      have hch := (row_of_full RHr.out k).cells (by omega)
      rw [← hxy] at hca hch
      simp only at hca hch
      obtain ⟨ca, fa0, fa1⟩ := hca
      obtain ⟨ch, _, _⟩ := hch
      have hne : w.heap.size ≠ A := by omega
      have R2 := R.put (x := .int .u64 99) (y := .int .u64 0)
      have RH2 : Hid (((wr.setCell ⟨A, k * 2, none⟩ (.int .u64 99)).setCell ⟨A, k * 2 + 1, none⟩ (.int .u64 0)).heap[w.heap.size]? = some (.cells (ptCells qs).toArray 24 (0, 0))) := by
        unfold Hid
        rw [Below.heap_setCell _ ⟨A, k * 2 + 1, none⟩ _ _ hne, Below.heap_setCell _ ⟨A, k * 2, none⟩ _ _ hne]
        exact RHr.out
      have hb2 : Below A w ((wr.setCell ⟨A, k * 2, none⟩ (.int .u64 99)).setCell ⟨A, k * 2 + 1, none⟩ (.int .u64 0)) := (hbel.setCell (Nat.le_refl _) _).setCell (Nat.le_refl _) _
      clear R RHr hxy
      go_wp2_with fail
      go_region_held3 (fun w' : World => (w'.cell? ⟨A, k * 2, none⟩ = some (.int .u64 x) ∧ w'.cell? ⟨A, k * 2 + 1, none⟩ = some (.int .u64 y)) ∧ (w'.cell? ⟨w.heap.size, k * 2, none⟩ = some (.int .u64 x) ∧ w'.cell? ⟨w.heap.size, k * 2 + 1, none⟩ = some (.int .u64 y))) (exact ⟨ca, ch⟩) (fail)
      all_goals
        go_wp2
        go_roundw
        case rel => exact ⟨k + 1, by go_num, rfl, by omega, R2, RH2, hb2.drew⟩
        case measure => simp [intOf]; omega
    · have hkn : k = n + 3 := by omega
      subst hkn
      clear R RHr
      go_wp2
      go_ret
      exact ⟨rfl, hbel⟩

end Go.Proofs.YtbjjkfmdkmbcfaaGreat
