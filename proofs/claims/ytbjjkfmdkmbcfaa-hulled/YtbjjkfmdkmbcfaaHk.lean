import Derived.Test.YtbjjkfmdkmbcfaaHj
namespace Go.Proofs.Ytbjjkfmdkmbcfaa
open Go.Shelf Go.RowKit Go.Lib Go.Sort
open HL (cr lx)

attribute [local go_sem ↓] Go.wp_at_zero Go.wp_at_succ

theorem SpX.keptB {w w' : World} {G n B : Nat} {f : Nat → Nat × Nat} {X : Nat → Int × Int} (h : SpX w G n f X) (hG : G < B) (hb : Below B w w') : SpX w' G n f X := by
  refine ⟨Nat.lt_of_lt_of_le h.lt hb.size, fun i hi => ?_⟩
  rw [hb.cell (p := ⟨G, i * 2, none⟩) hG, hb.cell (p := ⟨G, i * 2 + 1, none⟩) hG]
  exact h.cs i hi

theorem Gr.grown {w w' : World} (h : Gr w w') : ∃ q os, w' = Sort.grow (w.drewN q) os := by
  refine ⟨w'.drawn - w.drawn, w'.heap.extract w.heap.size w'.heap.size, ?_⟩
  have hb := h.below
  have hd := h.drawn
  have hh : w'.heap = w.heap ++ w'.heap.extract w.heap.size w'.heap.size := by
    apply Array.ext_getElem?
    intro k
    by_cases hk : k < w.heap.size
    · rw [hb.block k hk, Array.getElem?_append_left hk]
    · rw [Array.getElem?_append_right (by omega), Array.getElem?_extract]
      by_cases hk2 : k < w'.heap.size
      · rw [if_pos (by omega)]
        congr 1
        omega
      · rw [if_neg (by omega), Array.getElem?_eq_none (by omega)]
  have e1 := hb.os
  have e2 := hb.tape
  have e3 := hb.output
  have e4 : w'.drawn = w.drawn + (w'.drawn - w.drawn) := by omega
  obtain ⟨a1, a2, a3, a4, a5⟩ := w'
  simp only at *
  subst e1 e2 e3
  unfold Sort.grow World.drewN
  simp only [World.mk.injEq, and_true, true_and]
  exact ⟨hh, e4⟩

/-- The block of a row of n numbers. -/
def IBox (w : World) (B n : Nat) : Prop := ∃ cur : Array Value, w.heap[B]? = some (.cells cur 3 (0, 0)) ∧ cur.size = n

theorem putCells_size {α : Type} [Inhabited α] (enc : α → Value) (off : Nat) (d : Array α) (c : Array Value) : (putCells enc off d c).size = c.size := by
  simp [putCells]

theorem box_put {α : Type} [Inhabited α] {w : World} {B n : Nat} (enc : α → Value) (h : IBox w B n) (off q : Nat) (d : Array α) : IBox (putRow enc (Sort.ahead w q) B off d) B n := by
  obtain ⟨cur, hg, hs⟩ := h
  refine ⟨putCells enc off d cur, ?_, by rw [putCells_size]; exact hs⟩
  show (w.heap.modify B _)[B]? = _
  rw [Array.getElem?_modify, if_pos rfl, hg]
  rfl

theorem IBox.put {w : World} {B n : Nat} (h : IBox w B n) (off q : Nat) (d : Array Nat) : IBox (putRow encN (Sort.ahead w q) B off d) B n := box_put encN h off q d

theorem IBox.lt {w : World} {B n : Nat} (h : IBox w B n) : B < w.heap.size := by
  obtain ⟨cur, hg, _⟩ := h
  rw [← Nat.not_le]
  intro hle
  rw [Array.getElem?_eq_none hle] at hg
  cases hg

theorem IBox.grow {w : World} {B n : Nat} (h : IBox w B n) (os : Array Obj) : IBox (Sort.grow w os) B n := by
  have hl := h.lt
  obtain ⟨cur, hg, hs⟩ := h
  refine ⟨cur, ?_, hs⟩
  show (w.heap ++ os)[B]? = _
  rw [Array.getElem?_append_left hl]
  exact hg

theorem sw_below {n : Nat} (w : World) (blk off m : Nat) (dk : Array (Fin n)) (os : Array Obj) [Inhabited (Fin n)] (hb : blk < w.heap.size) : Below blk w (sortWorld encF w blk off m dk os) := by
  refine ⟨rfl, rfl, rfl, ?_, fun k hk => ?_⟩
  · simp [sortWorld, Sort.grow, putRow, mapBlock, Sort.ahead]
  · show ((w.heap.modify blk _) ++ os)[k]? = _
    rw [Array.getElem?_append_left (by simp; omega), Array.getElem?_modify, if_neg (by omega)]

theorem sort_any (B bx G n c : Nat) (f : Nat → Nat × Nat) (X : Nat → Int × Int) (V : World) (hB : B < V.heap.size) (hbx : bx < B) (hG : G < B) (hn : n ≤ 100000) (hbox : V.cell? ⟨bx, 0, none⟩ = some (.slice (some ⟨G, 0, none⟩) n c)) (H : SpX V G n f X) (hH : Holds encN V B 0 (List.range n).toArray) (hib : IBox V B n) :
    Calls Try.prog 56 #[.slice (some ⟨B, 0, none⟩) n n, .func (.func 57) #[] #[.pointer (some ⟨bx, 0, none⟩)]] V fun e w' => e = .returned (.tuple #[]) ∧ ∃ o, Srt X n o ∧ Holds encN w' B 0 o.toArray ∧ Below B V w' ∧ IBox w' B n := by
  cases n with
  | zero =>
    have hS := AnyF.slices_SortFunc_none (P := Try.prog) (ρ := Try.sortL_ren) { Try.sortL with } (some ⟨B, 0, none⟩) 0 (.func (.func 57) #[] #[.pointer (some ⟨bx, 0, none⟩)]) V
    change Calls Try.prog 56 _ _ _ at hS
    refine hS.mono ?_
    rintro e w' ⟨rfl, rfl⟩
    exact ⟨rfl, [], ⟨List.Perm.refl _, List.Pairwise.nil⟩, hH, Below.refl _ _, hib⟩
  | succ m =>
    have hHF : Holds encF V B 0 (List.finRange (m + 1)).toArray := by
      intro j hj
      have hj' : j < m + 1 := by simpa using hj
      have h := hH j (by simpa using hj')
      refine ⟨?_, h.2⟩
      rw [h.1]
      simp [encN, encF, hj']
    have hcmp : CmpLays1 Try.prog 57 #[.pointer (some ⟨bx, 0, none⟩)] encF (cfX X (n := m + 1)) B 0 (List.finRange (m + 1)).toArray.size V := by
      intro q os dk _ x y
      have hb := sw_below V B 0 q dk os hB
      refine (clo1 x.val y.val bx G (m + 1) c f X _ x.isLt y.isLt ?_ ?_ (H.keptB hG hb)).mono ?_
      · exact Nat.lt_of_lt_of_le (by omega) hb.size
      · rw [hb.cell (p := ⟨bx, 0, none⟩) hbx]; exact hbox
      · rintro e w' ⟨rfl, hg⟩
        exact ⟨rfl, hg.grown⟩
    have hS := Any.slices_SortFunc_total (α := Fin (m + 1)) Try.sortL encF (fun _ => rfl) (cfX X) (cfX_swo X) 57 #[.pointer (some ⟨bx, 0, none⟩)] B 0 (m + 1) (List.finRange (m + 1)).toArray V (enters_of Try.func57 (by kernel_rfl) rfl) hcmp hHF hB (by simp; omega) (cfX_tot X)
    change Calls Try.prog 56 _ _ _ at hS
    have hsz : (List.finRange (m + 1)).toArray.size = m + 1 := by simp
    rw [hsz] at hS
    refine hS.mono ?_
    rintro e w' ⟨rfl, q, os, rfl⟩
    refine ⟨rfl, _, sort_srt X (m + 1), ?_, sw_below _ _ _ _ _ _ hB, (box_put encF hib _ _ _).grow _⟩
    have R : Row1 encF V B 0 (List.finRange (m + 1)).toArray := ⟨fun _ => rfl, hHF, hB⟩
    have hw : SW encF V B 0 ((List.finRange (m + 1)).mergeSort fun x y => !ltOf (cfX X) y x).toArray (sortWorld encF V B 0 q ((List.finRange (m + 1)).mergeSort fun x y => !ltOf (cfX X) y x).toArray os) := ⟨q, os, rfl⟩
    intro j hj
    have hj' : j < ((List.finRange (m + 1)).mergeSort fun x y => !ltOf (cfX X) y x).toArray.size := by simpa using hj
    have c1 := hw.c1 R (by simp) j hj'
    have f1 := hw.f1 R (by simp) j hj'
    refine ⟨?_, f1⟩
    rw [c1]
    have hj2 : j < m + 1 := by simpa using hj'
    simp [encN, encF, hj2]

end Go.Proofs.Ytbjjkfmdkmbcfaa
