import Derived.Test.YtbjjkfmdkmbcfaaGreatMHj
namespace Go.Proofs.YtbjjkfmdkmbcfaaGreat
open Go.Shelf Go.RowKit Go.Lib Go.Sort
open HL (cr lx)

attribute [local go_sem ↓] Go.wp_at_zero Go.wp_at_succ

theorem SpX.keptB {w w' : World} {G n B : Nat} {f : Nat → Nat × Nat} {X : Nat → Int × Int} (h : SpX w G n f X) (hG : G < B) (hb : Below B w w') : SpX w' G n f X := by
  refine ⟨Nat.lt_of_lt_of_le h.lt hb.size, fun i hi => ?_⟩
  rw [hb.cell (p := ⟨G, i * 2, none⟩) hG, hb.cell (p := ⟨G, i * 2 + 1, none⟩) hG]
  exact h.cs i hi

theorem Gr.grown {w w' : World} (h : Gr w w') : ∃ q os, w' = Sort.grow (w.drewN q) os := by
  refine ⟨w'.drawn - w.drawn, w'.heap.extract w.heap.size w'.heap.size, ?_⟩
  have hb := h.below
  have hd := h.drawn
  have hh : w'.heap = w.heap ++ w'.heap.extract w.heap.size w'.heap.size := by
    apply Array.ext_getElem?
    intro k
    by_cases hk : k < w.heap.size
    · rw [hb.block k hk, Array.getElem?_append_left hk]
    · rw [Array.getElem?_append_right (by omega), Array.getElem?_extract]
      by_cases hk2 : k < w'.heap.size
      · rw [if_pos (by omega)]
        congr 1
        omega
      · rw [if_neg (by omega), Array.getElem?_eq_none (by omega)]
  have e1 := hb.os
  have e2 := hb.tape
  have e3 := hb.output
  have e4 : w'.drawn = w.drawn + (w'.drawn - w.drawn) := by omega
  obtain ⟨a1, a2, a3, a4, a5⟩ := w'
  simp only at *
  subst e1 e2 e3
  unfold Sort.grow World.drewN
  simp only [World.mk.injEq, and_true, true_and]
  exact ⟨hh, e4⟩

/-- The block of a row of n numbers. -/
def IBox (w : World) (B n : Nat) : Prop := ∃ cur : Array Value, w.heap[B]? = some (.cells cur 3 (0, 0)) ∧ cur.size = n

theorem putCells_size {α : Type} [Inhabited α] (enc : α → Value) (off : Nat) (d : Array α) (c : Array Value) : (putCells enc off d c).size = c.size := by
  simp [putCells]

theorem box_put {α : Type} [Inhabited α] {w : World} {B n : Nat} (enc : α → Value) (h : IBox w B n) (off q : Nat) (d : Array α) : IBox (putRow enc (Sort.ahead w q) B off d) B n := by
  obtain ⟨cur, hg, hs⟩ := h
  refine ⟨putCells enc off d cur, ?_, by rw [putCells_size]; exact hs⟩
  show (w.heap.modify B _)[B]? = _
  rw [Array.getElem?_modify, if_pos rfl, hg]
  rfl

theorem IBox.put {w : World} {B n : Nat} (h : IBox w B n) (off q : Nat) (d : Array Nat) : IBox (putRow encN (Sort.ahead w q) B off d) B n := box_put encN h off q d

theorem IBox.lt {w : World} {B n : Nat} (h : IBox w B n) : B < w.heap.size := by
  obtain ⟨cur, hg, _⟩ := h
  rw [← Nat.not_le]
  intro hle
  rw [Array.getElem?_eq_none hle] at hg
  cases hg

theorem IBox.grow {w : World} {B n : Nat} (h : IBox w B n) (os : Array Obj) : IBox (Sort.grow w os) B n := by
  have hl := h.lt
  obtain ⟨cur, hg, hs⟩ := h
  refine ⟨cur, ?_, hs⟩
  show (w.heap ++ os)[B]? = _
  rw [Array.getElem?_append_left hl]
  exact hg

theorem sw_below {n : Nat} (w : World) (blk off m : Nat) (dk : Array (Fin n)) (os : Array Obj) [Inhabited (Fin n)] (hb : blk < w.heap.size) : Below blk w (sortWorld encF w blk off m dk os) := by
  refine ⟨rfl, rfl, rfl, ?_, fun k hk => ?_⟩
  · simp [sortWorld, Sort.grow, putRow, mapBlock, Sort.ahead]
  · show ((w.heap.modify blk _) ++ os)[k]? = _
    rw [Array.getElem?_append_left (by simp; omega), Array.getElem?_modify, if_neg (by omega)]

theorem sort_any (B bx G n c : Nat) (f : Nat → Nat × Nat) (X : Nat → Int × Int) (V : World) (hB : B < V.heap.size) (hbx : bx < B) (hG : G < B) (hn : n ≤ 100000) (hbox : V.cell? ⟨bx, 0, none⟩ = some (.slice (some ⟨G, 0, none⟩) n c)) (H : SpX V G n f X) (hH : Holds encN V B 0 (List.range n).toArray) (hib : IBox V B n) :
    Calls Tryz.prog 77 #[.slice (some ⟨B, 0, none⟩) n n, .func (.func 78) #[] #[.pointer (some ⟨bx, 0, none⟩)]] V fun e w' => e = .returned (.tuple #[]) ∧ ∃ o, Srt X n o ∧ Holds encN w' B 0 o.toArray ∧ Below B V w' ∧ IBox w' B n := by
  cases n with
  | zero =>
    have hS := AnyF.slices_SortFunc_none (P := Tryz.prog) (ρ := Tryz.sortL_ren) { Tryz.sortL with } (some ⟨B, 0, none⟩) 0 (.func (.func 78) #[] #[.pointer (some ⟨bx, 0, none⟩)]) V
    change Calls Tryz.prog 77 _ _ _ at hS
    refine hS.mono ?_
    rintro e w' ⟨rfl, rfl⟩
    exact ⟨rfl, [], ⟨List.Perm.refl _, List.Pairwise.nil⟩, hH, Below.refl _ _, hib⟩
  | succ m =>
    have hHF : Holds encF V B 0 (List.finRange (m + 1)).toArray := by
      intro j hj
      have hj' : j < m + 1 := by simpa using hj
      have h := hH j (by simpa using hj')
      refine ⟨?_, h.2⟩
      rw [h.1]
      simp [encN, encF, hj']
    have hcmp : CmpLays1 Tryz.prog 78 #[.pointer (some ⟨bx, 0, none⟩)] encF (cfX X (n := m + 1)) B 0 (List.finRange (m + 1)).toArray.size V := by
      intro q os dk _ x y
      have hb := sw_below V B 0 q dk os hB
      refine (clo1 x.val y.val bx G (m + 1) c f X _ x.isLt y.isLt ?_ ?_ (H.keptB hG hb)).mono ?_
      · exact Nat.lt_of_lt_of_le (by omega) hb.size
      · rw [hb.cell (p := ⟨bx, 0, none⟩) hbx]; exact hbox
      · rintro e w' ⟨rfl, hg⟩
        exact ⟨rfl, hg.grown⟩
    have hS := Any.slices_SortFunc_total (α := Fin (m + 1)) Tryz.sortL encF (fun _ => rfl) (cfX X) (cfX_swo X) 78 #[.pointer (some ⟨bx, 0, none⟩)] B 0 (m + 1) (List.finRange (m + 1)).toArray V (enters_of Tryz.func78 (by kernel_rfl) rfl) hcmp hHF hB (by simp; omega) (cfX_tot X)
    change Calls Tryz.prog 77 _ _ _ at hS
    have hsz : (List.finRange (m + 1)).toArray.size = m + 1 := by simp
    rw [hsz] at hS
    refine hS.mono ?_
    rintro e w' ⟨rfl, q, os, rfl⟩
    refine ⟨rfl, _, sort_srt X (m + 1), ?_, sw_below _ _ _ _ _ _ hB, (box_put encF hib _ _ _).grow _⟩
    have R : Row1 encF V B 0 (List.finRange (m + 1)).toArray := ⟨fun _ => rfl, hHF, hB⟩
    have hw : SW encF V B 0 ((List.finRange (m + 1)).mergeSort fun x y => !ltOf (cfX X) y x).toArray (sortWorld encF V B 0 q ((List.finRange (m + 1)).mergeSort fun x y => !ltOf (cfX X) y x).toArray os) := ⟨q, os, rfl⟩
    intro j hj
    have hj' : j < ((List.finRange (m + 1)).mergeSort fun x y => !ltOf (cfX X) y x).toArray.size := by simpa using hj
    have c1 := hw.c1 R (by simp) j hj'
    have f1 := hw.f1 R (by simp) j hj'
    refine ⟨?_, f1⟩
    rw [c1]
    have hj2 : j < m + 1 := by simpa using hj'
    simp [encN, encF, hj2]

end Go.Proofs.YtbjjkfmdkmbcfaaGreat

namespace Go.Proofs.YtbjjkfmdkmbcfaaGreat
open Go.Shelf Go.RowKit Go.Lib Go.Sort
open HL (cr lx)

attribute [local go_sem ↓] Go.wp_at_zero Go.wp_at_succ

theorem infoI : (Tryz.prog.info? 3).map (fun i => (i.zero, i.size, i.bytes)) = some (some (.int .i64 0), 1, 8) := by kernel_rfl

theorem hown_row {w : World} {base n : Nat} {e : TypeId} {size g : Nat} {xs : List Value} (h : w.ownsRow base e size (.slice (some ⟨g, 0, none⟩) n n) n xs) : ∃ cur : Array Value, w.heap[g]? = some (.cells cur e (0, 0)) ∧ cur.size = n * size := by
  rcases h.2 with ⟨h1, _⟩ | ⟨g', cap', cur, h1, hbg, hgg, hnc, hcm, hcs, htake⟩
  · simp at h1
  · simp only [Value.slice.injEq, Option.some.injEq, Addr.mk.injEq, and_true, true_and] at h1
    obtain ⟨rfl, rfl⟩ := h1
    exact ⟨cur, hgg, hcs⟩

/-- A row of numbers that is the call's own. -/
def CV (w : World) (base : Nat) (v : Value) (xs : List Nat) : Prop := w.ownsRow base 3 1 v xs.length (xs.map encN)

theorem CV.form {w : World} {base : Nat} {v : Value} {xs : List Nat} (h : CV w base v xs) : ∃ p c, v = .slice p xs.length c := by
  rcases h.2 with ⟨h1, h2⟩ | ⟨g, cap, cur, h1, _⟩
  · exact ⟨none, 0, by rw [h1, h2]⟩
  · exact ⟨_, cap, h1⟩

theorem CV.full {w : World} {base : Nat} {v : Value} {xs : List Nat} (h : CV w base v xs) (hne : xs ≠ []) : ∃ g c, v = .slice (some ⟨g, 0, none⟩) xs.length c ∧ base ≤ g ∧ xs.length ≤ c ∧ c ≤ maxLen ∧ (∀ j (hj : j < xs.length), w.cell? ⟨g, j, none⟩ = some (encN xs[j])) ∧ ∀ m, m ≤ xs.length → CV w base (.slice (some ⟨g, 0, none⟩) m c) (xs.take m) := by
  obtain ⟨hl, h⟩ := h
  rcases h with ⟨h1, h2⟩ | ⟨g, cap, cur, h1, hb, hg, hc, hm, hs, ht⟩
  · exact absurd (List.eq_nil_of_length_eq_zero h2) hne
  · refine ⟨g, cap, h1, hb, hc, hm, fun j hj => ?_, fun m hm2 => ?_⟩
    · have h3 : (cur.toList.take (xs.length * 1))[j]? = (xs.map encN)[j]? := by rw [ht]
      rw [List.getElem?_take, if_pos (by omega), Array.getElem?_toList, List.getElem?_map, List.getElem?_eq_getElem hj] at h3
      simp [World.cell?, hg, h3]
    · refine ⟨by simp, .inr ⟨g, cap, cur, ?_, hb, hg, ?_, hm, hs, ?_⟩⟩
      · simp [Nat.min_eq_left hm2]
      · simp; omega
      · have h4 := congrArg (List.take m) ht
        rw [List.take_take] at h4
        rw [List.map_take, ← h4]
        congr 1
        simp

theorem CV.kept {w w' : World} {base : Nat} {v : Value} {xs : List Nat} (h : CV w base v xs) (hb : Below w.heap.size w w') : CV w' base v xs := by
  obtain ⟨hl, h⟩ := h
  refine ⟨hl, ?_⟩
  rcases h with h | ⟨g, cap, cur, h1, hbg, hg, h2, h3, h4, h5⟩
  · exact .inl h
  · refine .inr ⟨g, cap, cur, h1, hbg, ?_, h2, h3, h4, h5⟩
    have hlt : g < w.heap.size := by
      rw [← Nat.not_le]
      intro hle
      rw [Array.getElem?_eq_none hle] at hg
      cases hg
    rw [hb.block g hlt]
    exact hg

theorem CV.ofLen {w : World} {base m : Nat} {v : Value} {xs : List Nat} (hm : m = xs.length) (h : CV w base v xs) : w.ownsRow base 3 1 v m (xs.map encN) := by
  subst hm
  exact h

/-- A row of n numbers, of which the first k are 0, 1, .. -/
def IRow (w : World) (B n k : Nat) : Prop := ∃ cur : Array Value, w.heap[B]? = some (.cells cur 3 (0, 0)) ∧ cur.size = n ∧ ∀ j, j < k → cur[j]? = some (encN j)

theorem IRow.cell {w : World} {B n k : Nat} (h : IRow w B n k) (hk : k < n) : ∃ u, w.cell? ⟨B, k, none⟩ = some u ∧ w.frozen? ⟨B, k, none⟩ = false := by
  obtain ⟨cur, hg, hs, _⟩ := h
  refine ⟨cur[k], ?_, ?_⟩
  · simp [World.cell?, hg, hs, hk]
  · simp [World.frozen?, hg]

theorem IRow.put {w : World} {B n k : Nat} (h : IRow w B n k) (hk : k < n) : IRow (w.setCell ⟨B, k, none⟩ (encN k)) B n (k + 1) := by
  obtain ⟨cur, hg, hs, hc⟩ := h
  refine ⟨_, heap_setCell_same _ B k _ _ _ hg, by simpa using hs, fun j hj => ?_⟩
  by_cases e : j = k
  · subst e
    rw [Array.getElem?_setIfInBounds_self_of_lt (by omega)]
  · rw [Array.getElem?_setIfInBounds_ne (by omega)]
    exact hc j (by omega)

theorem IRow.box {w : World} {B n k : Nat} (h : IRow w B n k) : IBox w B n := by
  obtain ⟨cur, hg, hs, _⟩ := h
  exact ⟨cur, hg, hs⟩

theorem cv_of_holds {w : World} {B n base : Nat} {xs : List Nat} (h : IBox w B n) (hH : Holds encN w B 0 xs.toArray) (hl : xs.length ≤ n) (hb : base ≤ B) (hn : n ≤ 100000) : CV w base (.slice (some ⟨B, 0, none⟩) xs.length n) xs := by
  obtain ⟨cur, hg, hs⟩ := h
  refine ⟨by simp, .inr ⟨B, n, cur, rfl, hb, hg, hl, by unfold maxLen; omega, by omega, ?_⟩⟩
  apply List.ext_getElem?
  intro j
  rw [List.getElem?_take, List.getElem?_map]
  by_cases hj : j < xs.length
  · rw [if_pos (by omega), List.getElem?_eq_getElem hj]
    have h1 := (hH j (by simpa using hj)).1
    rw [Nat.zero_add, get_at hj] at h1
    simpa [World.cell?, hg] using h1
  · rw [if_neg (by omega), List.getElem?_eq_none (by omega)]
    rfl

theorem IRow.holds {w : World} {B n : Nat} (h : IRow w B n n) : Holds encN w B 0 (List.range n).toArray := by
  obtain ⟨cur, hg, hs, hc⟩ := h
  intro j hj
  have hj' : j < n := by simpa using hj
  have h1 := hc j hj'
  refine ⟨?_, by simp [World.frozen?, hg]⟩
  simp [World.cell?, hg, h1, hj']

set_option maxHeartbeats 8000000 in
set_option maxRecDepth 100000 in
theorem fromLeft_any (G n c : Nat) (f : Nat → Nat × Nat) (X : Nat → Int × Int) (w : World) (hn : n ≤ 100000) (H : SpX w G n f X) :
    Calls Tryz.prog 66 #[.slice (some ⟨G, 0, none⟩) n c] w fun e w' => ∃ o B cap, Srt X n o ∧ e = .returned (.slice (some ⟨B, 0, none⟩) (ordL X o).length cap) ∧ CV w' w.heap.size (.slice (some ⟨B, 0, none⟩) (ordL X o).length cap) (ordL X o) ∧ Below w.heap.size w w' := by
  obtain ⟨i0, hi, hz0, hz1, hz2⟩ := info_parts infoI
  have HX : Hid (SpX w G n f X) := H
  clear H
  go_enter Tryz.func66, Tryz.ntmps66
  go_upto_region 1 with fail
  generalize hW : World.alloc w _ = W
  have hWs : W.heap.size = w.heap.size + 1 := by subst hW; simp
  have hw : Below w.heap.size w W := by subst hW; exact (Below.refl _ _).alloc (Nat.le_refl _) _
  have KS : ∀ w', Below W.heap.size W w' → w'.cell? ⟨w.heap.size, 0, none⟩ = some (.slice (some ⟨G, 0, none⟩) n c) := by
    intro w' hb
    obtain ⟨hc, _⟩ := bcell hb
    rw [hc _ _ (by omega)]
    subst hW
    simp [go_sem]
  have hbox := KS W (Below.refl _ _)
  go_wp2_with (first | (at_make; go_must (refine wpList_make_full _ rfl _ _ 41 rfl W.heap.size 3 i0 _ 1 Tryz.underlying41 hi hz0 hz1 _ _ _ _ n rfl rfl (by omega) (by omega) (by rw [hz2]; omega) (by unfold maxLen; omega) (Nat.le_refl _) ?_; intro w0 hown0 hgrow0; obtain ⟨cur0, hg0, hc0⟩ := hown_row hown0; have hb0 : Below W.heap.size W w0 := (Below.refl _ _).grown hgrow0 (Nat.le_refl _) (fun k h => by cases h); have hl0 : W.heap.size < w0.heap.size := (hown0.lt W.heap.size rfl).2; clear hown0 hgrow0)))
  have R0 : IRow w0 (w.heap.size + 1) n 0 := ⟨cur0, by rw [← hWs]; exact hg0, by omega, fun j hj => absurd hj (Nat.not_lt_zero _)⟩
  have hb1 : Below (w.heap.size + 1) W w0 := by rw [← hWs]; exact hb0
  have hl1 : w.heap.size + 1 < w0.heap.size := by omega
  clear hg0 hc0 hb0 hl0 hi hz0 hz1 hz2
  go_loopw [10] (fun si wr => ∃ k : Nat, si = .int .i64 k ∧ k ≤ n ∧ IRow wr (w.heap.size + 1) n k ∧ Below (w.heap.size + 1) W wr ∧ w.heap.size + 1 < wr.heap.size) (fun si _ => n - (intOf si).toNat)
  case atStart => exact ⟨0, rfl, Nat.zero_le _, R0, hb1, hl1⟩
  case round =>
    obtain ⟨k, rfl, hk, R, hbel, hlt2⟩ := hrel
    clear R0 hb1 hl1
    by_cases hlt : k < n
    · obtain ⟨u, cu, fu⟩ := R.cell hlt
      have R2 := R.put hlt
      have hb2 : Below (w.heap.size + 1) W (wr.setCell ⟨w.heap.size + 1, k, none⟩ (encN k)) := hbel.setCell (Nat.le_refl _) _
      have hl2 : w.heap.size + 1 < (wr.setCell ⟨w.heap.size + 1, k, none⟩ (encN k)).heap.size := by simpa using hlt2
      clear R
      unfold encN at R2 hb2 hl2
      go_wp2
      go_roundw
      case rel => exact ⟨k + 1, by go_num, by omega, R2, hb2, hl2⟩
      case measure => simp [intOf]; omega
    · have hkn : k = n := by omega
      subst hkn
      have hH := R.holds
      have hGl : G < w.heap.size := HX.out.lt
      have hXr : SpX wr G k f X := (HX.out.kept hw).keptB (B := w.heap.size + 1) (by omega) hbel
      have hbx : wr.cell? ⟨w.heap.size, 0, none⟩ = some (.slice (some ⟨G, 0, none⟩) k c) := by rw [hbel.cell (p := ⟨w.heap.size, 0, none⟩) (Nat.lt_succ_self _)]; exact hbox
      have HSO : Hid (Calls Tryz.prog 77 #[.slice (some ⟨w.heap.size + 1, 0, none⟩) k k, .func (.func 78) #[] #[.pointer (some ⟨w.heap.size, 0, none⟩)]] wr fun e w' => e = .returned (.tuple #[]) ∧ ∃ o, Srt X k o ∧ Holds encN w' (w.heap.size + 1) 0 o.toArray ∧ Below (w.heap.size + 1) wr w' ∧ IBox w' (w.heap.size + 1) k) :=
        sort_any (w.heap.size + 1) w.heap.size G k c f X wr hlt2 (Nat.lt_succ_self _) (by omega) hn hbx hXr hH R.box
      have HCO : Hid (∀ V o, Srt X k o → Holds encN V (w.heap.size + 1) 0 o.toArray → Below (w.heap.size + 1) wr V → IBox V (w.heap.size + 1) k → Calls Tryz.prog 82 #[.slice (some ⟨w.heap.size + 1, 0, none⟩) k k, .func (.func 83) #[] #[.pointer (some ⟨w.heap.size, 0, none⟩)]] V fun e w' => e = .returned (.slice (some ⟨w.heap.size + 1, 0, none⟩) (ordL X o).length k) ∧ Holds encN w' (w.heap.size + 1) 0 (ordL X o).toArray ∧ Below (w.heap.size + 1) wr w' ∧ IBox w' (w.heap.size + 1) k ∧ (ordL X o).length ≤ k) := by
        intro V o ho hV hbV hib
        have hlen : o.toArray.size = k := by simpa using ho.length
        have h9 := compact_any (w.heap.size + 1) w.heap.size k k X o.toArray V (by omega) (by omega) (fun j hj => by
          have hj' : j < o.length := by simpa using hj
          rw [get_at hj']
          exact List.mem_range.1 (ho.perm.mem_iff.1 (List.getElem_mem hj'))) hV (by
          rintro V' i j ⟨q, dk, hdk, rfl⟩ hi hj
          have hb' : Below (w.heap.size + 1) wr (putRow encN (Sort.ahead V q) (w.heap.size + 1) 0 dk) := hbV.trans (put_below V _ 0 q dk)
          refine (clo2 i j w.heap.size G k c f X _ hi hj (Nat.lt_of_lt_of_le (by omega) hb'.size) ?_ (hXr.keptB (by omega) hb')).mono fun e w' h => h
          rw [hb'.cell (p := ⟨w.heap.size, 0, none⟩) (Nat.lt_succ_self _)]
          exact hbx)
        rw [hlen] at h9
        refine h9.mono ?_
        rintro e w' ⟨q, dk, rfl, rfl, hdk, hta⟩
        have hord : cpt (eqX X) o.toArray k = ordL X o := by unfold ordL; rw [ho.length]
        rw [hord] at hta ⊢
        have hHd : Holds encN (putRow encN (Sort.ahead V q) (w.heap.size + 1) 0 dk) (w.heap.size + 1) 0 dk := holds_putRow encN _ _ 0 o.toArray dk (holds_ahead encN V q _ 0 _ hV) (by omega)
        have hll : (ordL X o).length ≤ dk.size := by
          have h8 := congrArg List.length hta
          rw [List.length_take] at h8
          simp at h8
          omega
        refine ⟨rfl, ?_, hbV.trans (put_below V _ 0 q dk), hib.put 0 q dk, by omega⟩
        intro j hj
        have hj' : j < (ordL X o).length := by simpa using hj
        have h7 := hHd j (by omega)
        refine ⟨?_, h7.2⟩
        rw [h7.1]
        have h6 : dk[j]! = (ordL X o)[j] := by
          have h5 : (dk.toList.take (ordL X o).length)[j]? = (ordL X o)[j]? := by rw [hta]
          rw [List.getElem?_take, if_pos hj', Array.getElem?_toList, List.getElem?_eq_getElem hj'] at h5
          rw [Array.getElem!_eq_getD, Array.getD_eq_getD_getElem?, h5]
          rfl
        rw [h6, get_at hj']
      clear R hH hXr hbx
      have HB : Hid (Below (w.heap.size + 1) W wr) := hbel
      go_wp2_with (first | (go_at_call 77; go_must (refine HSO.out.mono ?_; rintro e w1 ⟨rfl, o, ho, hH1, hb1, hib1⟩)) | (go_at_call 82; go_must (refine (HCO.out _ o ho hH1 hb1 hib1).mono ?_; rintro e w2 ⟨rfl, hH2, hb2, hib2, hll2⟩)))
      go_ret
      refine ⟨o, w.heap.size + 1, k, ho, rfl, cv_of_holds hib2 hH2 hll2 (by omega) (by omega), hw.trans ((hbel.trans hb2).mono (by omega))⟩

end Go.Proofs.YtbjjkfmdkmbcfaaGreat
