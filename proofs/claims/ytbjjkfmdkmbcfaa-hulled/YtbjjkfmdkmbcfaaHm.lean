import Derived.Test.YtbjjkfmdkmbcfaaHk
namespace Go.Proofs.Ytbjjkfmdkmbcfaa
open Go.Shelf Go.RowKit Go.Lib Go.Sort
open HL (cr lx)

attribute [local go_sem ↓] Go.wp_at_zero Go.wp_at_succ

theorem infoI : (Try.prog.info? 3).map (fun i => (i.zero, i.size, i.bytes)) = some (some (.int .i64 0), 1, 8) := by kernel_rfl

theorem hown_row {w : World} {base n : Nat} {e : TypeId} {size g : Nat} {xs : List Value} (h : w.ownsRow base e size (.slice (some ⟨g, 0, none⟩) n n) n xs) : ∃ cur : Array Value, w.heap[g]? = some (.cells cur e (0, 0)) ∧ cur.size = n * size := by
  rcases h.2 with ⟨h1, _⟩ | ⟨g', cap', cur, h1, hbg, hgg, hnc, hcm, hcs, htake⟩
  · simp at h1
  · simp only [Value.slice.injEq, Option.some.injEq, Addr.mk.injEq, and_true, true_and] at h1
    obtain ⟨rfl, rfl⟩ := h1
    exact ⟨cur, hgg, hcs⟩

/-- A row of numbers that is the call's own. -/
def CV (w : World) (base : Nat) (v : Value) (xs : List Nat) : Prop := w.ownsRow base 3 1 v xs.length (xs.map encN)

theorem CV.form {w : World} {base : Nat} {v : Value} {xs : List Nat} (h : CV w base v xs) : ∃ p c, v = .slice p xs.length c := by
  rcases h.2 with ⟨h1, h2⟩ | ⟨g, cap, cur, h1, _⟩
  · exact ⟨none, 0, by rw [h1, h2]⟩
  · exact ⟨_, cap, h1⟩

theorem CV.full {w : World} {base : Nat} {v : Value} {xs : List Nat} (h : CV w base v xs) (hne : xs ≠ []) : ∃ g c, v = .slice (some ⟨g, 0, none⟩) xs.length c ∧ base ≤ g ∧ xs.length ≤ c ∧ c ≤ maxLen ∧ (∀ j (hj : j < xs.length), w.cell? ⟨g, j, none⟩ = some (encN xs[j])) ∧ ∀ m, m ≤ xs.length → CV w base (.slice (some ⟨g, 0, none⟩) m c) (xs.take m) := by
  obtain ⟨hl, h⟩ := h
  rcases h with ⟨h1, h2⟩ | ⟨g, cap, cur, h1, hb, hg, hc, hm, hs, ht⟩
  · exact absurd (List.eq_nil_of_length_eq_zero h2) hne
  · refine ⟨g, cap, h1, hb, hc, hm, fun j hj => ?_, fun m hm2 => ?_⟩
    · have h3 : (cur.toList.take (xs.length * 1))[j]? = (xs.map encN)[j]? := by rw [ht]
      rw [List.getElem?_take, if_pos (by omega), Array.getElem?_toList, List.getElem?_map, List.getElem?_eq_getElem hj] at h3
      simp [World.cell?, hg, h3]
    · refine ⟨by simp, .inr ⟨g, cap, cur, ?_, hb, hg, ?_, hm, hs, ?_⟩⟩
      · simp [Nat.min_eq_left hm2]
      · simp; omega
      · have h4 := congrArg (List.take m) ht
        rw [List.take_take] at h4
        rw [List.map_take, ← h4]
        congr 1
        simp

theorem CV.kept {w w' : World} {base : Nat} {v : Value} {xs : List Nat} (h : CV w base v xs) (hb : Below w.heap.size w w') : CV w' base v xs := by
  obtain ⟨hl, h⟩ := h
  refine ⟨hl, ?_⟩
  rcases h with h | ⟨g, cap, cur, h1, hbg, hg, h2, h3, h4, h5⟩
  · exact .inl h
  · refine .inr ⟨g, cap, cur, h1, hbg, ?_, h2, h3, h4, h5⟩
    have hlt : g < w.heap.size := by
      rw [← Nat.not_le]
      intro hle
      rw [Array.getElem?_eq_none hle] at hg
      cases hg
    rw [hb.block g hlt]
    exact hg

theorem CV.ofLen {w : World} {base m : Nat} {v : Value} {xs : List Nat} (hm : m = xs.length) (h : CV w base v xs) : w.ownsRow base 3 1 v m (xs.map encN) := by
  subst hm
  exact h

/-- A row of n numbers, of which the first k are 0, 1, .. -/
def IRow (w : World) (B n k : Nat) : Prop := ∃ cur : Array Value, w.heap[B]? = some (.cells cur 3 (0, 0)) ∧ cur.size = n ∧ ∀ j, j < k → cur[j]? = some (encN j)

theorem IRow.cell {w : World} {B n k : Nat} (h : IRow w B n k) (hk : k < n) : ∃ u, w.cell? ⟨B, k, none⟩ = some u ∧ w.frozen? ⟨B, k, none⟩ = false := by
  obtain ⟨cur, hg, hs, _⟩ := h
  refine ⟨cur[k], ?_, ?_⟩
  · simp [World.cell?, hg, hs, hk]
  · simp [World.frozen?, hg]

theorem IRow.put {w : World} {B n k : Nat} (h : IRow w B n k) (hk : k < n) : IRow (w.setCell ⟨B, k, none⟩ (encN k)) B n (k + 1) := by
  obtain ⟨cur, hg, hs, hc⟩ := h
  refine ⟨_, heap_setCell_same _ B k _ _ _ hg, by simpa using hs, fun j hj => ?_⟩
  by_cases e : j = k
  · subst e
    rw [Array.getElem?_setIfInBounds_self_of_lt (by omega)]
  · rw [Array.getElem?_setIfInBounds_ne (by omega)]
    exact hc j (by omega)

theorem IRow.box {w : World} {B n k : Nat} (h : IRow w B n k) : IBox w B n := by
  obtain ⟨cur, hg, hs, _⟩ := h
  exact ⟨cur, hg, hs⟩

theorem cv_of_holds {w : World} {B n base : Nat} {xs : List Nat} (h : IBox w B n) (hH : Holds encN w B 0 xs.toArray) (hl : xs.length ≤ n) (hb : base ≤ B) (hn : n ≤ 100000) : CV w base (.slice (some ⟨B, 0, none⟩) xs.length n) xs := by
  obtain ⟨cur, hg, hs⟩ := h
  refine ⟨by simp, .inr ⟨B, n, cur, rfl, hb, hg, hl, by unfold maxLen; omega, by omega, ?_⟩⟩
  apply List.ext_getElem?
  intro j
  rw [List.getElem?_take, List.getElem?_map]
  by_cases hj : j < xs.length
  · rw [if_pos (by omega), List.getElem?_eq_getElem hj]
    have h1 := (hH j (by simpa using hj)).1
    rw [Nat.zero_add, get_at hj] at h1
    simpa [World.cell?, hg] using h1
  · rw [if_neg (by omega), List.getElem?_eq_none (by omega)]
    rfl

theorem IRow.holds {w : World} {B n : Nat} (h : IRow w B n n) : Holds encN w B 0 (List.range n).toArray := by
  obtain ⟨cur, hg, hs, hc⟩ := h
  intro j hj
  have hj' : j < n := by simpa using hj
  have h1 := hc j hj'
  refine ⟨?_, by simp [World.frozen?, hg]⟩
  simp [World.cell?, hg, h1, hj']

set_option maxHeartbeats 8000000 in
set_option maxRecDepth 100000 in
theorem fromLeft_any (G n c : Nat) (f : Nat → Nat × Nat) (X : Nat → Int × Int) (w : World) (hn : n ≤ 100000) (H : SpX w G n f X) :
    Calls Try.prog 44 #[.slice (some ⟨G, 0, none⟩) n c] w fun e w' => ∃ o B cap, Srt X n o ∧ e = .returned (.slice (some ⟨B, 0, none⟩) (ordL X o).length cap) ∧ CV w' w.heap.size (.slice (some ⟨B, 0, none⟩) (ordL X o).length cap) (ordL X o) ∧ Below w.heap.size w w' := by
  obtain ⟨i0, hi, hz0, hz1, hz2⟩ := info_parts infoI
  have HX : Hid (SpX w G n f X) := H
  clear H
  go_enter Try.func44, Try.ntmps44
  go_upto_region 1 with fail
  generalize hW : World.alloc w _ = W
  have hWs : W.heap.size = w.heap.size + 1 := by subst hW; simp
  have hw : Below w.heap.size w W := by subst hW; exact (Below.refl _ _).alloc (Nat.le_refl _) _
  have KS : ∀ w', Below W.heap.size W w' → w'.cell? ⟨w.heap.size, 0, none⟩ = some (.slice (some ⟨G, 0, none⟩) n c) := by
    intro w' hb
    obtain ⟨hc, _⟩ := bcell hb
    rw [hc _ _ (by omega)]
    subst hW
    simp [go_sem]
  have hbox := KS W (Below.refl _ _)
  go_wp2_with (first | (at_make; go_must (refine wpList_make_full _ rfl _ _ 44 rfl W.heap.size 3 i0 _ 1 Try.underlying44 hi hz0 hz1 _ _ _ _ n rfl rfl (by omega) (by omega) (by rw [hz2]; omega) (by unfold maxLen; omega) (Nat.le_refl _) ?_; intro w0 hown0 hgrow0; obtain ⟨cur0, hg0, hc0⟩ := hown_row hown0; have hb0 : Below W.heap.size W w0 := (Below.refl _ _).grown hgrow0 (Nat.le_refl _) (fun k h => by cases h); have hl0 : W.heap.size < w0.heap.size := (hown0.lt W.heap.size rfl).2; clear hown0 hgrow0)))
  have R0 : IRow w0 (w.heap.size + 1) n 0 := ⟨cur0, by rw [← hWs]; exact hg0, by omega, fun j hj => absurd hj (Nat.not_lt_zero _)⟩
  have hb1 : Below (w.heap.size + 1) W w0 := by rw [← hWs]; exact hb0
  have hl1 : w.heap.size + 1 < w0.heap.size := by omega
  clear hg0 hc0 hb0 hl0 hi hz0 hz1 hz2
  go_loopw [10] (fun si wr => ∃ k : Nat, si = .int .i64 k ∧ k ≤ n ∧ IRow wr (w.heap.size + 1) n k ∧ Below (w.heap.size + 1) W wr ∧ w.heap.size + 1 < wr.heap.size) (fun si _ => n - (intOf si).toNat)
  case atStart => exact ⟨0, rfl, Nat.zero_le _, R0, hb1, hl1⟩
  case round =>
    obtain ⟨k, rfl, hk, R, hbel, hlt2⟩ := hrel
    clear R0 hb1 hl1
    by_cases hlt : k < n
    · obtain ⟨u, cu, fu⟩ := R.cell hlt
      have R2 := R.put hlt
      have hb2 : Below (w.heap.size + 1) W (wr.setCell ⟨w.heap.size + 1, k, none⟩ (encN k)) := hbel.setCell (Nat.le_refl _) _
      have hl2 : w.heap.size + 1 < (wr.setCell ⟨w.heap.size + 1, k, none⟩ (encN k)).heap.size := by simpa using hlt2
      clear R
      unfold encN at R2 hb2 hl2
      go_wp2
      go_roundw
      case rel => exact ⟨k + 1, by go_num, by omega, R2, hb2, hl2⟩
      case measure => simp [intOf]; omega
    · have hkn : k = n := by omega
      subst hkn
      have hH := R.holds
      have hGl : G < w.heap.size := HX.out.lt
      have hXr : SpX wr G k f X := (HX.out.kept hw).keptB (B := w.heap.size + 1) (by omega) hbel
      have hbx : wr.cell? ⟨w.heap.size, 0, none⟩ = some (.slice (some ⟨G, 0, none⟩) k c) := by rw [hbel.cell (p := ⟨w.heap.size, 0, none⟩) (Nat.lt_succ_self _)]; exact hbox
      have HSO : Hid (Calls Try.prog 56 #[.slice (some ⟨w.heap.size + 1, 0, none⟩) k k, .func (.func 57) #[] #[.pointer (some ⟨w.heap.size, 0, none⟩)]] wr fun e w' => e = .returned (.tuple #[]) ∧ ∃ o, Srt X k o ∧ Holds encN w' (w.heap.size + 1) 0 o.toArray ∧ Below (w.heap.size + 1) wr w' ∧ IBox w' (w.heap.size + 1) k) :=
        sort_any (w.heap.size + 1) w.heap.size G k c f X wr hlt2 (Nat.lt_succ_self _) (by omega) hn hbx hXr hH R.box
      have HCO : Hid (∀ V o, Srt X k o → Holds encN V (w.heap.size + 1) 0 o.toArray → Below (w.heap.size + 1) wr V → IBox V (w.heap.size + 1) k → Calls Try.prog 61 #[.slice (some ⟨w.heap.size + 1, 0, none⟩) k k, .func (.func 62) #[] #[.pointer (some ⟨w.heap.size, 0, none⟩)]] V fun e w' => e = .returned (.slice (some ⟨w.heap.size + 1, 0, none⟩) (ordL X o).length k) ∧ Holds encN w' (w.heap.size + 1) 0 (ordL X o).toArray ∧ Below (w.heap.size + 1) wr w' ∧ IBox w' (w.heap.size + 1) k ∧ (ordL X o).length ≤ k) := by
        intro V o ho hV hbV hib
        have hlen : o.toArray.size = k := by simpa using ho.length
        have h9 := compact_any (w.heap.size + 1) w.heap.size k k X o.toArray V (by omega) (by omega) (fun j hj => by
          have hj' : j < o.length := by simpa using hj
          rw [get_at hj']
          exact List.mem_range.1 (ho.perm.mem_iff.1 (List.getElem_mem hj'))) hV (by
          rintro V' i j ⟨q, dk, hdk, rfl⟩ hi hj
          have hb' : Below (w.heap.size + 1) wr (putRow encN (Sort.ahead V q) (w.heap.size + 1) 0 dk) := hbV.trans (put_below V _ 0 q dk)
          refine (clo2 i j w.heap.size G k c f X _ hi hj (Nat.lt_of_lt_of_le (by omega) hb'.size) ?_ (hXr.keptB (by omega) hb')).mono fun e w' h => h
          rw [hb'.cell (p := ⟨w.heap.size, 0, none⟩) (Nat.lt_succ_self _)]
          exact hbx)
        rw [hlen] at h9
        refine h9.mono ?_
        rintro e w' ⟨q, dk, rfl, rfl, hdk, hta⟩
        have hord : cpt (eqX X) o.toArray k = ordL X o := by unfold ordL; rw [ho.length]
        rw [hord] at hta ⊢
        have hHd : Holds encN (putRow encN (Sort.ahead V q) (w.heap.size + 1) 0 dk) (w.heap.size + 1) 0 dk := holds_putRow encN _ _ 0 o.toArray dk (holds_ahead encN V q _ 0 _ hV) (by omega)
        have hll : (ordL X o).length ≤ dk.size := by
          have h8 := congrArg List.length hta
          rw [List.length_take] at h8
          simp at h8
          omega
        refine ⟨rfl, ?_, hbV.trans (put_below V _ 0 q dk), hib.put 0 q dk, by omega⟩
        intro j hj
        have hj' : j < (ordL X o).length := by simpa using hj
        have h7 := hHd j (by omega)
        refine ⟨?_, h7.2⟩
        rw [h7.1]
        have h6 : dk[j]! = (ordL X o)[j] := by
          have h5 : (dk.toList.take (ordL X o).length)[j]? = (ordL X o)[j]? := by rw [hta]
          rw [List.getElem?_take, if_pos hj', Array.getElem?_toList, List.getElem?_eq_getElem hj'] at h5
          rw [Array.getElem!_eq_getD, Array.getD_eq_getD_getElem?, h5]
          rfl
        rw [h6, get_at hj']
      clear R hH hXr hbx
      have HB : Hid (Below (w.heap.size + 1) W wr) := hbel
      go_wp2_with (first | (go_at_call 56; go_must (refine HSO.out.mono ?_; rintro e w1 ⟨rfl, o, ho, hH1, hb1, hib1⟩)) | (go_at_call 61; go_must (refine (HCO.out _ o ho hH1 hb1 hib1).mono ?_; rintro e w2 ⟨rfl, hH2, hb2, hib2, hll2⟩)))
      go_ret
      refine ⟨o, w.heap.size + 1, k, ho, rfl, cv_of_holds hib2 hH2 hll2 (by omega) (by omega), hw.trans ((hbel.trans hb2).mono (by omega))⟩

end Go.Proofs.Ytbjjkfmdkmbcfaa
