import Derived.Test.YtbjjkfmdkmbcfaaGw
namespace Go.Proofs.Ytbjjkfmdkmbcfaa
open Go.RowKit
open PlRd

/-- The slice v reads as the parts bs. -/
def Num (w : World) (base : Nat) (v : Value) (bs : List Nat) : Prop := w.ownsRow base 53 1 v bs.length (vals bs)

/-- The same, and not nil. -/
def NumS (w : World) (base : Nat) (v : Value) (bs : List Nat) : Prop := Num w base v bs ∧ v ≠ .slice none 0 0

theorem absSum_take (xs : List Int) (k : Nat) : absSum (xs.take k) ≤ absSum xs := by
  have := absSum_append (xs.take k) (xs.drop k)
  rw [List.take_append_drop] at this
  omega

theorem le_absSum {x : Int} {xs : List Int} (h : x ∈ xs) : x.natAbs ≤ absSum xs := by
  induction xs with
  | nil => simp at h
  | cons y ys ih =>
    rw [absSum_cons]
    rcases List.mem_cons.1 h with rfl | h
    · omega
    · have := ih h; omega

/-- What stands at each step of 'Sum'. -/
structure SRel (w wr : World) (n : Nat) (xs : List Int) (k : Nat) (hs : List Nat) (cur : Array Value) : Prop where
  hk : k ≤ n
  hl : IsL hs (sumAll (xs.take k))
  row : wr.heap[w.heap.size]? = some (.cells cur 53 (0, 0))
  size : cur.size = n
  took : cur.toList.take hs.length = vals hs
  below : Below w.heap.size w wr

theorem SRel.le {w wr : World} {n : Nat} {xs : List Int} {k : Nat} {hs : List Nat} {cur : Array Value} (R : SRel w wr n xs k hs cur) : hs.length ≤ k := by
  have h1 := R.hl.length
  have h2 := sumAll_length (xs.take k)
  rw [List.length_take] at h2
  omega

set_option maxHeartbeats 800000 in
theorem sum_walk (g n c : Nat) (bs : List Nat) (xs : List Int) (T : Nat) (w : World) (hn : bs.length = n) (hnm : n ≤ 1000000) (hcell : ∀ t, t < n → w.cell? ⟨g, t, none⟩ = some (.float .f64 (bs.getD t 0))) (hg : g < w.heap.size)
    (his : IsL bs xs) (hxT : absSum xs ≤ T) (hT : 2048 * T < LIM) :
    Calls Try.prog 38 #[.slice (some ⟨g, 0, none⟩) n c] w fun e w' => ∃ v' cs, e = .returned v' ∧ NumS w' w.heap.size v' cs ∧ IsL cs (sumAll xs) ∧ Below w.heap.size w w' := by
  obtain ⟨i0, hi, hz0, hz1, hz2⟩ := info_parts info53
  have hxl : xs.length = n := by rw [← his.length, hn]
  go_enter Try.func38, Try.ntmps38
  go_wp2_with (at_make; refine wpList_make_own _ rfl _ _ 57 rfl w.heap.size 53 i0 (.float .f64 0) 1 Try.underlying57 hi hz0 hz1 _ _ _ n rfl rfl (by omega) (by rw [hz2]; omega) (by unfold maxLen; omega) (Nat.le_refl _) ?_; intro w0 hown0 hgrow0)
  obtain ⟨cur0, R0⟩ : ∃ cur0, SRel w w0 n xs 0 [] cur0 := by
    rcases hown0.2 with ⟨h, _⟩ | ⟨g', cap', cur, h, hbg, hgg, hnc, hcm, hcs, htake⟩
    · simp at h
    · simp only [Value.slice.injEq, Option.some.injEq, Addr.mk.injEq, and_true, true_and] at h
      obtain ⟨rfl, rfl⟩ := h
      exact ⟨cur, Nat.zero_le _, by simp [sumAll, IsL], hgg, by simpa using hcs, by simp [vals], (Below.refl _ _).grown hgrow0 (Nat.le_refl _) (fun k h => by cases h)⟩
  clear hown0 hgrow0
  go_wp2
  go_loopw [3, 11] (fun so si wr => ∃ (k : Nat) (hs : List Nat) (cur : Array Value), si = .int .i64 k ∧ so = .slice (some ⟨w.heap.size, 0, none⟩) hs.length n ∧ SRel w wr n xs k hs cur) (fun _ si _ => n - (intOf si).toNat)
  case atStart => exact ⟨0, [], cur0, rfl, rfl, R0⟩
  case round =>
    obtain ⟨k, hs, cur, rfl, rfl, R⟩ := hrel
    clear R0
    have hk := R.hk
    have hle := R.le
    by_cases hlt : k < n
    · obtain ⟨b, hcl, hb⟩ : ∃ b, wr.cell? ⟨g, k, none⟩ = some (.float .f64 b) ∧ Is b (xs.getD k 0) := ⟨_, (R.below.cell (by exact hg)).trans (hcell k hlt), his.at k (by omega)⟩
      have hfl : ∀ p ∈ xs.take k, Fl p := fun p hp => his.fl p (List.mem_of_mem_take hp)
      have hE := sumAll_ex (xs.take k) hfl
      have ha := absSum_take xs k
      have hB : ∀ x ∈ sumAll (xs.take k), x.natAbs ≤ 2 * T := fun x hx => Nat.le_trans (sumAll_le _ hfl x hx) (by omega)
      have hQ : (xs.getD k 0).natAbs ≤ T := Nat.le_trans (le_absSum (getD_mem xs k (by omega))) hxT
      go_wp2_with (go_at_call 51; refine (grow_walk _ _ _ _ hs _ _ T _ cur rfl (by omega) (by omega) R.row R.size R.took R.hl hb hE.1 hQ hB hT).mono ?_; rintro e w' ⟨hs', cur', rfl, hl', hrow', hsize', htook', hby⟩)
      have R1 : SRel w w' n xs (k + 1) hs' cur' := by
        refine ⟨by omega, ?_, hrow', hsize', htook', R.below.grown hby R.below.size (fun k h => by cases h; exact Nat.le_refl _)⟩
        rw [take_next (l := xs) (k := k) (by omega), sumAll_snoc]
        exact hl'
      clear R
      go_roundw
      case rel => exact ⟨k + 1, hs', cur', by go_num, rfl, R1⟩
      case measure => simp [intOf]; omega
    · have ht : xs.take k = xs := List.take_of_length_le (by omega)
      have hl := R.hl
      rw [ht] at hl
      clear ht
      go_wp2
      go_ret
      refine ⟨_, hs, rfl, ⟨⟨by simp [vals], .inr ⟨_, n, cur, rfl, Nat.le_refl _, R.row, by omega, by unfold maxLen; omega, by rw [R.size, Nat.mul_one], by rw [Nat.mul_one]; exact R.took⟩⟩, by simp⟩, hl, R.below⟩

set_option maxHeartbeats 400000 in
theorem sum_nil (w : World) :
    Calls Try.prog 38 #[.slice none 0 0] w fun e w' => ∃ v' cs, e = .returned v' ∧ NumS w' w.heap.size v' cs ∧ IsL cs (sumAll []) ∧ Below w.heap.size w w' := by
  obtain ⟨i0, hi, hz0, hz1, hz2⟩ := info_parts info53
  go_enter Try.func38, Try.ntmps38
  go_wp2_with (at_make; refine wpList_make_own _ rfl _ _ 57 rfl w.heap.size 53 i0 (.float .f64 0) 1 Try.underlying57 hi hz0 hz1 _ _ _ 0 rfl rfl (by omega) (by rw [hz2]; omega) (by unfold maxLen; omega) (Nat.le_refl _) ?_; intro w0 hown0 hgrow0)
  go_wp2
  refine wp_loop_rounds 1 ?_
  rw [rounds_succ]
  go_wp2
  go_ret
  exact ⟨_, [], rfl, ⟨hown0, by simp⟩, trivial, (Below.refl _ _).grown hgrow0 (Nat.le_refl _) (fun k h => by cases h)⟩

/-- A slice of parts, taken apart. -/
theorem Num.cases {w : World} {base : Nat} {v : Value} {bs : List Nat} (h : Num w base v bs) :
    (v = .slice none 0 0 ∧ bs = []) ∨ ∃ g c, v = .slice (some ⟨g, 0, none⟩) bs.length c ∧ base ≤ g ∧ g < w.heap.size ∧ ∀ t, t < bs.length → w.cell? ⟨g, t, none⟩ = some (.float .f64 (bs.getD t 0)) := by
  rcases h.2 with ⟨rfl, h0⟩ | ⟨g, c, cur, rfl, hb, hg, hnc, hcm, hcs, htake⟩
  · exact .inl ⟨rfl, List.eq_nil_of_length_eq_zero h0⟩
  · refine .inr ⟨g, c, rfl, hb, lt_of_row hg, fun t ht => ?_⟩
    rw [h.cellAt t (by omega), vals, List.getElem?_map, List.getD_eq_getElem?_getD, List.getElem?_eq_getElem ht]
    rfl

theorem Num.below {w w' : World} {B base : Nat} {v : Value} {bs : List Nat} (h : Num w base v bs) (hb : Below B w w') (hB : ∀ g, v.ownBlock = some g → g < B) : Num w' base v bs := by
  refine ⟨h.1, ?_⟩
  rcases h.2 with hn | ⟨g, c, cur, rfl, h1, hg, rest⟩
  · exact .inl hn
  · exact .inr ⟨g, c, cur, rfl, h1, by rw [hb.block g (hB g rfl)]; exact hg, rest⟩

theorem Num.kept {w w' : World} {base : Nat} {v : Value} {bs : List Nat} (h : Num w base v bs) (hb : Below w.heap.size w w') : Num w' base v bs :=
  h.below hb (fun g hg => (World.ownsRow.lt h g hg).2)

theorem NumS.cases {w : World} {base : Nat} {v : Value} {bs : List Nat} (h : NumS w base v bs) :
    ∃ g c, v = .slice (some ⟨g, 0, none⟩) bs.length c ∧ base ≤ g ∧ g < w.heap.size ∧ ∀ t, t < bs.length → w.cell? ⟨g, t, none⟩ = some (.float .f64 (bs.getD t 0)) := by
  rcases h.1.cases with ⟨h0, _⟩ | h1
  · exact absurd h0 h.2
  · exact h1

theorem NumS.kept {w w' : World} {base : Nat} {v : Value} {bs : List Nat} (h : NumS w base v bs) (hb : Below w.heap.size w w') : NumS w' base v bs := ⟨h.1.kept hb, h.2⟩

theorem Num.base {w : World} {b b' : Nat} {v : Value} {bs : List Nat} (h : Num w b v bs) (hb : b' ≤ b) : Num w b' v bs := by
  refine ⟨h.1, ?_⟩
  rcases h.2 with hn | ⟨g, c, cur, rfl, h1, rest⟩
  · exact .inl hn
  · exact .inr ⟨g, c, cur, rfl, Nat.le_trans hb h1, rest⟩

theorem NumS.base {w : World} {b b' : Nat} {v : Value} {bs : List Nat} (h : NumS w b v bs) (hb : b' ≤ b) : NumS w b' v bs := ⟨h.1.base hb, h.2⟩

theorem sum_any (v : Value) (base : Nat) (bs : List Nat) (xs : List Int) (T : Nat) (w : World) (hv : Num w base v bs) (hnm : bs.length ≤ 1000000) (his : IsL bs xs) (hxT : absSum xs ≤ T) (hT : 2048 * T < LIM) :
    Calls Try.prog 38 #[v] w fun e w' => ∃ v' cs, e = .returned v' ∧ NumS w' w.heap.size v' cs ∧ IsL cs (sumAll xs) ∧ Below w.heap.size w w' := by
  rcases hv.cases with ⟨rfl, rfl⟩ | ⟨g, c, rfl, _, hg, hcell⟩
  · have : xs = [] := List.eq_nil_of_length_eq_zero his.length.symm
    subst this
    exact sum_nil w
  · exact sum_walk g _ c bs xs T w rfl hnm hcell hg his hxT hT

end Go.Proofs.Ytbjjkfmdkmbcfaa
