import Derived.Test.YtbjjkfmdkmbcfaaSw
namespace Go.Proofs.Ytbjjkfmdkmbcfaa
open Go.RowKit
open PlRd

theorem ret_int {k : IntKind} {a b : Int} (h : a = b) : Ending.returned (.int k a) = .returned (.int k b) := by rw [h]

@[go_sem] theorem run_store_float {P : Program} {w : World} (a : Addr) (m : Mode) (k : FloatKind) (b : Nat) : (store a (.float k b) m).run P w = stored P w a (.float k b) m := run_store P w a _ m rfl

theorem gt_of {l : Nat} {L : Int} (h : Is l L) : (FloatKind.f64.format.order l 0 == some .gt) = decide (0 < L) := by
  have : FloatKind.f64.format.order l 0 = some (compare L 0) := is_order h is_zero
  rw [this]
  rcases Int.lt_trichotomy L 0 with h | h | h
  · rw [show compare L 0 = .lt by simp [compare, compareOfLessAndEq, h]]; simp; omega
  · subst h; rfl
  · rw [show compare L 0 = .gt by simp [compare, compareOfLessAndEq, show ¬ L < 0 by omega, show ¬ L = 0 by omega]]; simp; omega

theorem lt_of {l : Nat} {L : Int} (h : Is l L) : (FloatKind.f64.format.order l 0 == some .lt) = decide (L < 0) := by
  have : FloatKind.f64.format.order l 0 = some (compare L 0) := is_order h is_zero
  rw [this]
  rcases Int.lt_trichotomy L 0 with h | h | h
  · rw [show compare L 0 = .lt by simp [compare, compareOfLessAndEq, h]]; simp; omega
  · subst h; rfl
  · rw [show compare L 0 = .gt by simp [compare, compareOfLessAndEq, show ¬ L < 0 by omega, show ¬ L = 0 by omega]]; simp; omega

set_option maxHeartbeats 400000 in
theorem sign1_any (l : Nat) (L : Int) (w : World) (h : Is l L) : Calls Try.prog 41 #[.float .f64 l] w fun e w' => e = .returned (.int .i64 (sgn L)) ∧ w' = w := by
  have h1 := gt_of h
  have h2 := lt_of h
  rcases Int.lt_trichotomy L 0 with c | c | c
  · have e1 : (FloatKind.f64.format.order l 0 == some .gt) = false := by rw [h1]; simp; omega
    have e2 : (FloatKind.f64.format.order l 0 == some .lt) = true := by rw [h2]; simpa using c
    have e3 : Hid (sgn L = -1) := by unfold Hid sgn; rw [if_neg (by omega), if_pos c]
    clear h1 h2 c h
    go_enter Try.func41, Try.ntmps41
    go_wp2
    go_ret
    exact ⟨ret_int e3.out.symm, rfl⟩
  · have e1 : (FloatKind.f64.format.order l 0 == some .gt) = false := by rw [h1]; simp; omega
    have e2 : (FloatKind.f64.format.order l 0 == some .lt) = false := by rw [h2]; simp; omega
    have e3 : Hid (sgn L = 0) := by unfold Hid sgn; rw [if_neg (by omega), if_neg (by omega)]
    clear h1 h2 c h
    go_enter Try.func41, Try.ntmps41
    go_wp2
    go_ret
    exact ⟨ret_int e3.out.symm, rfl⟩
  · have e1 : (FloatKind.f64.format.order l 0 == some .gt) = true := by rw [h1]; simpa using c
    have e3 : Hid (sgn L = 1) := by unfold Hid sgn; rw [if_pos c]
    clear h1 h2 c h
    go_enter Try.func41, Try.ntmps41
    go_wp2
    go_ret
    exact ⟨ret_int e3.out.symm, rfl⟩

theorem getLast_getD (xs : List Int) (h : xs ≠ []) : xs.getLast? = some (xs.getD (xs.length - 1) 0) := by
  have hp : 0 < xs.length := List.length_pos_iff.2 h
  rw [List.getLast?_eq_getElem?, List.getD_eq_getElem?_getD, List.getElem?_eq_getElem (by omega)]; rfl

set_option maxHeartbeats 400000 in
theorem sign_any (v : Value) (base : Nat) (bs : List Nat) (xs : List Int) (w : World) (hv : Num w base v bs) (hnm : bs.length ≤ 1000000) (his : IsL bs xs) (hno : NO xs) :
    Calls Try.prog 31 #[v] w fun e w' => e = .returned (.int .i64 (sgn xs.sum)) ∧ w' = w := by
  have hs := sgn_last xs hno
  have hl := his.length
  rcases hv.cases with ⟨rfl, rfl⟩ | ⟨g, c, rfl, _, hg, hcell⟩
  · have : xs = [] := List.eq_nil_of_length_eq_zero hl.symm
    subst this
    clear hv hs
    go_enter Try.func31, Try.ntmps31
    go_wp2
    go_ret
    exact ⟨rfl, rfl⟩
  · by_cases h0 : bs.length = 0
    · have e1 : bs = [] := List.eq_nil_of_length_eq_zero h0
      have e2 : xs = [] := List.eq_nil_of_length_eq_zero (by omega)
      subst e1 e2
      clear hv hs hcell
      go_enter Try.func31, Try.ntmps31
      go_wp2
      go_ret
      exact ⟨rfl, rfl⟩
    · obtain ⟨n, hn⟩ : ∃ n, bs.length = n + 1 := ⟨bs.length - 1, by omega⟩
      rw [hn] at hnm ⊢
      obtain ⟨b, hc, hb⟩ : ∃ b, w.cell? ⟨g, n, none⟩ = some (.float .f64 b) ∧ Is b (xs.getD n 0) := ⟨_, hcell n (by omega), his.at n (by omega)⟩
      rw [getLast_getD xs (by intro h; rw [h] at hl; exact h0 hl), show xs.length - 1 = n by omega] at hs
      have HS : Hid (sgn xs.sum = sgn (xs.getD n 0)) := hs
      clear hv hs hcell hn hl h0
      go_enter Try.func31, Try.ntmps31
      go_wp2_with (go_at_call 41; refine (sign1_any _ _ _ hb).mono ?_; rintro e w' ⟨rfl, rfl⟩)
      go_ret
      exact ⟨ret_int HS.out.symm, rfl⟩

/-- The bits with their signs turned. -/
def negs (bs : List Nat) : List Nat := bs.map (· ^^^ 9223372036854775808)

theorem negs_is : ∀ {bs : List Nat} {xs : List Int}, IsL bs xs → IsL (negs bs) (xs.map (- ·))
  | [], [], _ => trivial
  | _ :: _, _ :: _, h => ⟨is_neg h.1, negs_is h.2⟩
  | [], _ :: _, h => by cases h
  | _ :: _, [], h => by cases h

theorem neg_step (bs : List Nat) (k : Nat) (hk : k < bs.length) (b : Nat) (hb : b = bs.getD k 0) : (vals (negs (bs.take k)) ++ List.replicate (bs.length - k) (Value.float .f64 0)).set k (.float .f64 (b ^^^ 9223372036854775808)) = vals (negs (bs.take (k + 1))) ++ List.replicate (bs.length - (k + 1)) (.float .f64 0) := by
  have hl : (vals (negs (bs.take k))).length = k := by simp [vals, negs]; omega
  rw [List.set_append_right _ _ (by omega), hl, Nat.sub_self, show bs.length - k = (bs.length - (k + 1)) + 1 by omega, List.replicate_succ, List.set_cons_zero, take_snoc bs k hk]
  rw [List.getD_eq_getElem?_getD, List.getElem?_eq_getElem hk] at hb
  subst hb
  simp only [vals, negs, List.map_append, List.map_cons, List.map_nil, List.append_assoc, List.cons_append, List.nil_append, Option.getD_some]

set_option maxHeartbeats 800000 in
theorem negative_walk (g n c : Nat) (bs : List Nat) (w : World) (hn : bs.length = n) (hnm : n ≤ 1000000) (hcell : ∀ t, t < n → w.cell? ⟨g, t, none⟩ = some (.float .f64 (bs.getD t 0))) (hg : g < w.heap.size) :
    Calls Try.prog 33 #[.slice (some ⟨g, 0, none⟩) n c] w fun e w' => ∃ v', e = .returned v' ∧ NumS w' w.heap.size v' (negs bs) ∧ Below w.heap.size w w' := by
  obtain ⟨i0, hi, hz0, hz1, hz2⟩ := info_parts info53
  go_enter Try.func33, Try.ntmps33
  go_wp2_with (at_make; refine wpList_make_full _ rfl _ _ 57 rfl w.heap.size 53 i0 (.float .f64 0) 1 Try.underlying57 hi hz0 hz1 _ _ _ _ n rfl rfl (by omega) (by omega) (by rw [hz2]; omega) (by unfold maxLen; omega) (Nat.le_refl _) ?_; intro w0 hown0 hgrow0)
  have hm : (madeCells (Value.float .f64 0).cells (n * 1)).toList = List.replicate n (Value.float .f64 0) := by rw [Nat.mul_one]; exact toList_madeCells_one _ _
  rw [hm] at hown0
  clear hm
  go_wp2
  go_loopw [11] (fun si wr => ∃ (k : Nat), si = .int .i64 k ∧ k ≤ n ∧ wr.ownsRow w.heap.size 53 1 (.slice (some ⟨w.heap.size, 0, none⟩) n n) n (vals (negs (bs.take k)) ++ List.replicate (n - k) (.float .f64 0)) ∧ Below w.heap.size w wr) (fun si _ => n - (intOf si).toNat)
  case atStart => exact ⟨0, rfl, Nat.zero_le _, by simpa [vals, negs] using hown0, (Below.refl _ _).grown hgrow0 (Nat.le_refl _) (fun k h => by cases h)⟩
  case round =>
    obtain ⟨k, rfl, hk, hown, hbel⟩ := hrel
    clear hown0 hgrow0
    by_cases hlt : k < n
    · obtain ⟨b, hb, hcl⟩ : ∃ b, b = bs.getD k 0 ∧ wr.cell? ⟨g, k, none⟩ = some (.float .f64 b) := ⟨_, rfl, (hbel.cell (by exact hg)).trans (hcell k hlt)⟩
      have hf := hown.frozenAt k
      have hc2 := hown.cellAt k (by omega)
      have hst := hown.stored k (.float .f64 (b ^^^ 9223372036854775808))
      have hnx := neg_step bs k (by omega) b hb
      rw [hn] at hnx
      rw [hnx] at hst
      have HB : Hid (b = bs.getD k 0) := hb
      clear hb hnx
      obtain ⟨u, hu⟩ : ∃ u, wr.cell? ⟨w.heap.size, k, none⟩ = some u := by
        rw [hc2, List.getElem?_eq_getElem (by simp [vals, negs]; omega)]; exact ⟨_, rfl⟩
      clear hc2
      obtain ⟨hst1, hst2⟩ := hst
      have B' := hbel.grown hst2 hbel.size (fun k h => by cases h; exact Nat.le_refl _)
      clear hst2
      go_wp2
      go_roundw
      case rel => exact ⟨k + 1, by go_num, by omega, hst1, B'⟩
      case measure => simp [intOf]; omega
    · have ht : bs.take k = bs := List.take_of_length_le (by omega)
      rw [ht, show n - k = 0 by omega, List.replicate_zero, List.append_nil] at hown
      have hl : (negs bs).length = n := by simp [negs, hn]
      have hown' : Num wr w.heap.size (.slice (some ⟨w.heap.size, 0, none⟩) n n) (negs bs) := by unfold Num; rw [hl]; exact hown
      clear ht hl hown
      go_wp2
      go_ret
      exact ⟨_, rfl, ⟨hown', by simp⟩, hbel⟩

set_option maxHeartbeats 400000 in
theorem negative_nil (w : World) : Calls Try.prog 33 #[.slice none 0 0] w fun e w' => ∃ v', e = .returned v' ∧ NumS w' w.heap.size v' (negs []) ∧ Below w.heap.size w w' := by
  obtain ⟨i0, hi, hz0, hz1, hz2⟩ := info_parts info53
  go_enter Try.func33, Try.ntmps33
  go_wp2_with (at_make; refine wpList_make_own _ rfl _ _ 57 rfl w.heap.size 53 i0 (.float .f64 0) 1 Try.underlying57 hi hz0 hz1 _ _ _ 0 rfl rfl (by omega) (by rw [hz2]; omega) (by unfold maxLen; omega) (Nat.le_refl _) ?_; intro w0 hown0 hgrow0)
  go_wp2
  refine wp_loop_rounds 1 ?_
  rw [rounds_succ]
  go_wp2
  go_ret
  exact ⟨_, rfl, ⟨hown0, by simp⟩, (Below.refl _ _).grown hgrow0 (Nat.le_refl _) (fun k h => by cases h)⟩

theorem negative_any (v : Value) (base : Nat) (bs : List Nat) (w : World) (hv : Num w base v bs) (hnm : bs.length ≤ 1000000) :
    Calls Try.prog 33 #[v] w fun e w' => ∃ v', e = .returned v' ∧ NumS w' w.heap.size v' (negs bs) ∧ Below w.heap.size w w' := by
  rcases hv.cases with ⟨rfl, rfl⟩ | ⟨g, c, rfl, _, hg, hcell⟩
  · exact negative_nil w
  · exact negative_walk g _ c bs w rfl hnm hcell hg

end Go.Proofs.Ytbjjkfmdkmbcfaa
