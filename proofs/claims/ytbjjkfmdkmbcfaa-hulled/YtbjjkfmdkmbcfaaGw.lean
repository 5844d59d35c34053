import Derived.Test.YtbjjkfmdkmbcfaaFw
namespace Go.Proofs.Ytbjjkfmdkmbcfaa
open Go.RowKit
open PlRd

theorem info53 : (Try.prog.info? 53).map (fun i => (i.zero, i.size, i.bytes)) = some (some (.float .f64 0), 1, 8) := by kernel_rfl

theorem ne_of_zero {l : Nat} {L : Int} (h : Is l L) (hz : L = 0) : (FloatKind.f64.format.order l 0 != some .eq) = false := by
  have : FloatKind.f64.format.order l 0 = some (compare L 0) := is_order h is_zero
  rw [this, hz]; rfl

theorem ne_of_not {l : Nat} {L : Int} (h : Is l L) (hz : L ≠ 0) : (FloatKind.f64.format.order l 0 != some .eq) = true := by
  have : FloatKind.f64.format.order l 0 = some (compare L 0) := is_order h is_zero
  rw [this]
  have : compare L 0 ≠ .eq := fun h => hz (by simpa using h)
  simp [this]

/-- What stands at each step of 'grow'. -/
structure GRel (w wr : World) (g n cap : Nat) (bs : List Nat) (xs : List Int) (Q : Int) (k q : Nat) (hs : List Nat) (cur : Array Value) : Prop where
  hk : k ≤ n
  hq : Is q (gq Q (xs.take k))
  hl : IsL hs (gh Q (xs.take k))
  row : wr.heap[g]? = some (.cells cur 53 (0, 0))
  size : cur.size = cap
  took : cur.toList.take hs.length = vals hs
  later : ∀ t, k ≤ t → t < n → cur.toList[t]? = some (.float .f64 (bs.getD t 0))
  by' : w.grownBy wr (some g)

theorem grownBy_trans {a b c : World} {row : Option Nat} (h : a.grownBy b row) (k : b.grownBy c row) : a.grownBy c row :=
  ⟨k.os.trans h.os, k.tape.trans h.tape, k.output.trans h.output, Nat.le_trans h.size k.size, fun i hi hr => (k.block i (Nat.lt_of_lt_of_le hi h.size) hr).trans (h.block i hi hr)⟩

theorem lt_of_row {w : World} {g : Nat} {o : Obj} (h : w.heap[g]? = some o) : g < w.heap.size := (Array.getElem?_eq_some_iff.1 h).1

theorem getD_eq {l : List Int} {k : Nat} (h : k < l.length) : l.getD k 0 = l[k] := by
  rw [List.getD_eq_getElem?_getD, List.getElem?_eq_getElem h]; rfl

theorem take_next {l : List Int} {k : Nat} (h : k < l.length) : l.take (k + 1) = l.take k ++ [l.getD k 0] := by
  rw [take_snoc l k h, getD_eq h]

section
variable {w wr : World} {g n cap : Nat} {bs : List Nat} {xs : List Int} {Q : Int} {k q : Nat} {hs : List Nat} {cur : Array Value}

theorem GRel.le (R : GRel w wr g n cap bs xs Q k q hs cur) : hs.length ≤ k := by
  have h1 := R.hl.length
  have h2 := gh_length (xs.take k) Q
  rw [List.length_take] at h2
  omega

theorem GRel.cell (R : GRel w wr g n cap bs xs Q k q hs cur) (hlt : k < n) : wr.cell? ⟨g, k, none⟩ = some (.float .f64 (bs.getD k 0)) := by
  rw [cell_of_row wr g k cur 53 (0, 0) R.row]
  have := R.later k (Nat.le_refl _) hlt
  simpa using this

theorem GRel.skip (R : GRel w wr g n cap bs xs Q k q hs cur) (hlt : k < n) (hx : xs.length = n) {h : Nat} (hh : Is h (rnd (gq Q (xs.take k) + xs.getD k 0))) (hL : gq Q (xs.take k) + xs.getD k 0 - rnd (gq Q (xs.take k) + xs.getD k 0) = 0) :
    GRel w wr g n cap bs xs Q (k + 1) h hs cur := by
  have ht := take_next (l := xs) (k := k) (by omega)
  refine ⟨by omega, ?_, ?_, R.row, R.size, R.took, fun t h1 h2 => R.later t (by omega) h2, R.by'⟩
  · rw [ht, gq_snoc]; exact hh
  · rw [ht, gh_snoc, if_pos hL, List.append_nil]; exact R.hl

theorem took_push (cur : Array Value) (hs : List Nat) (l cap : Nat) (hsize : cur.size = cap) (ht : cur.toList.take hs.length = vals hs) (hc : hs.length + 1 ≤ cap) :
    (cur.toList.take hs.length ++ ([Value.float .f64 l] ++ cur.toList.drop (hs.length + 1))).toArray.size = cap ∧
    (cur.toList.take hs.length ++ ([Value.float .f64 l] ++ cur.toList.drop (hs.length + 1))).toArray.toList.take (hs ++ [l]).length = vals (hs ++ [l]) := by
  constructor
  · simp; omega
  · rw [ht]
    have e : vals hs ++ ([Value.float .f64 l] ++ cur.toList.drop (hs.length + 1)) = vals (hs ++ [l]) ++ cur.toList.drop (hs.length + 1) := by simp [vals]
    have e2 : (vals (hs ++ [l])).length = (hs ++ [l]).length := by simp [vals]
    rw [e, ← e2]
    exact List.take_left

theorem GRel.push (R : GRel w wr g n cap bs xs Q k q hs cur) (hlt : k < n) (hx : xs.length = n) (hcap : n + 1 ≤ cap) {h l : Nat} (hh : Is h (rnd (gq Q (xs.take k) + xs.getD k 0))) (hl : Is l (gq Q (xs.take k) + xs.getD k 0 - rnd (gq Q (xs.take k) + xs.getD k 0)))
    (hL : gq Q (xs.take k) + xs.getD k 0 - rnd (gq Q (xs.take k) + xs.getD k 0) ≠ 0) {o : Obj} {w1 : World}
    (h1 : w1.heap[g]? = some (.cells (cur.toList.take hs.length ++ ([Value.float .f64 l] ++ cur.toList.drop (hs.length + 1))).toArray 53 (0, 0))) (h2 : (wr.alloc o).grownBy w1 (some g)) :
    GRel w w1 g n cap bs xs Q (k + 1) h (hs ++ [l]) (cur.toList.take hs.length ++ ([Value.float .f64 l] ++ cur.toList.drop (hs.length + 1))).toArray := by
  have ht := take_next (l := xs) (k := k) (by omega)
  have hle := R.le
  have htp := took_push cur hs l cap R.size R.took (by omega)
  refine ⟨by omega, ?_, ?_, h1, htp.1, htp.2, fun t h3 h4 => ?_, grownBy_trans (grownBy_trans R.by' (World.grownBy_alloc wr o _)) h2⟩
  · rw [ht, gq_snoc]; exact hh
  · rw [ht, gh_snoc, if_neg hL]; exact R.hl.append ⟨hl, trivial⟩
  · have h5 := R.later t (by omega) h4
    rw [← h5]
    have hlen : (cur.toList.take hs.length).length = hs.length := by have := R.size; rw [List.length_take]; simp only [Array.length_toList]; omega
    show (cur.toList.take hs.length ++ ([Value.float .f64 l] ++ cur.toList.drop (hs.length + 1)))[t]? = _
    rw [List.getElem?_append_right (by omega), hlen, List.getElem?_append_right (by simp; omega), List.getElem?_drop]
    congr 1
    simp
    omega
end

set_option maxHeartbeats 800000 in
theorem grow_walk (g n cap q0 : Nat) (bs : List Nat) (xs : List Int) (Q : Int) (T : Nat) (w : World) (cur0 : Array Value) (hn : bs.length = n) (hcap : n + 1 ≤ cap) (hcm : cap ≤ 1000000) (hrow : w.heap[g]? = some (.cells cur0 53 (0, 0))) (hsize : cur0.size = cap)
    (htake : cur0.toList.take n = vals bs) (his : IsL bs xs) (hq0 : Is q0 Q) (hno : NO xs) (hQT : Q.natAbs ≤ T) (hxT : ∀ x ∈ xs, x.natAbs ≤ 2 * T) (hT : 2048 * T < LIM) :
    Calls Try.prog 51 #[.slice (some ⟨g, 0, none⟩) n cap, .float .f64 q0] w fun e w' => ∃ hs cur, e = .returned (.slice (some ⟨g, 0, none⟩) hs.length cap) ∧ IsL hs (grow Q xs) ∧
      w'.heap[g]? = some (.cells cur 53 (0, 0)) ∧ cur.size = cap ∧ cur.toList.take hs.length = vals hs ∧ w.grownBy w' (some g) := by
  obtain ⟨i0, hi, hz0, hz1, hz2⟩ := info_parts info53
  have hxl : xs.length = n := by rw [← his.length, hn]
  have R0 : GRel w w g n cap bs xs Q 0 q0 [] cur0 := by
    refine ⟨Nat.zero_le _, by simpa [gq] using hq0, by simp [gh, IsL], hrow, hsize, by simp [vals], fun t _ ht => ?_, World.grownBy.refl _ _⟩
    have h1 : cur0.toList[t]? = (cur0.toList.take n)[t]? := by rw [List.getElem?_take, if_pos ht]
    rw [h1, htake, vals, List.getElem?_map, List.getD_eq_getElem?_getD, List.getElem?_eq_getElem (by omega)]
    rfl
  have hQf : Fl Q := hq0.fl
  clear htake hq0 hrow hsize
  go_enter Try.func51, Try.ntmps51
  go_wp2
  go_loopw [1, 5, 14] (fun sx so si wr => ∃ (k q : Nat) (hs : List Nat) (cur : Array Value), si = .int .i64 k ∧ sx = .float .f64 q ∧ so = .slice (some ⟨g, 0, none⟩) hs.length cap ∧ GRel w wr g n cap bs xs Q k q hs cur) (fun _ _ si _ => n - (intOf si).toNat)
  case atStart => exact ⟨0, q0, [], cur0, rfl, rfl, rfl, R0⟩
  case round =>
    obtain ⟨k, q, hs, cur, rfl, rfl, rfl, R⟩ := hrel
    clear R0
    have hk := R.hk
    have hle := R.le
    by_cases hlt : k < n
    · obtain ⟨b, hcell, hb⟩ : ∃ b, wr.cell? ⟨g, k, none⟩ = some (.float .f64 b) ∧ Is b (xs.getD k 0) := ⟨_, R.cell hlt, his.at k (by omega)⟩
      have B1 : (gq Q (xs.take k)).natAbs ≤ 11 * T := Nat.le_trans (gq_le T _ Q hQf (no_take xs hno k) hQT (fun e he => hxT e (List.mem_of_mem_take he))) (by omega)
      have B2 : (xs.getD k 0).natAbs ≤ 11 * T := Nat.le_trans (hxT _ (getD_mem xs k (by omega))) (by omega)
      by_cases hL : gq Q (xs.take k) + xs.getD k 0 - rnd (gq Q (xs.take k) + xs.getD k 0) = 0
      · have HL : Hid (gq Q (xs.take k) + xs.getD k 0 - rnd (gq Q (xs.take k) + xs.getD k 0) = 0) := hL
        clear hL
        go_wp2_with (go_at_call 67; refine (twoSum_any _ _ _ _ (11 * T) _ R.hq hb B1 B2 (by omega)).mono ?_; rintro e w' ⟨h, l, rfl, hh, hl, rfl⟩; have ho := ne_of_zero hl HL.out)
        go_roundw
        case rel => exact ⟨k + 1, h, hs, cur, by go_num, rfl, rfl, R.skip hlt hxl hh HL.out⟩
        case measure => simp [intOf]; omega
      · have HL : Hid (gq Q (xs.take k) + xs.getD k 0 - rnd (gq Q (xs.take k) + xs.getD k 0) ≠ 0) := hL
        clear hL
        have hgl := lt_of_row R.row
        have R' : ∀ o, (wr.alloc o).heap[g]? = some (.cells cur 53 (0, 0)) := fun o => (Below.heap_alloc wr o g hgl).trans R.row
        go_wp2_with (first | (go_at_call 67; refine (twoSum_any _ _ _ _ (11 * T) _ R.hq hb B1 B2 (by omega)).mono ?_; rintro e w' ⟨h, l, rfl, hh, hl, rfl⟩; have ho := ne_of_not hl HL.out) | (at_builtin; refine wpList_append_row _ rfl _ _ 57 rfl 53 i0 Try.underlying57 hi hz1 g hs.length cap cur rfl (R' _) R.size ⟨_, 0, none⟩ 1 1 [.float .f64 l] rfl rfl (cell_one_new _ _ _) (by intro u hu; simp at hu; subst hu; rfl) (by omega) ?_; intro w1 h1 h2))
        have R1 := R.push hlt hxl hcap hh hl HL.out h1 h2
        clear R R'
        go_roundw
        case rel => exact ⟨k + 1, h, hs ++ [l], _, by go_num, rfl, by simp, R1⟩
        case measure => simp [intOf]; omega
    · have hkn : k = n := by omega
      have ht : xs.take k = xs := List.take_of_length_le (by omega)
      have hq := R.hq
      have hl := R.hl
      rw [ht] at hq hl
      have HT : Hid (xs.take k = xs) := ht
      clear ht
      have hgl := lt_of_row R.row
      have R' : ∀ o, (wr.alloc o).heap[g]? = some (.cells cur 53 (0, 0)) := fun o => (Below.heap_alloc wr o g hgl).trans R.row
      have hge := grow_eq xs Q
      by_cases hz : gq Q xs = 0
      · have HZ : Hid (gq Q xs = 0) := hz
        have ho := ne_of_zero hq hz
        rw [if_pos hz, List.append_nil] at hge
        have HG : Hid (grow Q xs = gh Q xs) := hge
        clear hz hge
        go_wp2
        go_ret
        exact ⟨hs, cur, rfl, by rw [HG.out]; exact hl, R.row, R.size, R.took, R.by'⟩
      · have HZ : Hid (gq Q xs ≠ 0) := hz
        have ho := ne_of_not hq hz
        rw [if_neg hz] at hge
        have HG : Hid (grow Q xs = gh Q xs ++ [gq Q xs]) := hge
        clear hz hge
        go_wp2_with (at_builtin; refine wpList_append_row _ rfl _ _ 57 rfl 53 i0 Try.underlying57 hi hz1 g hs.length cap cur rfl (R' _) R.size ⟨_, 0, none⟩ 1 1 [.float .f64 q] rfl rfl (cell_one_new _ _ _) (by intro u hu; simp at hu; subst hu; rfl) (by omega) ?_; intro w1 h1 h2)
        have htp := took_push cur hs q cap R.size R.took (by omega)
        go_ret
        refine ⟨hs ++ [q], _, by simp, ?_, h1, htp.1, htp.2, grownBy_trans (grownBy_trans R.by' (World.grownBy_alloc wr _ _)) h2⟩
        rw [HG.out]; exact hl.append ⟨hq, trivial⟩

end Go.Proofs.Ytbjjkfmdkmbcfaa
