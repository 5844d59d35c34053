import Derived.Test.YtbjjkfmdkmbcfaaNw
namespace Go.Proofs.Ytbjjkfmdkmbcfaa
open Go.RowKit
open PlRd

/-- x * y in units, where both are in units. -/
def mulU (x y : Int) : Int := x * y / 2 ^ 1074

/-- The parts of one row of products, of all rows. -/
def rowParts (x : Int) (ys : List Int) : List Int := ys.flatMap fun y => [mulU x y - rnd (mulU x y), rnd (mulU x y)]
def prodParts (xs ys : List Int) : List Int := xs.flatMap fun x => rowParts x ys

theorem rowParts_snoc (x : Int) (ys : List Int) (y : Int) : rowParts x (ys ++ [y]) = rowParts x ys ++ [mulU x y - rnd (mulU x y), rnd (mulU x y)] := by simp [rowParts]
theorem prodParts_snoc (xs ys : List Int) (x : Int) : prodParts (xs ++ [x]) ys = prodParts xs ys ++ rowParts x ys := by simp [prodParts]

theorem rowParts_length (x : Int) (ys : List Int) : (rowParts x ys).length = 2 * ys.length := by
  induction ys with
  | nil => rfl
  | cons y ys ih => simp only [rowParts, List.flatMap_cons, List.length_append, List.length_cons, List.length_nil] at ih ⊢; omega

theorem prodParts_length (xs ys : List Int) : (prodParts xs ys).length = 2 * xs.length * ys.length := by
  induction xs with
  | nil => simp [prodParts]
  | cons x xs ih =>
    have h : prodParts (x :: xs) ys = rowParts x ys ++ prodParts xs ys := by simp [prodParts]
    rw [h, List.length_append, rowParts_length, ih, List.length_cons, Nat.mul_add, Nat.add_mul]
    omega

theorem mulU_eq {x y : Int} {a b : Nat} (hx : (2 : Int) ^ a ∣ x) (hy : (2 : Int) ^ b ∣ y) (hab : 1074 ≤ a + b) : x * y = mulU x y * 2 ^ 1074 := by
  obtain ⟨m, rfl⟩ := hx
  obtain ⟨n, rfl⟩ := hy
  have h : (2 : Int) ^ 1074 ∣ 2 ^ a * m * (2 ^ b * n) := by
    refine Int.dvd_trans (pow_dvd hab) ?_
    rw [Int.pow_add]
    exact ⟨m * n, by rw [Int.mul_assoc, Int.mul_assoc, ← Int.mul_assoc m, Int.mul_comm m, Int.mul_assoc (2 ^ b)]⟩
  exact (Int.ediv_mul_cancel h).symm

theorem mul4 (p m q n : Int) : p * m * (q * n) = (p * q) * (m * n) := by
  rw [Int.mul_assoc, ← Int.mul_assoc m, Int.mul_comm m, Int.mul_assoc q, ← Int.mul_assoc p]

theorem mulU_dvd {x y : Int} {a b : Nat} (hx : (2 : Int) ^ a ∣ x) (hy : (2 : Int) ^ b ∣ y) (hab : 1074 ≤ a + b) : (2 : Int) ^ (a + b - 1074) ∣ mulU x y := by
  have h := mulU_eq hx hy hab
  obtain ⟨m, rfl⟩ := hx
  obtain ⟨n, rfl⟩ := hy
  have hp := two_pow_pos 1074
  have e1 : (2 : Int) ^ a * 2 ^ b = 2 ^ (a + b - 1074) * 2 ^ 1074 := by
    rw [← Int.pow_add, ← Int.pow_add, Nat.sub_add_cancel hab]
  generalize (2 : Int) ^ 1074 = E at *
  rw [mul4, e1, Int.mul_assoc, Int.mul_comm E, ← Int.mul_assoc] at h
  exact ⟨m * n, (Int.eq_of_mul_eq_mul_right (by omega) h).symm⟩

/-- What stands at each step of 'Product': the parts so far, in the new row. -/
structure PRel (w wr : World) (n : Nat) (ps : List Int) (hs : List Nat) : Prop where
  hl : IsL hs ps
  own : wr.ownsRow w.heap.size 53 1 (.slice (some ⟨w.heap.size, 0, none⟩) hs.length n) hs.length (vals hs)
  below : Below w.heap.size w wr

theorem prod_room {n n2 k j N : Nat} (hN : N = 2 * n * n2) (hk : k < n) (hj : j < n2) : 2 * k * n2 + 2 * j + 2 ≤ N := by
  have h1 : (k + 1) * n2 ≤ n * n2 := Nat.mul_le_mul_right _ hk
  rw [Nat.add_mul] at h1
  rw [hN, Nat.mul_assoc, Nat.mul_assoc]
  omega

theorem wrap_prod {n n2 N : Nat} (hnm : n ≤ 1000) (hnm2 : n2 ≤ 1000) (hN : N = 2 * n * n2) : wrap64 (2 * (n : Int) * (n2 : Int)) = (N : Int) := by
  have h : n * n2 ≤ 1000 * 1000 := Nat.mul_le_mul hnm hnm2
  have e : (2 * (n : Int) * (n2 : Int)) = (N : Int) := by rw [hN]; simp
  rw [e]
  have hN' : N ≤ 2000000 := by rw [hN, Nat.mul_assoc]; omega
  unfold wrap64
  omega

theorem PRel.len {w wr : World} {N : Nat} {xs ys : List Int} {k j n n2 : Nat} {x : Int} {hs : List Nat} (R : PRel w wr N (prodParts (xs.take k) ys ++ rowParts x (ys.take j)) hs) (hx : xs.length = n) (hy : ys.length = n2) (hk : k ≤ n) (hj : j ≤ n2) : hs.length = 2 * k * n2 + 2 * j := by
  have := R.hl.length
  rw [this, List.length_append, prodParts_length, rowParts_length, List.length_take, List.length_take, hx, hy, Nat.min_eq_left hk, Nat.min_eq_left hj]

theorem PRel.push {w wr w1 : World} {N : Nat} {ps : List Int} {hs : List Nat} {h l : Nat} {H L : Int} {o : Obj} (R : PRel w wr N ps hs) (hl : Is l L) (hh : Is h H)
    (h1 : w1.ownsRow w.heap.size 53 1 (.slice (some ⟨w.heap.size, 0, none⟩) (hs.length + 2) N) (hs.length + 2) (vals hs ++ [.float .f64 l, .float .f64 h])) (h2 : (wr.alloc o).grownBy w1 (some w.heap.size)) :
    PRel w w1 N (ps ++ [L, H]) (hs ++ [l, h]) := by
  refine ⟨R.hl.append ⟨hl, hh, trivial⟩, ?_, (R.below.alloc R.below.size o).grown h2 (by have := R.below.size; simp; omega) (fun k h => by cases h; exact Nat.le_refl _)⟩
  have e : (hs ++ [l, h]).length = hs.length + 2 := by simp
  rw [e]
  simpa [vals] using h1

set_option maxHeartbeats 1600000 in
set_option maxRecDepth 100000 in
theorem product_walk (g n c g2 n2 c2 : Nat) (bs cs : List Nat) (xs ys : List Int) (a b T : Nat) (w : World) (hn : bs.length = n) (hn2 : cs.length = n2) (hnm : n ≤ 1000) (hnm2 : n2 ≤ 1000)
    (hNs : 2 * n * n2 ≤ 1000000)
    (hcell : ∀ t, t < n → w.cell? ⟨g, t, none⟩ = some (.float .f64 (bs.getD t 0))) (hg : g < w.heap.size)
    (hcell2 : ∀ t, t < n2 → w.cell? ⟨g2, t, none⟩ = some (.float .f64 (cs.getD t 0))) (hg2 : g2 < w.heap.size)
    (his : IsL bs xs) (his2 : IsL cs ys) (hda : ∀ x ∈ xs, (2 : Int) ^ a ∣ x) (hdb : ∀ y ∈ ys, (2 : Int) ^ b ∣ y) (hab : 1074 ≤ a + b) (hmT : ∀ x ∈ xs, ∀ y ∈ ys, 2 * (mulU x y).natAbs < LIM) (hxT : absSum (prodParts xs ys) ≤ T) (hT : 2048 * T < LIM) :
    Calls Try.prog 28 #[.slice (some ⟨g, 0, none⟩) n c, .slice (some ⟨g2, 0, none⟩) n2 c2] w fun e w' => ∃ v' ds, e = .returned v' ∧ NumS w' w.heap.size v' ds ∧ IsL ds (sumAll (prodParts xs ys)) ∧ Below w.heap.size w w' := by
  obtain ⟨i0, hi, hz0, hz1, hz2⟩ := info_parts info53
  have hxl : xs.length = n := by rw [← his.length, hn]
  have hyl : ys.length = n2 := by rw [← his2.length, hn2]
  obtain ⟨N, hNe⟩ : ∃ N, N = 2 * n * n2 := ⟨_, rfl⟩
  rw [← hNe] at hNs
  have HW : Hid (wrap64 (2 * (n : Int) * (n2 : Int)) = (N : Int)) := wrap_prod hnm hnm2 hNe
  have HN : Hid (N = 2 * n * n2) := hNe
  have HM : Hid (∀ x ∈ xs, ∀ y ∈ ys, x * y = mulU x y * 2 ^ 1074 ∧ 2 * (mulU x y).natAbs < LIM) := fun x hx y hy => ⟨mulU_eq (hda x hx) (hdb y hy) hab, hmT x hx y hy⟩
  clear hda hdb hab hmT hNe
  go_enter Try.func28, Try.ntmps28
  go_wp2_with (at_make; refine wpList_make_own _ rfl _ _ 56 rfl w.heap.size 53 i0 (.float .f64 0) 1 Try.underlying56 hi hz0 hz1 _ _ _ N rfl rfl HW.out (by rw [hz2]; omega) (by unfold maxLen; omega) (Nat.le_refl _) ?_; intro w0 hown0 hgrow0)
  have R0 : PRel w w0 N [] [] := ⟨trivial, hown0, (Below.refl _ _).grown hgrow0 (Nat.le_refl _) (fun k h => by cases h)⟩
  clear hown0 hgrow0
  go_wp2
  go_loopw [5, 21] (fun so si wr => ∃ (k : Nat) (hs : List Nat), si = .int .i64 k ∧ k ≤ n ∧ so = .slice (some ⟨w.heap.size, 0, none⟩) hs.length N ∧ PRel w wr N (prodParts (xs.take k) ys) hs) (fun _ si _ => n - (intOf si).toNat)
  case atStart => exact ⟨0, [], rfl, Nat.zero_le _, rfl, by simpa [prodParts] using R0⟩
  case round =>
    obtain ⟨k, hs, rfl, hk, rfl, R⟩ := hrel
    clear R0
    by_cases hlt : k < n
    · obtain ⟨q, hcl, hq⟩ : ∃ q, wr.cell? ⟨g, k, none⟩ = some (.float .f64 q) ∧ Is q (xs.getD k 0) := ⟨_, (R.below.cell (by exact hg)).trans (hcell k hlt), his.at k (by omega)⟩
      have hxm : xs.getD k 0 ∈ xs := getD_mem xs k (by omega)
      have HTk : Hid (prodParts (xs.take (k + 1)) ys = prodParts (xs.take k) ys ++ rowParts (xs.getD k 0) ys) := by unfold Hid; rw [take_next (l := xs) (k := k) (by omega), prodParts_snoc]
      generalize xs.getD k 0 = X at *
      go_wp2
      go_loopw [5, 27] (fun so si wr => ∃ (j : Nat) (hs : List Nat), si = .int .i64 j ∧ j ≤ n2 ∧ so = .slice (some ⟨w.heap.size, 0, none⟩) hs.length N ∧ PRel w wr N (prodParts (xs.take k) ys ++ rowParts X (ys.take j)) hs) (fun _ si _ => n2 - (intOf si).toNat)
      case atStart => exact ⟨0, hs, rfl, Nat.zero_le _, rfl, by simpa [rowParts] using R⟩
      case round =>
        obtain ⟨j, hs2, rfl, hj, rfl, R2⟩ := hrel
        clear R hcl
        have hlen := R2.len hxl hyl hk hj
        by_cases hlt2 : j < n2
        · obtain ⟨q2, hcl2, hq2⟩ : ∃ q2, wr.cell? ⟨g2, j, none⟩ = some (.float .f64 q2) ∧ Is q2 (ys.getD j 0) := ⟨_, (R2.below.cell (by exact hg2)).trans (hcell2 j hlt2), his2.at j (by omega)⟩
          have hym : ys.getD j 0 ∈ ys := getD_mem ys j (by omega)
          have HTj : Hid (rowParts X (ys.take (j + 1)) = rowParts X (ys.take j) ++ [mulU X (ys.getD j 0) - rnd (mulU X (ys.getD j 0)), rnd (mulU X (ys.getD j 0))]) := by unfold Hid; rw [take_next (l := ys) (k := j) (by omega), rowParts_snoc]
          have hroom : hs2.length + 2 ≤ N := by have := prod_room HN.out hlt hlt2; omega
          have hmm := HM.out X hxm _ hym
          generalize ys.getD j 0 = Y at *
          obtain ⟨Z, hZ⟩ : ∃ Z, Z = mulU X Y := ⟨_, rfl⟩
          have HZ : Hid (X * Y = Z * 2 ^ 1074 ∧ 2 * Z.natAbs < LIM) := by unfold Hid; rw [hZ]; exact hmm
          rw [← hZ] at HTj
          clear hmm hZ hlen
          have HO : Hid (∀ o, (wr.alloc o).ownsRow w.heap.size 53 1 (.slice (some ⟨w.heap.size, 0, none⟩) hs2.length N) hs2.length (vals hs2)) := fun o => R2.own.alloc o
          go_wp2_with (first | (go_at_call 39; refine (twoProduct_any _ _ _ _ _ _ hq hq2 HZ.out.1 HZ.out.2).mono ?_; rintro e w' ⟨h, l, rfl, hh, hl, rfl⟩) | (at_builtin; refine wpList_append_fits _ rfl _ _ 56 rfl w.heap.size 53 i0 1 Try.underlying56 hi hz1 w.heap.size hs2.length N _ rfl (HO.out _) ⟨_, 0, none⟩ 2 2 [.float .f64 l, .float .f64 h] rfl rfl (cell_two_new _ _ _ _) (by intro u hu; simp at hu; rcases hu with rfl | rfl <;> rfl) (by omega) ?_; intro w1 h1 h2))
          have R3 := R2.push hl hh h1 h2
          rw [List.append_assoc, ← HTj.out] at R3
          clear R2 HO h1 h2
          go_roundw
          case rel => exact ⟨j + 1, hs2 ++ [l, h], by go_num, by omega, by simp, R3⟩
          case measure => simp [intOf]; omega
        · have ht : ys.take j = ys := List.take_of_length_le (by omega)
          rw [ht, ← HTk.out] at R2
          clear ht hlen
          go_wp2
          go_roundw
          case rel => exact ⟨k + 1, hs2, by go_num, by omega, rfl, R2⟩
          case measure => simp [intOf]; omega
    · have ht : xs.take k = xs := List.take_of_length_le (by omega)
      rw [ht] at R
      have hl := R.hl
      have hlen : hs.length ≤ 1000000 := by
        rw [hl.length, prodParts_length, hxl, hyl, ← HN.out]; omega
      have hown : Num wr w.heap.size (.slice (some ⟨w.heap.size, 0, none⟩) hs.length N) hs := R.own
      have hbel := R.below
      clear R ht
      go_wp2_with (go_at_call 38; refine (sum_any _ _ hs _ T _ hown hlen hl hxT hT).mono ?_; rintro e w' ⟨v', ds, rfl, hnum, hds, hb2⟩)
      go_ret
      have hsz := hbel.size
      exact ⟨v', ds, rfl, hnum.base hsz, hds, hbel.trans (hb2.mono hsz)⟩

theorem product_any (v v2 : Value) (base base2 : Nat) (bs cs : List Nat) (xs ys : List Int) (a b T : Nat) (w : World) (hv : NumS w base v bs) (hv2 : NumS w base2 v2 cs) (hnm : bs.length ≤ 1000) (hnm2 : cs.length ≤ 1000)
    (hNs : 2 * bs.length * cs.length ≤ 1000000) (his : IsL bs xs) (his2 : IsL cs ys) (hda : ∀ x ∈ xs, (2 : Int) ^ a ∣ x) (hdb : ∀ y ∈ ys, (2 : Int) ^ b ∣ y) (hab : 1074 ≤ a + b) (hmT : ∀ x ∈ xs, ∀ y ∈ ys, 2 * (mulU x y).natAbs < LIM) (hxT : absSum (prodParts xs ys) ≤ T) (hT : 2048 * T < LIM) :
    Calls Try.prog 28 #[v, v2] w fun e w' => ∃ v' ds, e = .returned v' ∧ NumS w' w.heap.size v' ds ∧ IsL ds (sumAll (prodParts xs ys)) ∧ Below w.heap.size w w' := by
  obtain ⟨g, c, rfl, _, hg, hcell⟩ := hv.cases
  obtain ⟨g2, c2, rfl, _, hg2, hcell2⟩ := hv2.cases
  exact product_walk g _ c g2 _ c2 bs cs xs ys a b T w rfl rfl hnm hnm2 hNs hcell hg hcell2 hg2 his his2 hda hdb hab hmT hxT hT

set_option maxHeartbeats 400000 in
theorem square_any (v : Value) (base : Nat) (bs : List Nat) (xs : List Int) (a T : Nat) (w : World) (hv : NumS w base v bs) (hnm : bs.length ≤ 500)
    (his : IsL bs xs) (hda : ∀ x ∈ xs, (2 : Int) ^ a ∣ x) (hab : 1074 ≤ a + a) (hmT : ∀ x ∈ xs, ∀ y ∈ xs, 2 * (mulU x y).natAbs < LIM) (hxT : absSum (prodParts xs xs) ≤ T) (hT : 2048 * T < LIM) :
    Calls Try.prog 40 #[v] w fun e w' => ∃ v' ds, e = .returned v' ∧ NumS w' w.heap.size v' ds ∧ IsL ds (sumAll (prodParts xs xs)) ∧ Below w.heap.size w w' := by
  have hN : 2 * bs.length * bs.length ≤ 1000000 := by
    have : bs.length * bs.length ≤ 500 * 500 := Nat.mul_le_mul hnm hnm
    rw [Nat.mul_assoc]; omega
  have HC : Hid (∀ W, NumS W base v bs → Calls Try.prog 28 #[v, v] W fun e w' => ∃ v' ds, e = .returned v' ∧ NumS w' W.heap.size v' ds ∧ IsL ds (sumAll (prodParts xs xs)) ∧ Below W.heap.size W w') :=
    fun W hW => product_any v v base base bs bs xs xs a a T W hW hW (by omega) (by omega) hN his his hda hda hab hmT hxT hT
  clear hda hab hmT hxT hN
  go_enter Try.func40, Try.ntmps40
  go_wp2_with (go_at_call 28; refine (HC.out _ hv).mono ?_; rintro e w' ⟨v', ds, rfl, h1, h2, h3⟩)
  go_ret
  exact ⟨v', ds, rfl, h1, h2, h3⟩

end Go.Proofs.Ytbjjkfmdkmbcfaa
