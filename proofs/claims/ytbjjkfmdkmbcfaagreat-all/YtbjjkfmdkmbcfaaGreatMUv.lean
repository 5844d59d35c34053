import Derived.Test.YtbjjkfmdkmbcfaaGreatMNw
import Derived.Deep.RegionHeld3
import Derived.Deep.DeepCutAuto
import Derived.Deep.DrawnRows
namespace Go.Proofs.YtbjjkfmdkmbcfaaGreat
open Go.RowKit
open PlRd

/-- x * y in units, where both are in units. -/
def mulU (x y : Int) : Int := x * y / 2 ^ 1074

/-- The parts of one row of products, of all rows. -/
def rowParts (x : Int) (ys : List Int) : List Int := ys.flatMap fun y => [mulU x y - rnd (mulU x y), rnd (mulU x y)]
def prodParts (xs ys : List Int) : List Int := xs.flatMap fun x => rowParts x ys

theorem rowParts_snoc (x : Int) (ys : List Int) (y : Int) : rowParts x (ys ++ [y]) = rowParts x ys ++ [mulU x y - rnd (mulU x y), rnd (mulU x y)] := by simp [rowParts]
theorem prodParts_snoc (xs ys : List Int) (x : Int) : prodParts (xs ++ [x]) ys = prodParts xs ys ++ rowParts x ys := by simp [prodParts]

theorem rowParts_length (x : Int) (ys : List Int) : (rowParts x ys).length = 2 * ys.length := by
  induction ys with
  | nil => rfl
  | cons y ys ih => simp only [rowParts, List.flatMap_cons, List.length_append, List.length_cons, List.length_nil] at ih ⊢; omega

theorem prodParts_length (xs ys : List Int) : (prodParts xs ys).length = 2 * xs.length * ys.length := by
  induction xs with
  | nil => simp [prodParts]
  | cons x xs ih =>
    have h : prodParts (x :: xs) ys = rowParts x ys ++ prodParts xs ys := by simp [prodParts]
    rw [h, List.length_append, rowParts_length, ih, List.length_cons, Nat.mul_add, Nat.add_mul]
    omega

theorem mulU_eq {x y : Int} {a b : Nat} (hx : (2 : Int) ^ a ∣ x) (hy : (2 : Int) ^ b ∣ y) (hab : 1074 ≤ a + b) : x * y = mulU x y * 2 ^ 1074 := by
  obtain ⟨m, rfl⟩ := hx
  obtain ⟨n, rfl⟩ := hy
  have h : (2 : Int) ^ 1074 ∣ 2 ^ a * m * (2 ^ b * n) := by
    refine Int.dvd_trans (pow_dvd hab) ?_
    rw [Int.pow_add]
    exact ⟨m * n, by rw [Int.mul_assoc, Int.mul_assoc, ← Int.mul_assoc m, Int.mul_comm m, Int.mul_assoc (2 ^ b)]⟩
  exact (Int.ediv_mul_cancel h).symm

theorem mul4 (p m q n : Int) : p * m * (q * n) = (p * q) * (m * n) := by
  rw [Int.mul_assoc, ← Int.mul_assoc m, Int.mul_comm m, Int.mul_assoc q, ← Int.mul_assoc p]

theorem mulU_dvd {x y : Int} {a b : Nat} (hx : (2 : Int) ^ a ∣ x) (hy : (2 : Int) ^ b ∣ y) (hab : 1074 ≤ a + b) : (2 : Int) ^ (a + b - 1074) ∣ mulU x y := by
  have h := mulU_eq hx hy hab
  obtain ⟨m, rfl⟩ := hx
  obtain ⟨n, rfl⟩ := hy
  have hp := two_pow_pos 1074
  have e1 : (2 : Int) ^ a * 2 ^ b = 2 ^ (a + b - 1074) * 2 ^ 1074 := by
    rw [← Int.pow_add, ← Int.pow_add, Nat.sub_add_cancel hab]
  generalize (2 : Int) ^ 1074 = E at *
  rw [mul4, e1, Int.mul_assoc, Int.mul_comm E, ← Int.mul_assoc] at h
  exact ⟨m * n, (Int.eq_of_mul_eq_mul_right (by omega) h).symm⟩

/-- What stands at each step of 'Product': the parts so far, in the new row. -/
structure PRel (w wr : World) (n : Nat) (ps : List Int) (hs : List Nat) : Prop where
  hl : IsL hs ps
  own : wr.ownsRow w.heap.size 74 1 (.slice (some ⟨w.heap.size, 0, none⟩) hs.length n) hs.length (vals hs)
  below : Below w.heap.size w wr

theorem prod_room {n n2 k j N : Nat} (hN : N = 2 * n * n2) (hk : k < n) (hj : j < n2) : 2 * k * n2 + 2 * j + 2 ≤ N := by
  have h1 : (k + 1) * n2 ≤ n * n2 := Nat.mul_le_mul_right _ hk
  rw [Nat.add_mul] at h1
  rw [hN, Nat.mul_assoc, Nat.mul_assoc]
  omega

theorem wrap_prod {n n2 N : Nat} (hnm : n ≤ 1000) (hnm2 : n2 ≤ 1000) (hN : N = 2 * n * n2) : wrap64 (2 * (n : Int) * (n2 : Int)) = (N : Int) := by
  have h : n * n2 ≤ 1000 * 1000 := Nat.mul_le_mul hnm hnm2
  have e : (2 * (n : Int) * (n2 : Int)) = (N : Int) := by rw [hN]; simp
  rw [e]
  have hN' : N ≤ 2000000 := by rw [hN, Nat.mul_assoc]; omega
  unfold wrap64
  omega

theorem PRel.len {w wr : World} {N : Nat} {xs ys : List Int} {k j n n2 : Nat} {x : Int} {hs : List Nat} (R : PRel w wr N (prodParts (xs.take k) ys ++ rowParts x (ys.take j)) hs) (hx : xs.length = n) (hy : ys.length = n2) (hk : k ≤ n) (hj : j ≤ n2) : hs.length = 2 * k * n2 + 2 * j := by
  have := R.hl.length
  rw [this, List.length_append, prodParts_length, rowParts_length, List.length_take, List.length_take, hx, hy, Nat.min_eq_left hk, Nat.min_eq_left hj]

theorem PRel.push {w wr w1 : World} {N : Nat} {ps : List Int} {hs : List Nat} {h l : Nat} {H L : Int} {o : Obj} (R : PRel w wr N ps hs) (hl : Is l L) (hh : Is h H)
    (h1 : w1.ownsRow w.heap.size 74 1 (.slice (some ⟨w.heap.size, 0, none⟩) (hs.length + 2) N) (hs.length + 2) (vals hs ++ [.float .f64 l, .float .f64 h])) (h2 : (wr.alloc o).grownBy w1 (some w.heap.size)) :
    PRel w w1 N (ps ++ [L, H]) (hs ++ [l, h]) := by
  refine ⟨R.hl.append ⟨hl, hh, trivial⟩, ?_, (R.below.alloc R.below.size o).grown h2 (by have := R.below.size; simp; omega) (fun k h => by cases h; exact Nat.le_refl _)⟩
  have e : (hs ++ [l, h]).length = hs.length + 2 := by simp
  rw [e]
  simpa [vals] using h1

set_option maxHeartbeats 1600000 in
set_option maxRecDepth 100000 in
theorem product_walk (g n c g2 n2 c2 : Nat) (bs cs : List Nat) (xs ys : List Int) (a b T : Nat) (w : World) (hn : bs.length = n) (hn2 : cs.length = n2) (hnm : n ≤ 1000) (hnm2 : n2 ≤ 1000)
    (hNs : 2 * n * n2 ≤ 1000000)
    (hcell : ∀ t, t < n → w.cell? ⟨g, t, none⟩ = some (.float .f64 (bs.getD t 0))) (hg : g < w.heap.size)
    (hcell2 : ∀ t, t < n2 → w.cell? ⟨g2, t, none⟩ = some (.float .f64 (cs.getD t 0))) (hg2 : g2 < w.heap.size)
    (his : IsL bs xs) (his2 : IsL cs ys) (hda : ∀ x ∈ xs, (2 : Int) ^ a ∣ x) (hdb : ∀ y ∈ ys, (2 : Int) ^ b ∣ y) (hab : 1074 ≤ a + b) (hmT : ∀ x ∈ xs, ∀ y ∈ ys, 2 * (mulU x y).natAbs < LIM) (hxT : absSum (prodParts xs ys) ≤ T) (hT : 2048 * T < LIM) :
    Calls Tryz.prog 42 #[.slice (some ⟨g, 0, none⟩) n c, .slice (some ⟨g2, 0, none⟩) n2 c2] w fun e w' => ∃ v' ds, e = .returned v' ∧ NumS w' w.heap.size v' ds ∧ IsL ds (sumAll (prodParts xs ys)) ∧ Below w.heap.size w w' := by
  obtain ⟨i0, hi, hz0, hz1, hz2⟩ := info_parts info74
  have hxl : xs.length = n := by rw [← his.length, hn]
  have hyl : ys.length = n2 := by rw [← his2.length, hn2]
  obtain ⟨N, hNe⟩ : ∃ N, N = 2 * n * n2 := ⟨_, rfl⟩
  rw [← hNe] at hNs
  have HW : Hid (wrap64 (2 * (n : Int) * (n2 : Int)) = (N : Int)) := wrap_prod hnm hnm2 hNe
  have HN : Hid (N = 2 * n * n2) := hNe
  have HM : Hid (∀ x ∈ xs, ∀ y ∈ ys, x * y = mulU x y * 2 ^ 1074 ∧ 2 * (mulU x y).natAbs < LIM) := fun x hx y hy => ⟨mulU_eq (hda x hx) (hdb y hy) hab, hmT x hx y hy⟩
  clear hda hdb hab hmT hNe
  go_enter Tryz.func42, Tryz.ntmps42
  go_wp2_with (at_make; refine wpList_make_own _ rfl _ _ 77 rfl w.heap.size 74 i0 (.float .f64 0) 1 Tryz.underlying77 hi hz0 hz1 _ _ _ N rfl rfl HW.out (by rw [hz2]; omega) (by unfold maxLen; omega) (Nat.le_refl _) ?_; intro w0 hown0 hgrow0)
  have R0 : PRel w w0 N [] [] := ⟨trivial, hown0, (Below.refl _ _).grown hgrow0 (Nat.le_refl _) (fun k h => by cases h)⟩
  clear hown0 hgrow0
  go_wp2
  go_loopw [5, 21] (fun so si wr => ∃ (k : Nat) (hs : List Nat), si = .int .i64 k ∧ k ≤ n ∧ so = .slice (some ⟨w.heap.size, 0, none⟩) hs.length N ∧ PRel w wr N (prodParts (xs.take k) ys) hs) (fun _ si _ => n - (intOf si).toNat)
  case atStart => exact ⟨0, [], rfl, Nat.zero_le _, rfl, by simpa [prodParts] using R0⟩
  case round =>
    obtain ⟨k, hs, rfl, hk, rfl, R⟩ := hrel
    clear R0
    by_cases hlt : k < n
    · obtain ⟨q, hcl, hq⟩ : ∃ q, wr.cell? ⟨g, k, none⟩ = some (.float .f64 q) ∧ Is q (xs.getD k 0) := ⟨_, (R.below.cell (by exact hg)).trans (hcell k hlt), his.at k (by omega)⟩
      have hxm : xs.getD k 0 ∈ xs := getD_mem xs k (by omega)
      have HTk : Hid (prodParts (xs.take (k + 1)) ys = prodParts (xs.take k) ys ++ rowParts (xs.getD k 0) ys) := by unfold Hid; rw [take_next (l := xs) (k := k) (by omega), prodParts_snoc]
      generalize xs.getD k 0 = X at *
      go_wp2
      go_loopw [5, 27] (fun so si wr => ∃ (j : Nat) (hs : List Nat), si = .int .i64 j ∧ j ≤ n2 ∧ so = .slice (some ⟨w.heap.size, 0, none⟩) hs.length N ∧ PRel w wr N (prodParts (xs.take k) ys ++ rowParts X (ys.take j)) hs) (fun _ si _ => n2 - (intOf si).toNat)
      case atStart => exact ⟨0, hs, rfl, Nat.zero_le _, rfl, by simpa [rowParts] using R⟩
      case round =>
        obtain ⟨j, hs2, rfl, hj, rfl, R2⟩ := hrel
        clear R hcl
        have hlen := R2.len hxl hyl hk hj
        by_cases hlt2 : j < n2
        · obtain ⟨q2, hcl2, hq2⟩ : ∃ q2, wr.cell? ⟨g2, j, none⟩ = some (.float .f64 q2) ∧ Is q2 (ys.getD j 0) := ⟨_, (R2.below.cell (by exact hg2)).trans (hcell2 j hlt2), his2.at j (by omega)⟩
          have hym : ys.getD j 0 ∈ ys := getD_mem ys j (by omega)
          have HTj : Hid (rowParts X (ys.take (j + 1)) = rowParts X (ys.take j) ++ [mulU X (ys.getD j 0) - rnd (mulU X (ys.getD j 0)), rnd (mulU X (ys.getD j 0))]) := by unfold Hid; rw [take_next (l := ys) (k := j) (by omega), rowParts_snoc]
          have hroom : hs2.length + 2 ≤ N := by have := prod_room HN.out hlt hlt2; omega
          have hmm := HM.out X hxm _ hym
          generalize ys.getD j 0 = Y at *
          obtain ⟨Z, hZ⟩ : ∃ Z, Z = mulU X Y := ⟨_, rfl⟩
          have HZ : Hid (X * Y = Z * 2 ^ 1074 ∧ 2 * Z.natAbs < LIM) := by unfold Hid; rw [hZ]; exact hmm
          rw [← hZ] at HTj
          clear hmm hZ hlen
          have HO : Hid (∀ o, (wr.alloc o).ownsRow w.heap.size 74 1 (.slice (some ⟨w.heap.size, 0, none⟩) hs2.length N) hs2.length (vals hs2)) := fun o => R2.own.alloc o
          go_wp2_with (first | (go_at_call 58; refine (twoProduct_any _ _ _ _ _ _ hq hq2 HZ.out.1 HZ.out.2).mono ?_; rintro e w' ⟨h, l, rfl, hh, hl, rfl⟩) | (at_builtin; refine wpList_append_fits _ rfl _ _ 77 rfl w.heap.size 74 i0 1 Tryz.underlying77 hi hz1 w.heap.size hs2.length N _ rfl (HO.out _) ⟨_, 0, none⟩ 2 2 [.float .f64 l, .float .f64 h] rfl rfl (cell_two_new _ _ _ _) (by intro u hu; simp at hu; rcases hu with rfl | rfl <;> rfl) (by omega) ?_; intro w1 h1 h2))
          have R3 := R2.push hl hh h1 h2
          rw [List.append_assoc, ← HTj.out] at R3
          clear R2 HO h1 h2
          go_roundw
          case rel => exact ⟨j + 1, hs2 ++ [l, h], by go_num, by omega, by simp, R3⟩
          case measure => simp [intOf]; omega
        · have ht : ys.take j = ys := List.take_of_length_le (by omega)
          rw [ht, ← HTk.out] at R2
          clear ht hlen
          go_wp2
          go_roundw
          case rel => exact ⟨k + 1, hs2, by go_num, by omega, rfl, R2⟩
          case measure => simp [intOf]; omega
    · have ht : xs.take k = xs := List.take_of_length_le (by omega)
      rw [ht] at R
      have hl := R.hl
      have hlen : hs.length ≤ 1000000 := by
        rw [hl.length, prodParts_length, hxl, hyl, ← HN.out]; omega
      have hown : Num wr w.heap.size (.slice (some ⟨w.heap.size, 0, none⟩) hs.length N) hs := R.own
      have hbel := R.below
      clear R ht
      go_wp2_with (go_at_call 56; refine (sum_any _ _ hs _ T _ hown hlen hl hxT hT).mono ?_; rintro e w' ⟨v', ds, rfl, hnum, hds, hb2⟩)
      go_ret
      have hsz := hbel.size
      exact ⟨v', ds, rfl, hnum.base hsz, hds, hbel.trans (hb2.mono hsz)⟩

theorem product_any (v v2 : Value) (base base2 : Nat) (bs cs : List Nat) (xs ys : List Int) (a b T : Nat) (w : World) (hv : NumS w base v bs) (hv2 : NumS w base2 v2 cs) (hnm : bs.length ≤ 1000) (hnm2 : cs.length ≤ 1000)
    (hNs : 2 * bs.length * cs.length ≤ 1000000) (his : IsL bs xs) (his2 : IsL cs ys) (hda : ∀ x ∈ xs, (2 : Int) ^ a ∣ x) (hdb : ∀ y ∈ ys, (2 : Int) ^ b ∣ y) (hab : 1074 ≤ a + b) (hmT : ∀ x ∈ xs, ∀ y ∈ ys, 2 * (mulU x y).natAbs < LIM) (hxT : absSum (prodParts xs ys) ≤ T) (hT : 2048 * T < LIM) :
    Calls Tryz.prog 42 #[v, v2] w fun e w' => ∃ v' ds, e = .returned v' ∧ NumS w' w.heap.size v' ds ∧ IsL ds (sumAll (prodParts xs ys)) ∧ Below w.heap.size w w' := by
  obtain ⟨g, c, rfl, _, hg, hcell⟩ := hv.cases
  obtain ⟨g2, c2, rfl, _, hg2, hcell2⟩ := hv2.cases
  exact product_walk g _ c g2 _ c2 bs cs xs ys a b T w rfl rfl hnm hnm2 hNs hcell hg hcell2 hg2 his his2 hda hdb hab hmT hxT hT

set_option maxHeartbeats 400000 in
theorem square_any (v : Value) (base : Nat) (bs : List Nat) (xs : List Int) (a T : Nat) (w : World) (hv : NumS w base v bs) (hnm : bs.length ≤ 500)
    (his : IsL bs xs) (hda : ∀ x ∈ xs, (2 : Int) ^ a ∣ x) (hab : 1074 ≤ a + a) (hmT : ∀ x ∈ xs, ∀ y ∈ xs, 2 * (mulU x y).natAbs < LIM) (hxT : absSum (prodParts xs xs) ≤ T) (hT : 2048 * T < LIM) :
    Calls Tryz.prog 55 #[v] w fun e w' => ∃ v' ds, e = .returned v' ∧ NumS w' w.heap.size v' ds ∧ IsL ds (sumAll (prodParts xs xs)) ∧ Below w.heap.size w w' := by
  have hN : 2 * bs.length * bs.length ≤ 1000000 := by
    have : bs.length * bs.length ≤ 500 * 500 := Nat.mul_le_mul hnm hnm
    rw [Nat.mul_assoc]; omega
  have HC : Hid (∀ W, NumS W base v bs → Calls Tryz.prog 42 #[v, v] W fun e w' => ∃ v' ds, e = .returned v' ∧ NumS w' W.heap.size v' ds ∧ IsL ds (sumAll (prodParts xs xs)) ∧ Below W.heap.size W w') :=
    fun W hW => product_any v v base base bs bs xs xs a a T W hW hW (by omega) (by omega) hN his his hda hda hab hmT hxT hT
  clear hda hab hmT hxT hN
  go_enter Tryz.func55, Tryz.ntmps55
  go_wp2_with (go_at_call 42; refine (HC.out _ hv).mono ?_; rintro e w' ⟨v', ds, rfl, h1, h2, h3⟩)
  go_ret
  exact ⟨v', ds, rfl, h1, h2, h3⟩

end Go.Proofs.YtbjjkfmdkmbcfaaGreat

namespace Go.Proofs.YtbjjkfmdkmbcfaaGreat
open Go.RowKit
open PlRd

theorem run_append_types {P : Program} (w : World) (t t2 ty e e2 : TypeId) (ht : P.underlying t = some (.slice e)) (ht2 : P.underlying t2 = some (.slice e2)) (i : TypeInfo) (hi : P.info? e = some i) (b : Option Addr) (n c : Nat) (x : Value) :
    (Builtin.append_ #[t, t2] ty #[.slice b n c, x]).run P w = (Builtin.append_ #[t, t] ty #[.slice b n c, x]).run P w := by
  simp [Builtin.append_, run_underlying ht, run_underlying ht2, sizeOf, typeInfo, hi]

/-- 'append(out, xs...)', out the call's own, xs a slice of another named type. -/
theorem wpList_append_own2 {P : Program} (w : World) {ops : Array Oper} {rest : List Oper} {o : Oper} {a : Act} {Q : Exit → Act → World → Prop} (hgd : o.guard = none) (s x : Operand) (t t2 : TypeId)
    (ho : o.op = .call { callee := .builtin .append, args := #[s, x], argTypes := #[t, t2] })
    (base : Nat) (e e2 : TypeId) (i : TypeInfo) (z : Value) (size bytes : Nat) (ht : P.underlying t = some (.slice e)) (ht2 : P.underlying t2 = some (.slice e2)) (hi : P.info? e = some i) (hz : i.zero = some z)
    (hsize : i.size = size) (hby : i.bytes = bytes) (hzs : z.cells.size = size) (hsz : 0 < size)
    (v : Value) (n : Nat) (xs : List Value) (hs : a.eval s = v) (hown : w.ownsRow base e size v n xs)
    (ad : Addr) (m c : Nat) (news : List Value) (hx : a.eval x = .slice (some ad) m c) (hl : news.length = m * size) (hnews : ∀ j u, news[j]? = some u → w.cell? (ad.add j) = some u) (h1 : ∀ u ∈ news, u.oneCell' = true)
    (h63 : n + m ≤ maxLen) (hbytes : (n + m) * bytes ≤ 140737488355328) (hbase : base ≤ w.heap.size)
    (h : ∀ v' w', w'.ownsRow base e size v' (n + m) (xs ++ news) → w.grownBy w' v.ownBlock → wpList P ops Q rest (a.put o.dst v') w') : wpList P ops Q (o :: rest) a w := by
  refine wpList_plain hgd fun K hK => ?_
  obtain ⟨v', w', hrun, r1, r2, _⟩ := run_append_own (P := P) w base t o.type e i z size bytes ht hi hz hsize hby hzs hsz v n xs hown ad m c news hl hnews h1 h63 hbytes hbase
  obtain ⟨bb, sl, sc, hv⟩ : ∃ bb sl sc, v = .slice bb sl sc := by
    rcases hown.2 with ⟨h, _⟩ | ⟨g, cap, cur, h, _⟩ <;> exact ⟨_, _, _, h⟩
  rw [hv, ← run_append_types w t t2 o.type e e2 ht ht2 i hi, ← hv] at hrun
  unfold Oper.wp
  simp [execOp, ho, resolve, invoke, builtin, hs, hx, hrun, Result.andThen]
  exact hK _ _ (h v' w' r1 r2)

/-- A call's list of numbers. -/
structure Terms (w : World) (g m : Nat) (vs : List Value) (bss : List (List Nat)) (xss : List (List Int)) : Prop where
  lv : vs.length = m
  lb : bss.length = m
  lx : xss.length = m
  lt : g < w.heap.size
  cell : ∀ t, t < m → w.cell? ⟨g, t, none⟩ = some (vs.getD t default)
  num : ∀ t, t < m → NumS w 0 (vs.getD t default) (bss.getD t [])
  is : ∀ t, t < m → IsL (bss.getD t []) (xss.getD t [])

theorem take_next' {α : Type} {l : List α} {k : Nat} (d : α) (h : k < l.length) : l.take (k + 1) = l.take k ++ [l.getD k d] := by
  rw [take_snoc l k h, List.getD_eq_getElem?_getD, List.getElem?_eq_getElem h]; rfl

theorem flat_next {α : Type} {l : List (List α)} {k : Nat} (h : k < l.length) : (l.take (k + 1)).flatten = (l.take k).flatten ++ l.getD k [] := by
  rw [take_next' [] h]; simp

theorem flat_le {α : Type} (l : List (List α)) (k : Nat) : (l.take k).flatten.length ≤ l.flatten.length := by
  have h := congrArg (fun x => (List.flatten x).length) (List.take_append_drop k l)
  simp only [List.flatten_append, List.length_append] at h
  omega

/-- What stands at each step of 'Total'. -/
structure ToRel (w wr : World) (v : Value) (ps : List Int) (hs : List Nat) : Prop where
  hl : IsL hs ps
  own : Num wr w.heap.size v hs
  below : Below w.heap.size w wr

theorem vals_one (bs : List Nat) : ∀ u ∈ vals bs, u.oneCell' = true := by
  intro u hu
  simp [vals] at hu
  obtain ⟨b, _, rfl⟩ := hu
  rfl

theorem news_of {w : World} {g : Nat} {bs : List Nat} (h : ∀ t, t < bs.length → w.cell? ⟨g, t, none⟩ = some (.float .f64 (bs.getD t 0))) : ∀ j u, (vals bs)[j]? = some u → w.cell? ((⟨g, 0, none⟩ : Addr).add j) = some u := by
  intro j u hu
  have hj : j < bs.length := by
    have := (List.getElem?_eq_some_iff.1 hu).1
    simpa [vals] using this
  have hadd : (⟨g, 0, none⟩ : Addr).add j = ⟨g, j, none⟩ := by unfold Addr.add; split <;> simp_all
  rw [hadd, h j hj]
  rw [vals, List.getElem?_map, List.getElem?_eq_getElem hj] at hu
  rw [List.getD_eq_getElem?_getD, List.getElem?_eq_getElem hj]
  exact hu

set_option maxHeartbeats 800000 in
set_option maxRecDepth 100000 in
theorem total_any (g m c : Nat) (vs : List Value) (bss : List (List Nat)) (xss : List (List Int)) (T : Nat) (w : World) (hm : m ≤ 1000) (R0 : Terms w g m vs bss xss) (hlen : bss.flatten.length ≤ 1000000) (hxT : absSum xss.flatten ≤ T) (hT : 2048 * T < LIM) :
    Calls Tryz.prog 39 #[.slice (some ⟨g, 0, none⟩) m c] w fun e w' => ∃ v' ds, e = .returned v' ∧ NumS w' w.heap.size v' ds ∧ IsL ds (sumAll xss.flatten) ∧ Below w.heap.size w w' := by
  obtain ⟨i0, hi, hz0, hz1, hz2⟩ := info_parts info74
  have HT : Hid (2048 * T < LIM) := hT
  have hlb := R0.lb
  have hlx := R0.lx
  have S0 : ToRel w w (.slice none 0 0) [] [] := ⟨trivial, World.ownsRow_nil _ _ _ _, Below.refl _ _⟩
  clear hT
  go_enter Tryz.func39, Tryz.ntmps39
  go_wp2
  go_loopw [3, 8] (fun so si wr => ∃ (k : Nat) (hs : List Nat), si = .int .i64 k ∧ k ≤ m ∧ hs.length = (bss.take k).flatten.length ∧ ToRel w wr so (xss.take k).flatten hs) (fun _ si _ => m - (intOf si).toNat)
  case atStart => exact ⟨0, [], rfl, Nat.zero_le _, by simp, by simpa using S0⟩
  case round =>
    obtain ⟨k, hs, rfl, hk, hhl, R⟩ := hrel
    clear S0
    by_cases hlt : k < m
    · obtain ⟨v, bs, xs, hv, hbs, hxs⟩ : ∃ v bs xs, v = vs.getD k default ∧ bs = bss.getD k [] ∧ xs = xss.getD k [] := ⟨_, _, _, rfl, rfl, rfl⟩
      have hcl := (R.below.cell (p := ⟨g, k, none⟩) (by exact R0.lt)).trans (R0.cell k hlt)
      have hnum := (R0.num k hlt).kept R.below
      have his := R0.is k hlt
      have hfx := flat_next (l := xss) (k := k) (by omega)
      have hfb := flat_next (l := bss) (k := k) (by omega)
      have hle := flat_le bss (k + 1)
      rw [hfb, List.length_append] at hle
      rw [← hv] at hcl hnum
      rw [← hbs] at hnum his hfb hle
      rw [← hxs] at his hfx
      clear hv hbs hxs
      obtain ⟨g1, c1, rfl, _, hg1, hcell1⟩ := hnum.cases
      have HF : Hid ((xss.take (k + 1)).flatten = (xss.take k).flatten ++ xs) := hfx
      have HB : Hid ((bss.take (k + 1)).flatten = (bss.take k).flatten ++ bs) := hfb
      have hb1 : hs.length + bs.length ≤ 1000000 := by omega
      have HH : Hid (hs.length = (bss.take k).flatten.length) := hhl
      have hown := R.own
      have hR1 := R.hl
      have hR2 := R.below
      have hne := news_of hcell1
      clear hfx hfb hle hnum hhl R
      go_wp2_with (at_builtin; refine wpList_append_own2 _ rfl _ _ 77 78 rfl w.heap.size 74 74 i0 (.float .f64 0) 1 8 Tryz.underlying77 Tryz.underlying78 hi hz0 hz1 hz2 rfl (by decide) _ hs.length (vals hs) rfl hown ⟨g1, 0, none⟩ bs.length c1 (vals bs) rfl (by simp [vals]) hne (vals_one bs) (by unfold maxLen; omega) (by omega) hR2.size ?_; intro v' w1 h1 h2)
      have e : (hs ++ bs).length = hs.length + bs.length := List.length_append
      have R1 : ToRel w w1 v' ((xss.take (k + 1)).flatten) (hs ++ bs) := by
        refine ⟨by rw [HF.out]; exact hR1.append his, ?_, hR2.grown h2 hR2.size (fun k hk => (World.ownsRow.lt hown k hk).1)⟩
        unfold Num
        rw [e]
        simpa [vals] using h1
      have e2 : (hs ++ bs).length = (bss.take (k + 1)).flatten.length := by rw [HB.out, List.length_append, List.length_append, HH.out]
      clear h1 h2 hown hR1 hR2 e
      go_roundw
      case rel => exact ⟨k + 1, hs ++ bs, by go_num, by omega, e2, R1⟩
      case measure => simp [intOf]; omega
    · have ht : xss.take k = xss := List.take_of_length_le (by omega)
      have ht2 : bss.take k = bss := List.take_of_length_le (by omega)
      rw [ht] at R
      rw [ht2] at hhl
      have hl := R.hl
      have hown := R.own
      have hbel := R.below
      have hlen' : hs.length ≤ 1000000 := by omega
      clear R ht ht2 hhl
      go_wp2_with (go_at_call 56; refine (sum_any _ _ hs _ T _ hown hlen' hl hxT HT.out).mono ?_; rintro e w' ⟨v', ds, rfl, hnum, hds, hb2⟩)
      go_ret
      have hsz := hbel.size
      exact ⟨v', ds, rfl, hnum.base hsz, hds, hbel.trans (hb2.mono hsz)⟩

end Go.Proofs.YtbjjkfmdkmbcfaaGreat

namespace Go.Proofs.YtbjjkfmdkmbcfaaGreat
open Go.RowKit
open PlRd

/-- Parts: multiples of 2 ^ d, at most 2 ^ k of them, none above 2 ^ e. -/
structure Pa (ps : List Int) (d k e : Nat) : Prop where
  fl : ∀ p ∈ ps, Fl p
  dvd : ∀ p ∈ ps, (2 : Int) ^ d ∣ p
  len : ps.length ≤ 2 ^ k
  le : ∀ p ∈ ps, p.natAbs ≤ 2 ^ e

/-- A number: such parts, which do not reach into one another. -/
structure Nm (xs : List Int) (d k e : Nat) : Prop extends Pa xs d k e where
  no : NO xs

theorem absSum_le (ps : List Int) (M : Nat) (h : ∀ p ∈ ps, p.natAbs ≤ M) : absSum ps ≤ ps.length * M := by
  induction ps with
  | nil => simp [absSum]
  | cons p ps ih =>
    have h1 := h p (by simp)
    have h2 := ih (fun x hx => h x (by simp [hx]))
    rw [absSum_cons, List.length_cons, Nat.add_mul]
    omega

theorem Pa.abs {ps : List Int} {d k e : Nat} (h : Pa ps d k e) : absSum ps ≤ 2 ^ (k + e) := by
  refine Nat.le_trans (absSum_le ps _ h.le) ?_
  rw [Nat.pow_add]
  exact Nat.mul_le_mul_right _ h.len

theorem Pa.sum {ps : List Int} {d k e : Nat} (h : Pa ps d k e) : Nm (sumAll ps) d k (k + e + 1) := by
  have hE := sumAll_ex ps h.fl
  refine ⟨⟨hE.2, sumAll_dvd ps h.dvd, Nat.le_trans (sumAll_length ps) h.len, fun p hp => ?_⟩, hE.1⟩
  have h1 := sumAll_le ps h.fl p hp
  have h2 := h.abs
  rw [Nat.pow_succ]
  omega

theorem Pa.append {ps qs : List Int} {d k e : Nat} (h : Pa ps d k e) (h2 : Pa qs d k e) : Pa (ps ++ qs) d (k + 1) e := by
  refine ⟨fun p hp => ?_, fun p hp => ?_, ?_, fun p hp => ?_⟩
  · rcases List.mem_append.1 hp with hp | hp
    · exact h.fl p hp
    · exact h2.fl p hp
  · rcases List.mem_append.1 hp with hp | hp
    · exact h.dvd p hp
    · exact h2.dvd p hp
  · have := h.len
    have := h2.len
    rw [List.length_append, Nat.pow_succ]; omega
  · rcases List.mem_append.1 hp with hp | hp
    · exact h.le p hp
    · exact h2.le p hp

theorem Pa.neg {ps : List Int} {d k e : Nat} (h : Pa ps d k e) : Pa (ps.map (- ·)) d k e := by
  refine ⟨fun p hp => ?_, fun p hp => ?_, by simpa using h.len, fun p hp => ?_⟩
  · obtain ⟨q, hq, rfl⟩ := List.mem_map.1 hp
    exact fl_neg (h.fl q hq)
  · obtain ⟨q, hq, rfl⟩ := List.mem_map.1 hp
    exact Int.dvd_neg.2 (h.dvd q hq)
  · obtain ⟨q, hq, rfl⟩ := List.mem_map.1 hp
    have := h.le q hq
    simpa using this

theorem sum_neg (ps : List Int) : (ps.map (- ·)).sum = -ps.sum := by
  induction ps with
  | nil => simp
  | cons p ps ih => rw [List.map_cons, List.sum_cons, List.sum_cons, ih]; omega

theorem mem_prodParts {xs ys : List Int} {p : Int} (h : p ∈ prodParts xs ys) : ∃ x ∈ xs, ∃ y ∈ ys, p = mulU x y - rnd (mulU x y) ∨ p = rnd (mulU x y) := by
  unfold prodParts at h
  obtain ⟨x, hx, h⟩ := List.mem_flatMap.1 h
  unfold rowParts at h
  obtain ⟨y, hy, h⟩ := List.mem_flatMap.1 h
  exact ⟨x, hx, y, hy, by simpa using h⟩

theorem pow_split (e f u : Nat) (h : u ≤ e + f) : 2 ^ e * 2 ^ f = 2 ^ (e + f - u) * 2 ^ u := by rw [← Nat.pow_add, ← Nat.pow_add, Nat.sub_add_cancel h]

theorem mulU_le {x y : Int} {a b e f : Nat} (hx : (2 : Int) ^ a ∣ x) (hy : (2 : Int) ^ b ∣ y) (hab : 1074 ≤ a + b) (h1 : x.natAbs ≤ 2 ^ e) (h2 : y.natAbs ≤ 2 ^ f) (hef : 1074 ≤ e + f) : (mulU x y).natAbs ≤ 2 ^ (e + f - 1074) := by
  have h := congrArg Int.natAbs (mulU_eq hx hy hab)
  rw [Int.natAbs_mul, Int.natAbs_mul, natAbs_two_pow] at h
  have h3 : x.natAbs * y.natAbs ≤ 2 ^ e * 2 ^ f := Nat.mul_le_mul h1 h2
  have e1 := pow_split e f 1074 hef
  have hp := Nat.two_pow_pos 1074
  rw [h, e1] at h3
  generalize 2 ^ 1074 = E at *
  exact Nat.le_of_mul_le_mul_right h3 hp

theorem Nm.prod {xs ys : List Int} {d1 k1 e1 d2 k2 e2 : Nat} (h : Nm xs d1 k1 e1) (h2 : Nm ys d2 k2 e2) (hd : 1074 ≤ d1 + d2) (he : 1074 ≤ e1 + e2) : Pa (prodParts xs ys) (d1 + d2 - 1074) (k1 + k2 + 1) (e1 + e2 - 1074 + 1) := by
  refine ⟨fun p hp => ?_, fun p hp => ?_, ?_, fun p hp => ?_⟩
  · obtain ⟨x, hx, y, hy, rfl | rfl⟩ := mem_prodParts hp
    · exact two_product (h.fl x hx) (h2.fl y hy) (mulU_eq (h.dvd x hx) (h2.dvd y hy) hd)
    · exact fl_rnd _
  · obtain ⟨x, hx, y, hy, rfl | rfl⟩ := mem_prodParts hp
    · have := mulU_dvd (h.dvd x hx) (h2.dvd y hy) hd
      exact Int.dvd_sub this (dvd_rnd this)
    · exact dvd_rnd (mulU_dvd (h.dvd x hx) (h2.dvd y hy) hd)
  · rw [prodParts_length, Nat.pow_succ, Nat.pow_add]
    have := Nat.mul_le_mul h.len h2.len
    rw [Nat.mul_assoc]
    omega
  · obtain ⟨x, hx, y, hy, rfl | rfl⟩ := mem_prodParts hp
    · have h3 := mulU_le (h.dvd x hx) (h2.dvd y hy) hd (h.le x hx) (h2.le y hy) he
      have h4 := rnd_err (mulU x y)
      rw [Nat.pow_succ]
      omega
    · have h3 := mulU_le (h.dvd x hx) (h2.dvd y hy) hd (h.le x hx) (h2.le y hy) he
      have h4 := nrnd h3
      rw [Nat.pow_succ]
      omega

theorem rowParts_sum {x : Int} {ys : List Int} {a b : Nat} (hx : (2 : Int) ^ a ∣ x) (hy : ∀ y ∈ ys, (2 : Int) ^ b ∣ y) (hab : 1074 ≤ a + b) : (rowParts x ys).sum * 2 ^ 1074 = x * ys.sum := by
  induction ys with
  | nil => show (0 : Int) * _ = x * 0; rw [Int.zero_mul, Int.mul_zero]
  | cons y ys ih =>
    have e : rowParts x (y :: ys) = [mulU x y - rnd (mulU x y), rnd (mulU x y)] ++ rowParts x ys := by simp [rowParts]
    have hi := ih (fun z hz => hy z (by simp [hz]))
    have hm := mulU_eq hx (hy y (by simp)) hab
    generalize (2 : Int) ^ 1074 = E at *
    rw [e, List.sum_append, List.sum_cons, List.sum_cons, List.sum_cons, List.sum_nil, Int.mul_add, hm, ← hi, Int.add_mul]
    congr 2
    omega

theorem prodParts_sum {xs ys : List Int} {a b : Nat} (hx : ∀ x ∈ xs, (2 : Int) ^ a ∣ x) (hy : ∀ y ∈ ys, (2 : Int) ^ b ∣ y) (hab : 1074 ≤ a + b) : (prodParts xs ys).sum * 2 ^ 1074 = xs.sum * ys.sum := by
  induction xs with
  | nil => show (0 : Int) * _ = 0 * _; rw [Int.zero_mul, Int.zero_mul]
  | cons x xs ih =>
    have e : prodParts (x :: xs) ys = rowParts x ys ++ prodParts xs ys := by simp [prodParts]
    have hi := ih (fun z hz => hx z (by simp [hz]))
    have hr := rowParts_sum (hx x (by simp)) hy hab
    generalize (2 : Int) ^ 1074 = E at *
    rw [e, List.sum_append, List.sum_cons, Int.add_mul, Int.add_mul, hi, hr]

theorem lim_gen {n e u v : Nat} (h : n ≤ 2 ^ e) (he : e ≤ u) (huv : u + 12 ≤ v) : 2048 * n < 2 ^ v := by
  have h1 : 2 ^ e ≤ 2 ^ u := Nat.pow_le_pow_right (by decide) he
  have h2 : 2 ^ (u + 12) ≤ 2 ^ v := Nat.pow_le_pow_right (by decide) huv
  have h3 : 2 ^ (u + 12) = 2 ^ u * 4096 := Nat.pow_add ..
  have h4 := Nat.two_pow_pos u
  omega

theorem lim_of {n e : Nat} (h : n ≤ 2 ^ e) (he : e ≤ 2080) : 2048 * n < LIM := by
  unfold LIM
  exact lim_gen h he (by decide)

theorem len_of {n k : Nat} (h : n ≤ 2 ^ k) (hk : k ≤ 9) : n ≤ 512 := Nat.le_trans h (Nat.pow_le_pow_right (by decide) hk)

/-- 'Sum' of parts. -/
theorem sum_nm (v : Value) (base : Nat) (bs : List Nat) (xs : List Int) (d k e : Nat) (w : World) (hv : Num w base v bs) (his : IsL bs xs) (h : Pa xs d k e) (hk : k ≤ 9) (he : k + e ≤ 2080) :
    Calls Tryz.prog 56 #[v] w fun e' w' => ∃ v' cs, e' = .returned v' ∧ NumS w' w.heap.size v' cs ∧ IsL cs (sumAll xs) ∧ Below w.heap.size w w' := by
  have hl := len_of h.len hk
  rw [← his.length] at hl
  exact sum_any v base bs xs _ w hv (by omega) his (Nat.le_refl _) (lim_of h.abs he)

theorem product_nm (v v2 : Value) (base base2 : Nat) (bs cs : List Nat) (xs ys : List Int) (d1 k1 e1 d2 k2 e2 : Nat) (w : World) (hv : NumS w base v bs) (hv2 : NumS w base2 v2 cs) (his : IsL bs xs) (his2 : IsL cs ys)
    (h : Nm xs d1 k1 e1) (h2 : Nm ys d2 k2 e2) (hk : k1 + k2 ≤ 8) (hd : 1074 ≤ d1 + d2) (he : 1074 ≤ e1 + e2) (he2 : k1 + k2 + e1 + e2 ≤ 3000) :
    Calls Tryz.prog 42 #[v, v2] w fun e w' => ∃ v' ds, e = .returned v' ∧ NumS w' w.heap.size v' ds ∧ IsL ds (sumAll (prodParts xs ys)) ∧ Below w.heap.size w w' := by
  have hl := len_of h.len (by omega)
  have hl2 := len_of h2.len (by omega)
  rw [← his.length] at hl
  rw [← his2.length] at hl2
  have hp := h.prod h2 hd he
  refine product_any v v2 base base2 bs cs xs ys d1 d2 _ w hv hv2 (by omega) (by omega) ?_ his his2 h.dvd h2.dvd hd (fun x hx y hy => ?_) (Nat.le_refl _) (lim_of hp.abs (by omega))
  · have : bs.length * cs.length ≤ 512 * 512 := Nat.mul_le_mul hl hl2
    rw [Nat.mul_assoc]; omega
  · have h3 := mulU_le (h.dvd x hx) (h2.dvd y hy) hd (h.le x hx) (h2.le y hy) he
    have h4 := lim_of h3 (by omega)
    omega

theorem square_nm (v : Value) (base : Nat) (bs : List Nat) (xs : List Int) (d1 k1 e1 : Nat) (w : World) (hv : NumS w base v bs) (his : IsL bs xs)
    (h : Nm xs d1 k1 e1) (hk : k1 ≤ 4) (hd : 1074 ≤ d1 + d1) (he : 1074 ≤ e1 + e1) (he2 : e1 ≤ 1400) :
    Calls Tryz.prog 55 #[v] w fun e w' => ∃ v' ds, e = .returned v' ∧ NumS w' w.heap.size v' ds ∧ IsL ds (sumAll (prodParts xs xs)) ∧ Below w.heap.size w w' := by
  have hl : xs.length ≤ 2 ^ 4 := Nat.le_trans h.len (Nat.pow_le_pow_right (by decide) hk)
  rw [← his.length] at hl
  have hp := h.prod h hd he
  refine square_any v base bs xs d1 _ w hv (by omega) his h.dvd hd (fun x hx y hy => ?_) (Nat.le_refl _) (lim_of hp.abs (by omega))
  have h3 := mulU_le (h.dvd x hx) (h.dvd y hy) hd (h.le x hx) (h.le y hy) he
  have h4 := lim_of h3 (by omega)
  omega

end Go.Proofs.YtbjjkfmdkmbcfaaGreat

namespace Go.Proofs.YtbjjkfmdkmbcfaaGreat
open Go.RowKit
open PlRd

attribute [local go_sem ↓] Go.wp_at_zero Go.wp_at_succ

/-- A coordinate that may be, in units. -/
def Co (b : Nat) (x : Int) : Prop := Is b x ∧ (2 : Int) ^ 974 ∣ x ∧ x.natAbs ≤ 2 ^ 1174

theorem Co.neg {b : Nat} {x : Int} (h : Co b x) : Co (b ^^^ 9223372036854775808) (-x) :=
  ⟨is_neg h.1, Int.dvd_neg.2 h.2.1, by rw [Int.natAbs_neg]; exact h.2.2⟩

theorem pa_two {a b : Nat} {x y : Int} (h : Co a x) (h2 : Co b y) : Pa [x, y] 974 1 1174 := by
  refine ⟨?_, ?_, by simp, ?_⟩
  · intro p hp; simp at hp; rcases hp with rfl | rfl
    · exact h.1.fl
    · exact h2.1.fl
  · intro p hp; simp at hp; rcases hp with rfl | rfl
    · exact h.2.1
    · exact h2.2.1
  · intro p hp; simp at hp; rcases hp with rfl | rfl
    · exact h.2.2
    · exact h2.2.2

/-- 'Sum(x, y)' of two coordinates. -/
theorem sum2 (g x y : Nat) (X Y : Int) (w : World) (hc0 : w.cell? ⟨g, 0, none⟩ = some (.float .f64 x)) (hc1 : w.cell? ⟨g, 1, none⟩ = some (.float .f64 y)) (hg : g < w.heap.size) (hx : Co x X) (hy : Co y Y) :
    Calls Tryz.prog 56 #[.slice (some ⟨g, 0, none⟩) 2 2] w fun e w' => ∃ v' cs, e = .returned v' ∧ NumS w' w.heap.size v' cs ∧ IsL cs (sumAll [X, Y]) ∧ Below w.heap.size w w' := by
  refine sum_walk g 2 2 [x, y] [X, Y] _ w rfl (by decide) (fun t ht => ?_) hg ⟨hx.1, hy.1, trivial⟩ (Nat.le_refl _) (lim_of (pa_two hx hy).abs (by decide))
  match t, ht with
  | 0, _ => exact hc0
  | 1, _ => exact hc1

theorem nm_two {a b : Nat} {x y : Int} (h : Co a x) (h2 : Co b y) : Nm (sumAll [x, y]) 974 1 1176 := (pa_two h h2).sum

/-- The product of two differences. -/
theorem prod2 (v v2 : Value) (base base2 : Nat) (bs cs : List Nat) (xs ys : List Int) (w : World) (hv : NumS w base v bs) (hv2 : NumS w base2 v2 cs) (his : IsL bs xs) (his2 : IsL cs ys) (h : Nm xs 974 1 1176) (h2 : Nm ys 974 1 1176) :
    Calls Tryz.prog 42 #[v, v2] w fun e w' => ∃ v' ds, e = .returned v' ∧ NumS w' w.heap.size v' ds ∧ IsL ds (sumAll (prodParts xs ys)) ∧ Below w.heap.size w w' :=
  product_nm v v2 base base2 bs cs xs ys 974 1 1176 974 1 1176 w hv hv2 his his2 h h2 (by decide) (by decide) (by decide) (by decide)

theorem bcell {W w1 : World} (hb : Below W.heap.size W w1) : (∀ b o, b < W.heap.size → w1.cell? ⟨b, o, none⟩ = W.cell? ⟨b, o, none⟩) ∧ (∀ b o, b < W.heap.size → w1.frozen? ⟨b, o, none⟩ = W.frozen? ⟨b, o, none⟩) :=
  ⟨fun b o h => hb.cell (p := ⟨b, o, none⟩) h, fun b o h => hb.frozen (p := ⟨b, o, none⟩) h⟩

theorem below_step {W X w1 : World} (hb : Below X.heap.size X w1) (h : Below W.heap.size W X) : Below W.heap.size W w1 := h.trans (hb.mono h.size)

theorem kept_alloc {W w2 : World} {o : Obj} {base : Nat} {v : Value} {bs : List Nat} (h : NumS W base v bs) (hb : Below (W.alloc o).heap.size (W.alloc o) w2) : NumS w2 base v bs :=
  h.kept (((Below.refl _ W).alloc (Nat.le_refl _) o).trans (hb.mono (by simp)))

theorem NumS.alloc {w : World} {b : Nat} {v : Value} {bs : List Nat} (h : NumS w b v bs) (o : Obj) : NumS (w.alloc o) b v bs := h.kept ((Below.refl _ w).alloc (Nat.le_refl _) o)

theorem terms2 {w : World} {v1 v2 : Value} {bs cs : List Nat} {xs ys : List Int} (hn1 : NumS w 0 v1 bs) (hn2 : NumS w 0 v2 cs) (h1 : IsL bs xs) (h2 : IsL cs ys) (t : TypeId) : Terms (w.alloc (.cells #[v1, v2] t)) w.heap.size 2 [v1, v2] [bs, cs] [xs, ys] := by
  refine ⟨rfl, rfl, rfl, by simp, fun i hi => ?_, fun i hi => ?_, fun i hi => ?_⟩
  all_goals
    match i, hi with
    | 0, _ => first | exact hn1.alloc _ | exact h1 | simp [go_sem]
    | 1, _ => first | exact hn2.alloc _ | exact h2 | simp [go_sem]

/-- 'Total(m, n)'. -/
theorem total2a (v1 v2 : Value) (bs cs : List Nat) (xs ys : List Int) (d k e : Nat) (w : World) (t : TypeId) (hn1 : NumS w 0 v1 bs) (hn2 : NumS w 0 v2 cs) (h1 : IsL bs xs) (h2 : IsL cs ys) (p1 : Pa xs d k e) (p2 : Pa ys d k e) (hk : k ≤ 8) (he : k + 1 + e ≤ 2080) :
    Calls Tryz.prog 39 #[.slice (some ⟨w.heap.size, 0, none⟩) 2 2] (w.alloc (.cells #[v1, v2] t)) fun e' w' => ∃ v' ds, e' = .returned v' ∧ NumS w' 0 v' ds ∧ IsL ds (sumAll (xs ++ ys)) ∧ Below (w.alloc (.cells #[v1, v2] t)).heap.size (w.alloc (.cells #[v1, v2] t)) w' := by
  have ef : [xs, ys].flatten = xs ++ ys := by simp
  have hp := p1.append p2
  have l1 := len_of p1.len (by omega)
  have l2 := len_of p2.len (by omega)
  rw [← h1.length] at l1
  rw [← h2.length] at l2
  have := total_any w.heap.size 2 2 [v1, v2] [bs, cs] [xs, ys] _ (w.alloc (.cells #[v1, v2] t)) (by decide) (terms2 hn1 hn2 h1 h2 t) (by simp; omega) (Nat.le_refl _) (by rw [ef]; exact lim_of hp.abs he)
  refine this.mono ?_
  rintro e' w' ⟨v', ds, rfl, hn, hi, hb⟩
  rw [ef] at hi
  exact ⟨v', ds, rfl, hn.base (Nat.zero_le _), hi, hb⟩

theorem total2 (v1 v2 : Value) (bs cs : List Nat) (xs ys : List Int) (d k e : Nat) (w : World) (t : TypeId) (hn1 : NumS w 0 v1 bs) (hn2 : NumS w 0 v2 cs) (h1 : IsL bs xs) (h2 : IsL cs ys) (p1 : Pa xs d k e) (p2 : Pa ys d k e) (hk : k ≤ 8) (he : k + 1 + e ≤ 2080) :
    Calls Tryz.prog 39 #[.slice (some ⟨w.heap.size, 0, none⟩) 2 2] (w.alloc (.cells #[v1, v2] t)) fun e' w' => ∃ v' ds, e' = .returned v' ∧ NumS w' 0 v' ds ∧ IsL ds (sumAll (xs ++ ys)) ∧ Below w.heap.size w w' := by
  refine (total2a v1 v2 bs cs xs ys d k e w t hn1 hn2 h1 h2 p1 p2 hk he).mono ?_
  rintro e' w' ⟨v', ds, rfl, hn, hi, hb⟩
  exact ⟨v', ds, rfl, hn, hi, ((Below.refl _ w).alloc (Nat.le_refl _) _).trans (hb.mono (by simp))⟩

end Go.Proofs.YtbjjkfmdkmbcfaaGreat
