import Derived.Test.YtbjjkfmdkmbcfaaGreatMHf
import Derived.Test.YtbjjkfmdkmbcfaaGreatChecked
import Derived.Shelf.SlSortCmp.NoneTotal
import Derived.Shelf.SlicesE.Reverse
import Derived.Ground.SlsfProg
import Derived.Ground.SlgnProg
import Derived.Shelf.SlicesE.Compact
import Derived.Lib.RowBridge
namespace Go.Proofs.YtbjjkfmdkmbcfaaGreat
open Go.RowKit
open PlRd
open HL (cr lx)

attribute [local go_sem ↓] Go.wp_at_zero Go.wp_at_succ

theorem equalIn_float {P : Program} (d : Nat) (t : TypeId) (a b : Nat) (W : World) (ht : P.underlying t = some (.float .f64)) : (Op.equalIn (d + 1) t (.float .f64 a) (.float .f64 b)).run P W = .ok (FloatKind.f64.format.order a b == some .eq) W := by
  simp [Op.equalIn, run_underlying ht, Op.floatEq]

theorem eqF_no (a b : Nat) (W : World) (h : FloatKind.f64.format.order a b ≠ some .eq) : (Op.equalIn 9999 74 (.float .f64 a) (.float .f64 b)).run Tryz.prog W = .ok false W := by
  rw [equalIn_float 9998 _ _ _ _ Tryz.underlying74]
  cases ho : FloatKind.f64.format.order a b with
  | none => rfl
  | some o => cases o <;> first | rfl | exact absurd ho h

theorem eqF_yes (a b : Nat) (W : World) (h : FloatKind.f64.format.order a b = some .eq) : (Op.equalIn 9999 74 (.float .f64 a) (.float .f64 b)).run Tryz.prog W = .ok true W := by
  rw [equalIn_float 9998 _ _ _ _ Tryz.underlying74, h]
  rfl

set_option maxHeartbeats 8000000 in
set_option maxRecDepth 100000 in
theorem clo2 (i j bx G n c : Nat) (f : Nat → Nat × Nat) (X : Nat → Int × Int) (w : World) (hi : i < n) (hj : j < n) (_ : bx < w.heap.size) (hbox : w.cell? ⟨bx, 0, none⟩ = some (.slice (some ⟨G, 0, none⟩) n c)) (H : SpX w G n f X) :
    Calls Tryz.prog 83 #[.int .i64 i, .int .i64 j, .pointer (some ⟨bx, 0, none⟩)] w fun e w' => e = .returned (.bool (decide (X i = X j))) ∧ ∃ q, w' = w.drewN q := by
  obtain ⟨⟨hi0, hi1⟩, ci0, ci1⟩ := H.cs i hi
  obtain ⟨⟨hj0, hj1⟩, cj0, cj1⟩ := H.cs j hj
  have hG := H.lt
  have o1 := ord_of ci0.1 cj0.1
  have o2 := ord_of ci1.1 cj1.1
  have hp := EU_pos
  obtain ⟨r, hr⟩ : ∃ r, r = decide (X i = X j) := ⟨_, rfl⟩
  rw [← hr]
  have HR : Hid (r = decide (X i = X j)) := hr
  have E1 : Hid ((X i).1 * EU = (X j).1 * EU ↔ (X i).1 = (X j).1) := ⟨fun h => Int.eq_of_mul_eq_mul_right (by omega) h, fun h => by rw [h]⟩
  have E2 : Hid ((X i).2 * EU = (X j).2 * EU ↔ (X i).2 = (X j).2) := ⟨fun h => Int.eq_of_mul_eq_mul_right (by omega) h, fun h => by rw [h]⟩
  clear hr H ci0 ci1 cj0 cj1
  generalize (f i).1 = ix at *
  generalize (f i).2 = iy at *
  generalize (f j).1 = jx at *
  generalize (f j).2 = jy at *
  have hw0 : w.drewN 0 = w := rfl
  rcases o1 with ⟨g1, o1⟩ | ⟨g1, o1⟩ | ⟨g1, o1⟩ <;> rcases o2 with ⟨g2, o2⟩ | ⟨g2, o2⟩ | ⟨g2, o2⟩
  all_goals
    have q1 := fun W => (by first | exact eqF_yes ix jx W o1 | exact eqF_no ix jx W (by rw [o1]; simp) : (Op.equalIn 9999 74 (.float .f64 ix) (.float .f64 jx)).run Tryz.prog W = .ok _ W)
    have q2 := fun W => (by first | exact eqF_yes iy jy W o2 | exact eqF_no iy jy W (by rw [o2]; simp) : (Op.equalIn 9999 74 (.float .f64 iy) (.float .f64 jy)).run Tryz.prog W = .ok _ W)
    clear o1 o2
    go_enter Tryz.func83, Tryz.ntmps83
    go_wp2_with fail
    go_region_held3 (fun w' : World => (w'.cell? ⟨bx, 0, none⟩ = some (.slice (some ⟨G, 0, none⟩) n c) ∧ w'.cell? ⟨G, i * 2, none⟩ = some (.float .f64 ix) ∧ w'.cell? ⟨G, i * 2 + 1, none⟩ = some (.float .f64 iy) ∧ w'.cell? ⟨G, j * 2, none⟩ = some (.float .f64 jx) ∧ w'.cell? ⟨G, j * 2 + 1, none⟩ = some (.float .f64 jy))) (exact ⟨hbox, hi0, hi1, hj0, hj1⟩) (fail)
    all_goals
      go_wp2
      go_ret
      refine ⟨ret_bool ?_, 1, rfl⟩
      rw [HR.out]
      have e1 := E1.out
      have e2 := E2.out
      clear E1 E2 HR
      symm
      first
        | (rw [decide_eq_true_eq]; exact Prod.ext (e1.1 (by omega)) (e2.1 (by omega)))
        | (rw [decide_eq_false_iff_not]; intro h; rw [h] at e1 e2; omega)
        | (rw [decide_eq_false_iff_not]; intro h; rw [h] at g1 g2; omega)

end Go.Proofs.YtbjjkfmdkmbcfaaGreat

namespace Go.Proofs.YtbjjkfmdkmbcfaaGreat
open Go.Shelf
def Tryz.sortL_ren : Go.Shelf.Ren := ⟨fun | 6 => 77 | 15 => 92 | 14 => 91 | 28 => 104 | 29 => 105 | 20 => 96 | 21 => 97 | 22 => 98 | 23 => 99 | 24 => 100 | 25 => 101 | 26 => 102 | 27 => 103 | 46 => 106 | 47 => 107 | 48 => 108 | 49 => 109 | 50 => 110 | 57 => 111 | n => n, fun | 22 => 41 | 24 => 3 | 25 => 120 | 3 => 3 | 39 => 128 | 0 => 0 | 53 => 105 | 55 => 22 | 4 => 4 | 46 => 133 | 45 => 132 | 50 => 137 | 5 => 5 | 9 => 9 | 66 => 141 | 70 => 145 | 76 => 147 | 77 => 148 | n => n, fun | n => n⟩
theorem Tryz.sortL : Go.Proofs.SlLaysF.n6 Tryz.prog Tryz.sortL_ren := {
  mixed := by kernel_rfl
  f6 := ⟨Tryz.f77.name, by decide, Tryz.func77.trans (congrArg some (by kernel_rfl))⟩
  f14 := ⟨Tryz.f91.name, by decide, Tryz.func91.trans (congrArg some (by kernel_rfl))⟩
  f15 := Tryz.func92.trans (congrArg some (by kernel_rfl))
  f20 := ⟨Tryz.f96.name, by decide, Tryz.func96.trans (congrArg some (by kernel_rfl))⟩
  f21 := ⟨Tryz.f97.name, by decide, Tryz.func97.trans (congrArg some (by kernel_rfl))⟩
  f22 := ⟨Tryz.f98.name, by decide, Tryz.func98.trans (congrArg some (by kernel_rfl))⟩
  f23 := ⟨Tryz.f99.name, by decide, Tryz.func99.trans (congrArg some (by kernel_rfl))⟩
  f24 := ⟨Tryz.f100.name, by decide, Tryz.func100.trans (congrArg some (by kernel_rfl))⟩
  f25 := ⟨Tryz.f101.name, by decide, Tryz.func101.trans (congrArg some (by kernel_rfl))⟩
  f26 := ⟨Tryz.f102.name, by decide, Tryz.func102.trans (congrArg some (by kernel_rfl))⟩
  f27 := ⟨Tryz.f103.name, by decide, Tryz.func103.trans (congrArg some (by kernel_rfl))⟩
  f28 := Tryz.func104.trans (congrArg some (by kernel_rfl))
  f29 := Tryz.func105.trans (congrArg some (by kernel_rfl))
  f46 := ⟨Tryz.f106.name, by decide, Tryz.func106.trans (congrArg some (by kernel_rfl))⟩
  f47 := Tryz.func107.trans (congrArg some (by kernel_rfl))
  f48 := Tryz.func108.trans (congrArg some (by kernel_rfl))
  f49 := ⟨Tryz.f109.name, by decide, Tryz.func109.trans (congrArg some (by kernel_rfl))⟩
  f50 := ⟨Tryz.f110.name, by decide, Tryz.func110.trans (congrArg some (by kernel_rfl))⟩
  f57 := ⟨Tryz.f111.name, by decide, Tryz.func111.trans (congrArg some (by kernel_rfl))⟩
  t0 := Tryz.underlying0
  a0 := Tryz.isAgg0
  z0 := Tryz.sizeOf0
  v0 := Tryz.zeroValue0
  t3 := Tryz.underlying3
  a3 := Tryz.isAgg3
  z3 := Tryz.sizeOf3
  v3 := Tryz.zeroValue3
  t4 := Tryz.underlying4
  a4 := Tryz.isAgg4
  z4 := Tryz.sizeOf4
  v4 := Tryz.zeroValue4
  t5 := Tryz.underlying5
  a5 := Tryz.isAgg5
  z5 := Tryz.sizeOf5
  v5 := Tryz.zeroValue5
  t9 := Tryz.underlying9
  a9 := Tryz.isAgg9
  z9 := Tryz.sizeOf9
  v9 := Tryz.zeroValue9
  t22 := Tryz.underlying41
  a22 := Tryz.isAgg41
  z22 := Tryz.sizeOf41
  v22 := Tryz.zeroValue41
  a24 := Tryz.isAgg3
  z24 := Tryz.sizeOf3
  t25 := Tryz.underlying120
  a25 := Tryz.isAgg120
  z25 := Tryz.sizeOf120
  v25 := Tryz.zeroValue120
  t39 := Tryz.underlying128
  a39 := Tryz.isAgg128
  z39 := Tryz.sizeOf128
  v39 := Tryz.zeroValue128
  t45 := Tryz.underlying132
  a45 := Tryz.isAgg132
  z45 := Tryz.sizeOf132
  v45 := Tryz.zeroValue132
  t46 := Tryz.underlying133
  a46 := Tryz.isAgg133
  z46 := Tryz.sizeOf133
  v46 := Tryz.zeroValue133
  t50 := Tryz.underlying137
  a50 := Tryz.isAgg137
  z50 := Tryz.sizeOf137
  v50 := Tryz.zeroValue137
  t53 := Tryz.underlying105
  a53 := Tryz.isAgg105
  z53 := Tryz.sizeOf105
  v53 := Tryz.zeroValue105
  t55 := Tryz.underlying22
  a55 := Tryz.isAgg22
  z55 := Tryz.sizeOf22
  v55 := Tryz.zeroValue22
  t66 := Tryz.underlying141
  a66 := Tryz.isAgg141
  z66 := Tryz.sizeOf141
  v66 := Tryz.zeroValue141
  t70 := Tryz.underlying145
  a70 := Tryz.isAgg145
  z70 := Tryz.sizeOf145
  v70 := Tryz.zeroValue145
  t76 := Tryz.underlying147
  a76 := Tryz.isAgg147
  z76 := Tryz.sizeOf147
  v76 := Tryz.zeroValue147
  t77 := Tryz.underlying148
  a77 := Tryz.isAgg148
  z77 := Tryz.sizeOf148
  v77 := Tryz.zeroValue148 }
def Tryz.revL_ren : Go.Shelf.Ren := ⟨fun | 35 => 68 | n => n, fun | 22 => 41 | 23 => 3 | 3 => 3 | 4 => 4 | 0 => 0 | n => n, fun | n => n⟩
theorem Tryz.revL : Go.Proofs.SlLaysE.n35 Tryz.prog Tryz.revL_ren := {
  mixed := by kernel_rfl
  f35 := ⟨Tryz.f68.name, by decide, Tryz.func68.trans (congrArg some (by kernel_rfl))⟩
  t0 := Tryz.underlying0
  a0 := Tryz.isAgg0
  z0 := Tryz.sizeOf0
  v0 := Tryz.zeroValue0
  t3 := Tryz.underlying3
  a3 := Tryz.isAgg3
  z3 := Tryz.sizeOf3
  v3 := Tryz.zeroValue3
  t4 := Tryz.underlying4
  a4 := Tryz.isAgg4
  z4 := Tryz.sizeOf4
  v4 := Tryz.zeroValue4
  t22 := Tryz.underlying41
  a22 := Tryz.isAgg41
  z22 := Tryz.sizeOf41
  v22 := Tryz.zeroValue41
  a23 := Tryz.isAgg3
  z23 := Tryz.sizeOf3 }
end Go.Proofs.YtbjjkfmdkmbcfaaGreat

namespace Go.Proofs.YtbjjkfmdkmbcfaaGreat
open Go.Shelf Go.RowKit Go.Lib Go.Sort

attribute [local go_sem ↓] Go.wp_at_zero Go.wp_at_succ

/-- A number of the list, in memory. -/
def encN (i : Nat) : Value := .int .i64 (i : Int)

theorem encN_one : OneCell encN := fun _ => rfl

/-- Is the m-th one told? (Not if it equals the one ahead of it.) -/
def kp (eq : Nat → Nat → Bool) (d : Array Nat) (m : Nat) : Bool := m == 0 || !eq d[m]! d[m - 1]!

/-- Of the first m those that are told. -/
def cpt (eq : Nat → Nat → Bool) (d : Array Nat) : Nat → List Nat
  | 0 => []
  | m + 1 => if kp eq d m then cpt eq d m ++ [d[m]!] else cpt eq d m

structure CI (eq : Nat → Nat → Bool) (d : Array Nat) (m kk : Nat) (dk : Array Nat) : Prop where
  size : dk.size = d.size
  lt : kk < m
  le : m ≤ d.size
  low : dk.toList.take kk = cpt eq d m
  high : ∀ j, m ≤ j + 1 → dk[j]! = d[j]!

theorem cpt_all (eq : Nat → Nat → Bool) (d : Array Nat) : ∀ m, m ≤ d.size → (∀ j, j < m → kp eq d j = true) → cpt eq d m = d.toList.take m := by
  intro m
  induction m with
  | zero => intro _ _; rfl
  | succ m ih =>
    intro hm h
    rw [cpt, if_pos (h m (by omega)), ih (by omega) fun j hj => h j (by omega), List.take_succ_eq_append_getElem (by simp; omega)]
    simp [show m < d.size by omega]

theorem CI.start {eq : Nat → Nat → Bool} {d : Array Nat} {k : Nat} (hk : k < d.size) (h : ∀ j, j < k → kp eq d j = true) (hn : kp eq d k = false) : CI eq d (k + 1) k d :=
  ⟨rfl, by omega, by omega, by rw [cpt, if_neg (by simp [hn]), cpt_all eq d k (by omega) h], fun _ _ => rfl⟩

theorem CI.skip {eq : Nat → Nat → Bool} {d dk : Array Nat} {m kk : Nat} (h : CI eq d m kk dk) (hm : m < d.size) (hn : kp eq d m = false) : CI eq d (m + 1) kk dk :=
  ⟨h.size, by have := h.lt; omega, by omega, by rw [cpt, if_neg (by simp [hn]), h.low], fun j hj => h.high j (by omega)⟩

theorem CI.keep {eq : Nat → Nat → Bool} {d dk : Array Nat} {m kk : Nat} (h : CI eq d m kk dk) (hm : m < d.size) (hn : kp eq d m = true) : CI eq d (m + 1) (kk + 1) (dk.setIfInBounds kk d[m]!) := by
  have hl := h.lt
  have hs := h.size
  refine ⟨by simpa using h.size, by omega, by omega, ?_, fun j hj => ?_⟩
  · rw [cpt, if_pos hn, ← h.low]
    rw [Array.toList_setIfInBounds, List.take_succ_eq_append_getElem (by simp; omega), List.take_set_of_le (Nat.le_refl _), List.getElem_set_self]
  · rw [← h.high j (by omega)]
    simp only [Array.getElem!_eq_getD, Array.getD_eq_getD_getElem?]
    rw [Array.getElem?_setIfInBounds_ne (by omega)]

theorem CI.len {eq : Nat → Nat → Bool} {d dk : Array Nat} {m kk : Nat} (h : CI eq d m kk dk) : (cpt eq d m).length = kk := by
  have h1 := h.lt
  have h2 := h.le
  have h3 := h.size
  rw [← h.low, List.length_take]
  simp
  omega

theorem kp_pos {eq : Nat → Nat → Bool} {d : Array Nat} {m : Nat} (h : eq d[m]! d[m - 1]! = false) : kp eq d m = true := by simp [kp, h]
theorem kp_neg {eq : Nat → Nat → Bool} {d : Array Nat} {m : Nat} (h0 : 1 ≤ m) (h : eq d[m]! d[m - 1]! = true) : kp eq d m = false := by
  have : (m == 0) = false := by simp; omega
  simp [kp, h, this]

/-- Only the row at blk was turned. -/
theorem put_below (w : World) (blk off q : Nat) (d : Array Nat) : Below blk w (putRow encN (Sort.ahead w q) blk off d) :=
  ⟨rfl, rfl, rfl, by simp [putRow, mapBlock, Sort.ahead], fun k hk => by
    show (w.heap.modify blk _)[k]? = _
    rw [Array.getElem?_modify, if_neg (by omega)]⟩

theorem put_size (w : World) (blk off q : Nat) (d : Array Nat) : (putRow encN (Sort.ahead w q) blk off d).heap.size = w.heap.size := by simp [putRow, mapBlock, Sort.ahead]

end Go.Proofs.YtbjjkfmdkmbcfaaGreat
