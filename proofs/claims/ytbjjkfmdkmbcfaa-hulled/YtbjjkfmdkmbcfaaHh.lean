import Derived.Test.YtbjjkfmdkmbcfaaHg
import Derived.Test.YtbjjkfmdkmbcfaaHl
import Derived.Shelf.SlicesE.Compact
import Derived.Lib.RowBridge
namespace Go.Proofs.Ytbjjkfmdkmbcfaa
open Go.Shelf Go.RowKit Go.Lib Go.Sort

attribute [local go_sem ↓] Go.wp_at_zero Go.wp_at_succ

/-- A number of the list, in memory. -/
def encN (i : Nat) : Value := .int .i64 (i : Int)

theorem encN_one : OneCell encN := fun _ => rfl

/-- Is the m-th one told? (Not if it equals the one ahead of it.) -/
def kp (eq : Nat → Nat → Bool) (d : Array Nat) (m : Nat) : Bool := m == 0 || !eq d[m]! d[m - 1]!

/-- Of the first m those that are told. -/
def cpt (eq : Nat → Nat → Bool) (d : Array Nat) : Nat → List Nat
  | 0 => []
  | m + 1 => if kp eq d m then cpt eq d m ++ [d[m]!] else cpt eq d m

structure CI (eq : Nat → Nat → Bool) (d : Array Nat) (m kk : Nat) (dk : Array Nat) : Prop where
  size : dk.size = d.size
  lt : kk < m
  le : m ≤ d.size
  low : dk.toList.take kk = cpt eq d m
  high : ∀ j, m ≤ j + 1 → dk[j]! = d[j]!

theorem cpt_all (eq : Nat → Nat → Bool) (d : Array Nat) : ∀ m, m ≤ d.size → (∀ j, j < m → kp eq d j = true) → cpt eq d m = d.toList.take m := by
  intro m
  induction m with
  | zero => intro _ _; rfl
  | succ m ih =>
    intro hm h
    rw [cpt, if_pos (h m (by omega)), ih (by omega) fun j hj => h j (by omega), List.take_succ_eq_append_getElem (by simp; omega)]
    simp [show m < d.size by omega]

theorem CI.start {eq : Nat → Nat → Bool} {d : Array Nat} {k : Nat} (hk : k < d.size) (h : ∀ j, j < k → kp eq d j = true) (hn : kp eq d k = false) : CI eq d (k + 1) k d :=
  ⟨rfl, by omega, by omega, by rw [cpt, if_neg (by simp [hn]), cpt_all eq d k (by omega) h], fun _ _ => rfl⟩

theorem CI.skip {eq : Nat → Nat → Bool} {d dk : Array Nat} {m kk : Nat} (h : CI eq d m kk dk) (hm : m < d.size) (hn : kp eq d m = false) : CI eq d (m + 1) kk dk :=
  ⟨h.size, by have := h.lt; omega, by omega, by rw [cpt, if_neg (by simp [hn]), h.low], fun j hj => h.high j (by omega)⟩

theorem CI.keep {eq : Nat → Nat → Bool} {d dk : Array Nat} {m kk : Nat} (h : CI eq d m kk dk) (hm : m < d.size) (hn : kp eq d m = true) : CI eq d (m + 1) (kk + 1) (dk.setIfInBounds kk d[m]!) := by
  have hl := h.lt
  have hs := h.size
  refine ⟨by simpa using h.size, by omega, by omega, ?_, fun j hj => ?_⟩
  · rw [cpt, if_pos hn, ← h.low]
    rw [Array.toList_setIfInBounds, List.take_succ_eq_append_getElem (by simp; omega), List.take_set_of_le (Nat.le_refl _), List.getElem_set_self]
  · rw [← h.high j (by omega)]
    simp only [Array.getElem!_eq_getD, Array.getD_eq_getD_getElem?]
    rw [Array.getElem?_setIfInBounds_ne (by omega)]

theorem CI.len {eq : Nat → Nat → Bool} {d dk : Array Nat} {m kk : Nat} (h : CI eq d m kk dk) : (cpt eq d m).length = kk := by
  have h1 := h.lt
  have h2 := h.le
  have h3 := h.size
  rw [← h.low, List.length_take]
  simp
  omega

theorem kp_pos {eq : Nat → Nat → Bool} {d : Array Nat} {m : Nat} (h : eq d[m]! d[m - 1]! = false) : kp eq d m = true := by simp [kp, h]
theorem kp_neg {eq : Nat → Nat → Bool} {d : Array Nat} {m : Nat} (h0 : 1 ≤ m) (h : eq d[m]! d[m - 1]! = true) : kp eq d m = false := by
  have : (m == 0) = false := by simp; omega
  simp [kp, h, this]

/-- Only the row at blk was turned. -/
theorem put_below (w : World) (blk off q : Nat) (d : Array Nat) : Below blk w (putRow encN (Sort.ahead w q) blk off d) :=
  ⟨rfl, rfl, rfl, by simp [putRow, mapBlock, Sort.ahead], fun k hk => by
    show (w.heap.modify blk _)[k]? = _
    rw [Array.getElem?_modify, if_neg (by omega)]⟩

theorem put_size (w : World) (blk off q : Nat) (d : Array Nat) : (putRow encN (Sort.ahead w q) blk off d).heap.size = w.heap.size := by simp [putRow, mapBlock, Sort.ahead]

end Go.Proofs.Ytbjjkfmdkmbcfaa
