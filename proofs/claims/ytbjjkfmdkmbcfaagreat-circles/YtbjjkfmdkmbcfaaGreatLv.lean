import Derived.Test.YtbjjkfmdkmbcfaaGreatExpand
/-! Whole numbers by limbs of 32 bits, the lowest first. -/
namespace PlLv

/-- 2 ^ 32, n times. -/
def P (n : Nat) : Nat := 4294967296 ^ n

theorem P_zero : P 0 = 1 := rfl
theorem P_succ (n : Nat) : P (n + 1) = 4294967296 * P n := by unfold P; rw [Nat.pow_succ, Nat.mul_comm]
theorem P_pos (n : Nat) : 0 < P n := Nat.pow_pos (by decide)
theorem P_add (a b : Nat) : P (a + b) = P a * P b := Nat.pow_add ..
theorem P_mono {a b : Nat} (h : a ≤ b) : P a ≤ P b := Nat.pow_le_pow_right (by decide) h

def lv : List Nat → Nat
  | [] => 0
  | l :: ls => l + 4294967296 * lv ls

/-- Each limb fits. -/
def Ok (ls : List Nat) : Prop := ∀ l ∈ ls, l < 4294967296

theorem Ok.tail {l : Nat} {ls : List Nat} (h : Ok (l :: ls)) : Ok ls := fun x hx => h x (by simp [hx])
theorem Ok.head {l : Nat} {ls : List Nat} (h : Ok (l :: ls)) : l < 4294967296 := h l (by simp)
theorem Ok.append {a b : List Nat} (h : Ok a) (k : Ok b) : Ok (a ++ b) := fun x hx => by
  rcases List.mem_append.1 hx with hx | hx
  · exact h x hx
  · exact k x hx
theorem Ok.take {a : List Nat} (h : Ok a) (i : Nat) : Ok (a.take i) := fun x hx => h x (List.mem_of_mem_take hx)
theorem Ok.at {a : List Nat} (h : Ok a) (i : Nat) : a.getD i 0 < 4294967296 := by
  rw [List.getD_eq_getElem?_getD]
  by_cases hi : i < a.length
  · rw [List.getElem?_eq_getElem hi]; exact h _ (List.getElem_mem hi)
  · rw [List.getElem?_eq_none (by omega)]; decide

theorem lv_append (a b : List Nat) : lv (a ++ b) = lv a + P a.length * lv b := by
  induction a with
  | nil => simp [lv, P_zero]
  | cons x xs ih =>
    simp only [List.cons_append, lv, List.length_cons, P_succ, ih]
    rw [Nat.mul_add, Nat.mul_assoc]; omega

theorem lv_snoc (a : List Nat) (x : Nat) : lv (a ++ [x]) = lv a + P a.length * x := by
  rw [lv_append]; simp [lv]

theorem lv_lt (a : List Nat) (h : Ok a) : lv a < P a.length := by
  induction a with
  | nil => simp [lv, P_zero]
  | cons x xs ih =>
    have h1 := ih h.tail
    have h2 := h.head
    simp only [lv, List.length_cons, P_succ]
    omega

theorem take_succ_getD (a : List Nat) (i : Nat) (h : i < a.length) : a.take (i + 1) = a.take i ++ [a.getD i 0] := by
  rw [List.take_succ_eq_append_getElem h, List.getD_eq_getElem?_getD, List.getElem?_eq_getElem h]; rfl

theorem lv_take_succ (a : List Nat) (i : Nat) : lv (a.take (i + 1)) = lv (a.take i) + P i * a.getD i 0 := by
  by_cases h : i < a.length
  · rw [take_succ_getD a i h, lv_snoc, List.length_take, Nat.min_eq_left (by omega)]
  · rw [List.take_of_length_le (by omega), List.take_of_length_le (by omega), List.getD_eq_getElem?_getD, List.getElem?_eq_none (by omega)]
    simp

/-- No nought at the end. -/
def Tr (ls : List Nat) : Prop := ∀ n, ls.length = n + 1 → ls.getD n 0 ≠ 0

theorem tr_nil : Tr [] := fun n h => by simp at h

/-- The limbs without noughts at their end. -/
theorem lv_take_zero (a : List Nat) (n : Nat) (h : ∀ t, n ≤ t → a.getD t 0 = 0) : lv (a.take n) = lv a := by
  have key : ∀ k, lv (a.take (n + k)) = lv (a.take n) := by
    intro k
    induction k with
    | zero => rfl
    | succ k ih => rw [← Nat.add_assoc, lv_take_succ, ih, h (n + k) (by omega)]; simp
  have := key a.length
  rw [List.take_of_length_le (by omega)] at this
  exact this.symm

theorem lv_ge (a : List Nat) (h : Tr a) (h0 : a ≠ []) : P (a.length - 1) ≤ lv a := by
  have hp : 0 < a.length := List.length_pos_iff.2 h0
  have h1 := lv_take_succ a (a.length - 1)
  rw [Nat.sub_add_cancel hp, List.take_of_length_le (Nat.le_refl _)] at h1
  have h2 := h (a.length - 1) (by omega)
  have h3 : P (a.length - 1) * 1 ≤ P (a.length - 1) * a.getD (a.length - 1) 0 := Nat.mul_le_mul_left _ (by omega)
  omega

theorem lv_zero_iff (a : List Nat) (h : Tr a) : lv a = 0 ↔ a = [] := by
  constructor
  · intro h0
    by_cases ha : a = []
    · exact ha
    · have := lv_ge a h ha
      have := P_pos (a.length - 1)
      omega
  · rintro rfl; rfl

theorem lt_of_length (a b : List Nat) (ha : Ok a) (hb : Tr b) (h : a.length < b.length) : lv a < lv b := by
  have h1 := lv_lt a ha
  have h2 := lv_ge b hb (by intro h0; rw [h0] at h; simp at h)
  have h3 := P_mono (show a.length ≤ b.length - 1 by omega)
  omega

/-- Two rows that are one from place i + 1 on stand as their limbs at i. -/
theorem lt_of_at (a b : List Nat) (i : Nat) (ha : Ok a) (hl : a.length = b.length) (hi : i < a.length) (hd : ∀ j, i < j → j < a.length → a.getD j 0 = b.getD j 0) (h : a.getD i 0 < b.getD i 0) : lv a < lv b := by
  have key : ∀ k, i + 1 + k ≤ a.length → lv (a.take (i + 1 + k)) < lv (b.take (i + 1 + k)) := by
    intro k
    induction k with
    | zero =>
      intro _
      rw [Nat.add_zero, lv_take_succ, lv_take_succ]
      have h1 := lv_lt (a.take i) (ha.take i)
      rw [List.length_take, Nat.min_eq_left (by omega)] at h1
      have h2 : P i * (a.getD i 0 + 1) ≤ P i * b.getD i 0 := Nat.mul_le_mul_left _ h
      rw [Nat.mul_add] at h2
      omega
    | succ k ih =>
      intro hk
      have := ih (by omega)
      rw [← Nat.add_assoc, lv_take_succ, lv_take_succ, hd (i + 1 + k) (by omega) (by omega)]
      omega
  have := key (a.length - (i + 1)) (by omega)
  rw [List.take_of_length_le (by omega), List.take_of_length_le (by omega)] at this
  exact this

theorem eq_of_all (a b : List Nat) (hl : a.length = b.length) (hd : ∀ j, j < a.length → a.getD j 0 = b.getD j 0) : a = b := by
  apply List.ext_getElem hl
  intro i h1 h2
  have := hd i h1
  rw [List.getD_eq_getElem?_getD, List.getD_eq_getElem?_getD, List.getElem?_eq_getElem h1, List.getElem?_eq_getElem h2] at this
  exact this

/-- How two numbers stand. -/
def cmp (a b : Nat) : Int := if a < b then -1 else if b < a then 1 else 0

/-- A number with its sign. -/
def sv (neg : Bool) (ls : List Nat) : Int := if neg then -(lv ls : Int) else (lv ls : Int)

end PlLv
