import Derived.Test.YtbjjkfmdkmbcfaaRound
/-! Numbers kept as several that do not reach into one another: sums, and the sign of the greatest. -/
namespace PlRd

/-- From the least to the greatest, none of them 0, each below the last digit of all that follow. -/
def NO : List Int → Prop
  | [] => True
  | x :: xs => x ≠ 0 ∧ (∃ k : Nat, x.natAbs < 2 ^ k ∧ ∀ y ∈ xs, (2 : Int) ^ k ∣ y) ∧ NO xs

/-- x is added to a number's parts, from the least on. -/
def grow : Int → List Int → List Int
  | q, [] => if q = 0 then [] else [q]
  | q, e :: es => if q + e - rnd (q + e) = 0 then grow (rnd (q + e)) es else (q + e - rnd (q + e)) :: grow (rnd (q + e)) es

theorem grow_sum (l : List Int) : ∀ q, (grow q l).sum = q + l.sum := by
  induction l with
  | nil => intro q; unfold grow; split <;> simp_all
  | cons e es ih =>
    intro q
    unfold grow
    split
    · rw [ih, List.sum_cons]; omega
    · rw [List.sum_cons, List.sum_cons, ih]; omega

theorem grow_dvd {j : Nat} (l : List Int) : ∀ q, (2 : Int) ^ j ∣ q → (∀ e ∈ l, (2 : Int) ^ j ∣ e) → ∀ y ∈ grow q l, (2 : Int) ^ j ∣ y := by
  induction l with
  | nil => intro q hq _ y hy; unfold grow at hy; split at hy <;> simp_all
  | cons e es ih =>
    intro q hq hl y hy
    have hs : (2 : Int) ^ j ∣ q + e := Int.dvd_add hq (hl e (by simp))
    have hr := dvd_rnd hs
    have hi := ih (rnd (q + e)) hr (fun x hx => hl x (by simp [hx]))
    unfold grow at hy
    split at hy
    · exact hi y hy
    · rcases List.mem_cons.1 hy with rfl | h
      · exact Int.dvd_sub hs hr
      · exact hi y h

theorem grow_fl (l : List Int) : ∀ q, Fl q → (∀ e ∈ l, Fl e) → ∀ y ∈ grow q l, Fl y := by
  induction l with
  | nil => intro q hq _ y hy; unfold grow at hy; split at hy <;> simp_all
  | cons e es ih =>
    intro q hq hl y hy
    have hi := ih (rnd (q + e)) (fl_rnd _) (fun x hx => hl x (by simp [hx]))
    unfold grow at hy
    split at hy
    · exact hi y hy
    · rcases List.mem_cons.1 hy with rfl | h
      · exact fl_err hq (hl e (by simp))
      · exact hi y h

theorem grow_no (l : List Int) : ∀ q, Fl q → NO l → NO (grow q l) := by
  induction l with
  | nil => intro q hq _; unfold grow; split <;> simp_all [NO]; exact ⟨q.natAbs, Nat.lt_two_pow_self⟩
  | cons e es ih =>
    intro q hq hl
    obtain ⟨he0, ⟨k', hk', hdv⟩, hno⟩ := hl
    have hi := ih (rnd (q + e)) (fl_rnd _) hno
    unfold grow
    split
    · exact hi
    · rename_i hne
      refine ⟨hne, ?_, hi⟩
      obtain ⟨k, hk, hd⟩ := rnd_gap _ hne
      have hn := rnd_near (q + e) q hq
      by_cases hkk : k ≤ k'
      · exact ⟨k, hk, grow_dvd es _ hd (fun y hy => Int.dvd_trans (pow_dvd hkk) (hdv y hy))⟩
      · exact ⟨k', by omega, grow_dvd es _ (Int.dvd_trans (pow_dvd (by omega)) hd) hdv⟩

theorem grow_length (l : List Int) : ∀ q, (grow q l).length ≤ l.length + 1 := by
  induction l with
  | nil => intro q; unfold grow; split <;> simp
  | cons e es ih =>
    intro q
    have := ih (rnd (q + e))
    unfold grow
    split <;> simp <;> omega

theorem dvd_sum {j : Nat} (l : List Int) (h : ∀ y ∈ l, (2 : Int) ^ j ∣ y) : (2 : Int) ^ j ∣ l.sum := by
  induction l with
  | nil => simp
  | cons x xs ih => rw [List.sum_cons]; exact Int.dvd_add (h x (by simp)) (ih (fun y hy => h y (by simp [hy])))

theorem no_ne (l : List Int) (t : Int) (h : NO (l ++ [t])) : t ≠ 0 := by
  induction l with
  | nil => exact h.1
  | cons x xs ih => exact ih h.2.2

/-- All parts but the greatest are together less than it. -/
theorem no_last (l : List Int) (t : Int) (h : NO (l ++ [t])) : l.sum.natAbs < t.natAbs := by
  have ht := no_ne l t h
  induction l with
  | nil => simp; exact ht
  | cons x xs ih =>
    obtain ⟨hx, ⟨k, hk, hd⟩, hno⟩ := h
    have hi := ih hno
    have d1 : (2 : Int) ^ k ∣ xs.sum := dvd_sum xs (fun y hy => hd y (by simp [hy]))
    have d2 : (2 : Int) ^ k ∣ t := hd t (by simp)
    obtain ⟨a, ha⟩ := d1
    obtain ⟨b, hb⟩ := d2
    rw [ha, hb, Int.natAbs_mul, Int.natAbs_mul, natAbs_two_pow] at hi
    have hab : a.natAbs < b.natAbs := Nat.lt_of_mul_lt_mul_left hi
    have hm : 2 ^ k * (a.natAbs + 1) ≤ 2 ^ k * b.natAbs := Nat.mul_le_mul_left _ hab
    have e1 : xs.sum.natAbs = 2 ^ k * a.natAbs := by rw [ha, Int.natAbs_mul, natAbs_two_pow]
    have e2 : t.natAbs = 2 ^ k * b.natAbs := by rw [hb, Int.natAbs_mul, natAbs_two_pow]
    rw [Nat.mul_add] at hm
    rw [List.sum_cons]
    omega

def sgn (x : Int) : Int := if 0 < x then 1 else if x < 0 then -1 else 0

theorem sgn_sum (l : List Int) (t : Int) (h : NO (l ++ [t])) : sgn (l ++ [t]).sum = sgn t := by
  have h1 := no_last l t h
  rw [List.sum_append, List.sum_cons, List.sum_nil]
  unfold sgn
  split <;> split <;> (try split) <;> (try split) <;> omega

theorem snoc_cases {α : Type} (l : List α) : l = [] ∨ ∃ l' t, l = l' ++ [t] := by
  rcases List.eq_nil_or_concat l with h | ⟨l', t, h⟩
  · exact .inl h
  · exact .inr ⟨l', t, by rw [h, List.concat_eq_append]⟩

theorem sgn_last (l : List Int) (h : NO l) : sgn l.sum = match l.getLast? with | none => 0 | some t => sgn t := by
  rcases snoc_cases l with rfl | ⟨l', t, rfl⟩
  · simp [sgn]
  · rw [sgn_sum l' t h]; simp

theorem no_sum_le (l : List Int) (h : NO l) (M : Nat) (hM : ∀ y ∈ l, y.natAbs ≤ M) : l.sum.natAbs ≤ 2 * M := by
  rcases snoc_cases l with rfl | ⟨l', t, rfl⟩
  · simp
  · have h1 := no_last l' t h
    have h2 := hM t (by simp)
    rw [List.sum_append, List.sum_cons, List.sum_nil]
    omega

end PlRd
