import GoSem.Core.Float
import Derived.Test.YtbjjkfmdkmbcfaaGreatRows
import Derived.WalkKit
import Derived.WalkSpells
import Derived.WalkLawsBesides
import Derived.Laws.Externs
/-! Whole numbers rounded to 53 binary digits, to the nearest, ties to even; sums and products and what the rounding leaves. -/
namespace PlRd

/-- The nearest whole number to 'n / 2 ^ d', ties to even. -/
def cutE (n d : Nat) : Nat :=
  n / 2 ^ d + (decide (2 ^ d < 2 * (n % 2 ^ d)) || (decide (2 ^ d = 2 * (n % 2 ^ d)) && decide (n / 2 ^ d % 2 = 1))).toNat

/-- How many digits are dropped. -/
def dropOf (n : Nat) : Nat := n.log2 - 52

def rndN (n : Nat) : Nat := cutE n (dropOf n) * 2 ^ dropOf n

def rnd (x : Int) : Int := if x < 0 then -(rndN x.natAbs : Int) else (rndN x.natAbs : Int)

/-- Has at most 53 digits. -/
def Fl (x : Int) : Prop := ∃ (m : Int) (e : Nat), x = m * 2 ^ e ∧ m.natAbs ≤ 2 ^ 53

theorem rnd_neg (x : Int) : rnd (-x) = -rnd x := by
  unfold rnd
  rcases Int.lt_trichotomy x 0 with h | h | h
  · rw [if_neg (by omega), if_pos h]; simp
  · subst h; simp [rndN, cutE, dropOf]
  · rw [if_pos (by omega), if_neg (by omega)]; simp

theorem fl_neg {x : Int} (h : Fl x) : Fl (-x) := by
  obtain ⟨m, e, rfl, hm⟩ := h
  exact ⟨-m, e, by simp [Int.neg_mul], by simpa using hm⟩

theorem pow_dvd {j d : Nat} (h : j ≤ d) : (2 : Int) ^ j ∣ 2 ^ d := by
  obtain ⟨t, rfl⟩ := Nat.exists_eq_add_of_le h
  rw [Int.pow_add]; exact Int.dvd_mul_right ..

theorem two_pow_pos (k : Nat) : (0 : Int) < 2 ^ k := Int.pow_pos (by decide)

/-- 'rndN' by its parts. -/
theorem rndN_parts (n : Nat) (hn : n ≠ 0) : ∃ k : Nat, rndN n = k * 2 ^ dropOf n ∧ k ≤ 2 ^ 53 ∧ (dropOf n = 0 → k = n) ∧
    (0 < dropOf n → 2 ^ 52 ≤ k ∧ 2 ^ (52 + dropOf n) ≤ n ∧ n < 2 ^ (53 + dropOf n)) ∧ 2 * rndN n ≤ 2 * n + 2 ^ dropOf n ∧ 2 * n ≤ 2 * rndN n + 2 ^ dropOf n ∧ (n % 2 ^ dropOf n = 0 → rndN n = n) := by
  have hlo : 2 ^ n.log2 ≤ n := Nat.log2_self_le hn
  have hhi : n < 2 ^ (n.log2 + 1) := Nat.lt_log2_self
  have hG : 0 < 2 ^ dropOf n := Nat.two_pow_pos _
  have hdm := Nat.div_add_mod n (2 ^ dropOf n)
  have hml := Nat.mod_lt n hG
  refine ⟨cutE n (dropOf n), rfl, ?_, ?_, ?_, ?_, ?_, ?_⟩
  · have h1 : n / 2 ^ dropOf n < 2 ^ 53 := by
      rw [Nat.div_lt_iff_lt_mul hG, ← Nat.pow_add]
      refine Nat.lt_of_lt_of_le hhi (Nat.pow_le_pow_right (by decide) ?_)
      unfold dropOf; omega
    have h2 := Bool.toNat_le (decide (2 ^ dropOf n < 2 * (n % 2 ^ dropOf n)) || (decide (2 ^ dropOf n = 2 * (n % 2 ^ dropOf n)) && decide (n / 2 ^ dropOf n % 2 = 1)))
    unfold cutE
    omega
  · intro h0
    rw [h0]
    simp [cutE, Nat.mod_one]
  · intro hp
    have hL : n.log2 = 52 + dropOf n := by unfold dropOf at hp ⊢; omega
    have h1 : 2 ^ (52 + dropOf n) ≤ n := by rw [← hL]; exact hlo
    have h2 : n < 2 ^ (53 + dropOf n) := by rw [show 53 + dropOf n = n.log2 + 1 by omega]; exact hhi
    refine ⟨?_, h1, h2⟩
    have : 2 ^ 52 ≤ n / 2 ^ dropOf n := by rw [Nat.le_div_iff_mul_le hG, ← Nat.pow_add]; exact h1
    unfold cutE; omega
  · show 2 * (cutE n (dropOf n) * 2 ^ dropOf n) ≤ _
    unfold cutE
    generalize hq : n / 2 ^ dropOf n = q at *
    generalize hr : n % 2 ^ dropOf n = r at *
    generalize 2 ^ dropOf n = G at *
    by_cases c1 : G < 2 * r
    · simp [c1, Nat.add_mul]; rw [Nat.mul_comm q G]; omega
    · by_cases c2 : G = 2 * r
      · by_cases c3 : q % 2 = 1
        · simp [c2, c3, Nat.add_mul]; rw [Nat.mul_comm q]; subst c2; omega
        · simp [c2, c3]; rw [Nat.mul_comm q]; subst c2; omega
      · simp [c1, c2]; rw [Nat.mul_comm q]; omega
  · show _ ≤ 2 * (cutE n (dropOf n) * 2 ^ dropOf n) + _
    unfold cutE
    generalize hq : n / 2 ^ dropOf n = q at *
    generalize hr : n % 2 ^ dropOf n = r at *
    generalize 2 ^ dropOf n = G at *
    by_cases c1 : G < 2 * r
    · simp [c1, Nat.add_mul]; rw [Nat.mul_comm q G]; omega
    · by_cases c2 : G = 2 * r
      · by_cases c3 : q % 2 = 1
        · simp [c2, c3, Nat.add_mul]; rw [Nat.mul_comm q]; subst c2; omega
        · simp [c2, c3]; rw [Nat.mul_comm q]; subst c2; omega
      · simp [c1, c2]; rw [Nat.mul_comm q]; omega
  · intro h0
    show cutE n (dropOf n) * 2 ^ dropOf n = n
    unfold cutE
    rw [h0]
    have : ¬ (2 ^ dropOf n = 0) := by omega
    simp
    rw [Nat.mul_comm]; omega

/-- What 'rnd' gives, of a number that is not 0: a number k of at most 53 digits, d places up. -/
theorem rnd_parts (x : Int) : ∃ (k : Int) (d : Nat), rnd x = k * 2 ^ d ∧ k.natAbs ≤ 2 ^ 53 ∧ (d = 0 → rnd x = x) ∧
    (0 < d → 2 ^ (52 + d) ≤ x.natAbs) ∧ 2 * (x - rnd x).natAbs ≤ 2 ^ d ∧ ((2 : Int) ^ d ∣ x → rnd x = x) ∧ (0 ≤ x → 0 ≤ rnd x) ∧ (x ≤ 0 → rnd x ≤ 0) ∧ (0 < d → 2 ^ (52 + d) ≤ (rnd x).natAbs) := by
  by_cases h0 : x = 0
  · subst h0
    exact ⟨0, 0, by simp [rnd, rndN, cutE, dropOf], by simp, by simp [rnd, rndN, cutE, dropOf], by simp, by simp [rnd, rndN, cutE, dropOf], by simp [rnd, rndN, cutE, dropOf], by simp [rnd, rndN, cutE, dropOf], by simp [rnd, rndN, cutE, dropOf], by simp⟩
  · obtain ⟨k, h1, h2, h3, h4, h5, h6, h7⟩ := rndN_parts x.natAbs (by omega)
    have hd : (2 : Int) ^ dropOf x.natAbs ∣ x → rndN x.natAbs = x.natAbs := by
      intro hdv
      apply h7
      have : ((2 ^ dropOf x.natAbs : Nat) : Int) ∣ x := by simpa using hdv
      exact Nat.mod_eq_zero_of_dvd (by simpa using Int.natAbs_dvd_natAbs.2 this)
    have hz : dropOf x.natAbs = 0 → rndN x.natAbs = x.natAbs := by
      intro h; apply h7; rw [h]; simp [Nat.mod_one]
    have hg : 0 < dropOf x.natAbs → 2 ^ (52 + dropOf x.natAbs) ≤ rndN x.natAbs := by
      intro hp
      rw [h1, Nat.pow_add]
      exact Nat.mul_le_mul_right _ (h4 hp).1
    generalize hG : 2 ^ dropOf x.natAbs = G at *
    have hc : ((2 : Int) ^ dropOf x.natAbs) = (G : Int) := by rw [← hG]; simp
    unfold rnd
    by_cases hs : x < 0
    · rw [if_pos hs]
      refine ⟨-(k : Int), dropOf x.natAbs, ?_, by simpa using h2, ?_, fun hp => (h4 hp).2.1, ?_, ?_, ?_, ?_, ?_⟩
      · rw [h1, hc]; simp [Int.neg_mul]
      · intro h; rw [hz h]; omega
      · rw [hG]; omega
      · intro h; rw [hd h]; omega
      · intro h; omega
      · intro _; omega
      · intro hp; have := hg hp; omega
    · rw [if_neg hs]
      refine ⟨(k : Int), dropOf x.natAbs, ?_, by simpa using h2, ?_, fun hp => (h4 hp).2.1, ?_, ?_, ?_, ?_, ?_⟩
      · rw [h1, hc]; simp
      · intro h; rw [hz h]; omega
      · rw [hG]; omega
      · intro h; rw [hd h]; omega
      · intro h; omega
      · intro h; have : x = 0 := by omega
        exact absurd this h0
      · intro hp; have := hg hp; omega

theorem fl_rnd (x : Int) : Fl (rnd x) := by
  obtain ⟨k, d, h, hk, _⟩ := rnd_parts x
  exact ⟨k, d, h, hk⟩

/-- A multiple of a power of two is rounded to one. -/
theorem dvd_rnd {j : Nat} {x : Int} (h : (2 : Int) ^ j ∣ x) : (2 : Int) ^ j ∣ rnd x := by
  obtain ⟨k, d, h1, _, _, _, _, h7, _⟩ := rnd_parts x
  by_cases hjd : j ≤ d
  · rw [h1]
    exact Int.dvd_mul_of_dvd_right (pow_dvd hjd)
  · rw [h7 (Int.dvd_trans (pow_dvd (by omega)) h)]
    exact h

theorem natAbs_two_pow (d : Nat) : ((2 : Int) ^ d).natAbs = 2 ^ d := by
  rw [Int.natAbs_pow]; rfl

/-- The rounded number is a nearest one of all that have at most 53 digits. -/
theorem rnd_near (x f : Int) (hf : Fl f) : (x - rnd x).natAbs ≤ (x - f).natAbs := by
  -- of numbers that are not below 0
  have key : ∀ x : Int, 0 ≤ x → ∀ f : Int, Fl f → (x - rnd x).natAbs ≤ (x - f).natAbs := by
    intro x hx f hf
    obtain ⟨k, d, h1, h2, h3, h4, h5, h6, h7, _⟩ := rnd_parts x
    by_cases hd : d = 0
    · rw [h3 hd]; simp
    · have h4 := h4 (by omega)
      have hGp : (0 : Int) < 2 ^ d := two_pow_pos d
      have hG2 : (2 ^ (52 + d) : Nat) = 2 ^ 52 * 2 ^ d := Nat.pow_add ..
      have e52 : ((2 ^ 52 * 2 ^ d : Nat) : Int) = 2 ^ 52 * 2 ^ d := by simp
      -- any multiple of 2 ^ d is not nearer
      have mult : ∀ k' : Int, (x - rnd x).natAbs ≤ (x - k' * 2 ^ d).natAbs := by
        intro k'
        have hn : ((2 : Int) ^ d).natAbs = 2 ^ d := natAbs_two_pow d
        rw [h1]
        rw [h1] at h5
        rcases Int.lt_trichotomy k' k with hlt | heq | hgt
        · have : (k - k') * 2 ^ d ≥ 1 * 2 ^ d := Int.mul_le_mul_of_nonneg_right (by omega) (by omega)
          rw [Int.sub_mul] at this
          omega
        · rw [heq]; omega
        · have : (k' - k) * 2 ^ d ≥ 1 * 2 ^ d := Int.mul_le_mul_of_nonneg_right (by omega) (by omega)
          rw [Int.sub_mul] at this
          omega
      obtain ⟨m, e, rfl, hm⟩ := hf
      by_cases hed : d ≤ e
      · obtain ⟨t, rfl⟩ := Nat.exists_eq_add_of_le hed
        have := mult (m * 2 ^ t)
        rw [Int.pow_add, show m * (2 ^ d * 2 ^ t) = m * 2 ^ t * 2 ^ d by rw [Int.mul_assoc, Int.mul_comm (2 ^ d)]]
        exact this
      · -- f is at most 2 ^ (52 + d)
        have h8 := mult (2 ^ 52)
        have hle : m * 2 ^ e ≤ 2 ^ 52 * 2 ^ d := by
          have a1 : m * 2 ^ e ≤ 2 ^ 53 * 2 ^ e := Int.mul_le_mul_of_nonneg_right (by omega) (by have := two_pow_pos e; omega)
          have a2 : (2 : Int) ^ 53 * 2 ^ e ≤ 2 ^ 52 * 2 ^ d := by
            rw [show (2 : Int) ^ 53 = 2 ^ 52 * 2 by rfl, Int.mul_assoc]
            refine Int.mul_le_mul_of_nonneg_left ?_ (by decide)
            rw [show (2 : Int) * 2 ^ e = 2 ^ (e + 1) by rw [Int.pow_succ, Int.mul_comm]]
            exact Int.le_of_dvd (two_pow_pos d) (pow_dvd (by omega))
          omega
        omega
  by_cases hx : 0 ≤ x
  · exact key x hx f hf
  · have := key (-x) (by omega) (-f) (fl_neg hf)
    rw [rnd_neg] at this
    omega

theorem rnd_fl {x : Int} (h : Fl x) : rnd x = x := by
  have := rnd_near x x h
  omega

theorem rnd_mono {x y : Int} (h : x ≤ y) : rnd x ≤ rnd y := by
  by_cases e : x = y
  · rw [e]; exact Int.le_refl _
  · have h1 := rnd_near x (rnd y) (fl_rnd y)
    have h2 := rnd_near y (rnd x) (fl_rnd x)
    omega

theorem log2_mul_pow (n k : Nat) (hn : n ≠ 0) : (n * 2 ^ k).log2 = n.log2 + k := by
  induction k with
  | zero => simp
  | succ k ih => rw [Nat.pow_succ, ← Nat.mul_assoc, Nat.mul_comm _ 2, Nat.log2_two_mul (by have := Nat.two_pow_pos k; exact Nat.mul_ne_zero hn (by omega)), ih]; rfl

/-- A quotient by a power of two does not change where both are taken up. -/
theorem cutE_scale (n d k : Nat) : cutE (n * 2 ^ k) (d + k) = cutE n d := by
  unfold cutE
  have hk : 0 < 2 ^ k := Nat.two_pow_pos k
  rw [Nat.pow_add, Nat.mul_div_mul_right _ _ hk, Nat.mul_mod_mul_right]
  congr 2
  have e1 : (2 ^ d * 2 ^ k < 2 * (n % 2 ^ d * 2 ^ k)) ↔ (2 ^ d < 2 * (n % 2 ^ d)) := by
    rw [← Nat.mul_assoc]; exact Nat.mul_lt_mul_right hk
  have e2 : (2 ^ d * 2 ^ k = 2 * (n % 2 ^ d * 2 ^ k)) ↔ (2 ^ d = 2 * (n % 2 ^ d)) := by
    rw [← Nat.mul_assoc]; exact Nat.mul_left_inj (by omega)
  simp only [e1, e2]

theorem rnd_two (x : Int) : rnd (2 * x) = 2 * rnd x := by
  obtain ⟨k, d, h1, h2, h3, h4, h5, h6, h7, h8, h9⟩ := rnd_parts x
  -- rnd x doubled is Fl and rnd (2 x) is ..: by the digits
  have key : ∀ n : Nat, rndN (2 * n) = 2 * rndN n := by
    intro n
    by_cases hn : n = 0
    · subst hn; simp [rndN, cutE, dropOf]
    · have hl : (2 * n).log2 = n.log2 + 1 := Nat.log2_two_mul hn
      unfold rndN
      by_cases hs : n.log2 < 52
      · have e1 : dropOf (2 * n) = 0 := by unfold dropOf; omega
        have e2 : dropOf n = 0 := by unfold dropOf; omega
        rw [e1, e2]; simp [cutE, Nat.mod_one]
      · have e1 : dropOf (2 * n) = dropOf n + 1 := by unfold dropOf; omega
        rw [e1]
        have := cutE_scale n (dropOf n) 1
        rw [Nat.pow_one, Nat.mul_comm n 2] at this
        rw [this, Nat.pow_succ, ← Nat.mul_assoc, Nat.mul_comm]
  unfold rnd
  have e : (2 * x).natAbs = 2 * x.natAbs := by rw [Int.natAbs_mul]; rfl
  rw [e, key]
  by_cases hs : x < 0
  · rw [if_pos hs, if_pos (by omega)]; omega
  · rw [if_neg hs, if_neg (by omega)]; omega

/-- What is taken away is at most 2 ^ -53 of the whole. -/
theorem rnd_err (x : Int) : (x - rnd x).natAbs * 2 ^ 53 ≤ x.natAbs := by
  obtain ⟨k, d, h1, h2, h3, h4, h5, _⟩ := rnd_parts x
  by_cases hd : d = 0
  · rw [h3 hd]; simp
  · have h4 := h4 (by omega)
    rw [Nat.pow_add] at h4
    omega

/-- Where something is taken away it is less than the last digit of what is left. -/
theorem rnd_gap (x : Int) (_h : x - rnd x ≠ 0) : ∃ k : Nat, (x - rnd x).natAbs < 2 ^ k ∧ (2 : Int) ^ k ∣ rnd x := by
  obtain ⟨k, d, h1, h2, h3, h4, h5, _⟩ := rnd_parts x
  refine ⟨d, ?_, ?_⟩
  · have := Nat.two_pow_pos d; omega
  · rw [h1]; exact Int.dvd_mul_left ..

theorem fl_of_dvd {e : Nat} {x : Int} (h : (2 : Int) ^ e ∣ x) (hb : x.natAbs ≤ 2 ^ 53 * 2 ^ e) : Fl x := by
  obtain ⟨m, rfl⟩ := h
  refine ⟨m, e, Int.mul_comm .., ?_⟩
  rw [Int.natAbs_mul, natAbs_two_pow, Nat.mul_comm] at hb
  exact Nat.le_of_mul_le_mul_right hb (Nat.two_pow_pos e)

theorem fl_dvd {x : Int} (h : Fl x) : ∃ e : Nat, (2 : Int) ^ e ∣ x ∧ x.natAbs ≤ 2 ^ 53 * 2 ^ e := by
  obtain ⟨m, e, rfl, hm⟩ := h
  refine ⟨e, Int.dvd_mul_left .., ?_⟩
  rw [Int.natAbs_mul, natAbs_two_pow]
  exact Nat.mul_le_mul_right _ hm

/-- What the rounding of a sum takes away has at most 53 digits. -/
theorem fl_err {a b : Int} (ha : Fl a) (hb : Fl b) : Fl (a + b - rnd (a + b)) := by
  have na := rnd_near (a + b) a ha
  have nb := rnd_near (a + b) b hb
  obtain ⟨e, de, be⟩ := fl_dvd ha
  obtain ⟨f, df, bf⟩ := fl_dvd hb
  by_cases hef : e ≤ f
  · have df' : (2 : Int) ^ e ∣ b := Int.dvd_trans (pow_dvd hef) df
    have ds : (2 : Int) ^ e ∣ a + b := Int.dvd_add de df'
    exact fl_of_dvd (Int.dvd_sub ds (dvd_rnd ds)) (by omega)
  · have de' : (2 : Int) ^ f ∣ a := Int.dvd_trans (pow_dvd (by omega)) de
    have ds : (2 : Int) ^ f ∣ a + b := Int.dvd_add de' df
    exact fl_of_dvd (Int.dvd_sub ds (dvd_rnd ds)) (by omega)

/-- Of two numbers that lie within a factor of 2 the difference is not rounded. -/
theorem fl_sub {a b : Int} (ha : Fl a) (hb : Fl b) (h1 : b ≤ 2 * a) (h2 : a ≤ 2 * b) : Fl (a - b) := by
  obtain ⟨e, de, be⟩ := fl_dvd ha
  obtain ⟨f, df, bf⟩ := fl_dvd hb
  by_cases hef : e ≤ f
  · exact fl_of_dvd (Int.dvd_sub de (Int.dvd_trans (pow_dvd hef) df)) (by omega)
  · exact fl_of_dvd (Int.dvd_sub (Int.dvd_trans (pow_dvd (by omega)) de) df) (by omega)

theorem fl_two {a : Int} (ha : Fl a) : Fl (2 * a) := by
  obtain ⟨m, e, rfl, hm⟩ := ha
  exact ⟨m, e + 1, by rw [Int.pow_succ, ← Int.mul_assoc m, Int.mul_comm (m * 2 ^ e) 2], hm⟩

theorem fl_zero : Fl 0 := ⟨0, 0, by simp, by simp⟩

/-- What the rounding of a product takes away has at most 53 digits. -/
theorem fl_perr {a b : Int} (ha : Fl a) (hb : Fl b) : Fl (a * b - rnd (a * b)) := by
  obtain ⟨m, e, rfl, hm⟩ := ha
  obtain ⟨n, f, rfl, hn⟩ := hb
  have hp : m * 2 ^ e * (n * 2 ^ f) = m * n * 2 ^ (e + f) := by
    rw [Int.pow_add, Int.mul_assoc, Int.mul_assoc, ← Int.mul_assoc (2 ^ e), Int.mul_comm (2 ^ e) n, Int.mul_assoc n]
  rw [hp]
  have hd : (2 : Int) ^ (e + f) ∣ m * n * 2 ^ (e + f) := Int.dvd_mul_left ..
  refine fl_of_dvd (e := e + f) (Int.dvd_sub hd (dvd_rnd hd)) ?_
  have he := rnd_err (m * n * 2 ^ (e + f))
  have hb : (m * n * 2 ^ (e + f)).natAbs ≤ 2 ^ 53 * 2 ^ 53 * 2 ^ (e + f) := by
    rw [Int.natAbs_mul, Int.natAbs_mul, natAbs_two_pow]
    exact Nat.mul_le_mul_right _ (Nat.mul_le_mul hm hn)
  rw [Nat.mul_assoc, Nat.mul_comm] at hb
  have h3 : (m * n * 2 ^ (e + f) - rnd (m * n * 2 ^ (e + f))).natAbs * 2 ^ 53 ≤ (2 ^ 53 * 2 ^ (e + f)) * 2 ^ 53 := Nat.le_trans he hb
  exact Nat.le_of_mul_le_mul_right h3 (Nat.two_pow_pos 53)

/-- The steps of 'twoSum', as the program takes them. -/
def high (x y : Int) : Int := rnd (x + y)
def fromY (x y : Int) : Int := rnd (high x y - x)
def fromX (x y : Int) : Int := rnd (high x y - fromY x y)
def low (x y : Int) : Int := rnd (rnd (x - fromX x y) + rnd (y - fromY x y))

theorem two_sum_neg (x y : Int) : low (-x) (-y) = -low x y ∧ high (-x) (-y) = -high x y := by
  have e1 : high (-x) (-y) = -high x y := by unfold high; rw [← rnd_neg]; congr 1; omega
  have e2 : fromY (-x) (-y) = -fromY x y := by unfold fromY; rw [e1, ← rnd_neg]; congr 1; omega
  have e3 : fromX (-x) (-y) = -fromX x y := by unfold fromX; rw [e1, e2, ← rnd_neg]; congr 1; omega
  refine ⟨?_, e1⟩
  unfold low
  rw [e2, e3, ← rnd_neg]
  have a1 : -x - -fromX x y = -(x - fromX x y) := by omega
  have a2 : -y - -fromY x y = -(y - fromY x y) := by omega
  rw [a1, a2, rnd_neg, rnd_neg]
  congr 1; omega

/-- Where the second step is not rounded, all is well. -/
theorem two_sum_of {a b : Int} (ha : Fl a) (hb : Fl b) (h : Fl (high a b - a)) : low a b = a + b - high a b := by
  have hy : fromY a b = high a b - a := rnd_fl h
  have hx : fromX a b = a := by unfold fromX; rw [hy, show high a b - (high a b - a) = a by omega]; exact rnd_fl ha
  unfold low
  rw [hx, hy, show a - a = 0 by omega, rnd_fl fl_zero, show b - (high a b - a) = a + b - high a b by omega]
  have he : Fl (a + b - high a b) := fl_err ha hb
  rw [rnd_fl he, Int.zero_add, rnd_fl he]

theorem two_sum_of2 {a b : Int} (ha : Fl a) (hb : Fl b) (h1 : Fl (high a b - fromY a b)) (h2 : Fl (b - fromY a b)) : low a b = a + b - high a b := by
  have hx : fromX a b = high a b - fromY a b := rnd_fl h1
  have he : Fl (a + b - high a b) := fl_err ha hb
  have h3 : Fl (a - fromX a b) := by
    rw [hx]
    have h4 := fl_err (a := high a b) (b := -a) (fl_rnd _) (fl_neg ha)
    have h5 : high a b + -a - rnd (high a b + -a) = -(a - (high a b - fromY a b)) := by
      unfold fromY; rw [show high a b + -a = high a b - a by omega]; omega
    rw [h5] at h4
    have := fl_neg h4
    simpa using this
  unfold low
  rw [rnd_fl h3, rnd_fl h2, hx, show a - (high a b - fromY a b) + (b - fromY a b) = a + b - high a b by omega]
  exact rnd_fl he

theorem two_sum_big {a b : Int} (ha : Fl a) (hb : Fl b) (h0 : 0 ≤ a) (hba : b.natAbs ≤ a.natAbs) : low a b = a + b - high a b := by
  apply two_sum_of ha hb
  by_cases hb0 : 0 ≤ b
  · have h1 : rnd a ≤ rnd (a + b) := rnd_mono (by omega)
    have h2 : rnd (a + b) ≤ rnd (2 * a) := rnd_mono (by omega)
    rw [rnd_fl ha] at h1
    rw [rnd_fl (fl_two ha)] at h2
    exact fl_sub (fl_rnd _) ha (by unfold high; omega) (by unfold high; omega)
  · by_cases hh : a ≤ 2 * (-b)
    · have hs := fl_sub ha (fl_neg hb) (by omega) hh
      rw [show a - -b = a + b by omega] at hs
      unfold high
      rw [rnd_fl hs, show a + b - a = b by omega]
      exact hb
    · have h1 : rnd (a + b) ≤ rnd a := rnd_mono (by omega)
      have h2 : rnd a ≤ rnd (2 * (a + b)) := rnd_mono (by omega)
      rw [rnd_two] at h2
      rw [rnd_fl ha] at h1 h2
      exact fl_sub (fl_rnd _) ha (by unfold high; omega) (by unfold high; omega)

theorem two_sum_small {a b : Int} (ha : Fl a) (hb : Fl b) (h0 : 0 ≤ b) (hab : a.natAbs ≤ b.natAbs) : low a b = a + b - high a b := by
  by_cases ha0 : 0 ≤ a
  · have h1 : rnd b ≤ rnd (a + b) := rnd_mono (by omega)
    have h2 : rnd (a + b) ≤ rnd (2 * b) := rnd_mono (by omega)
    have h3 : rnd (2 * a) ≤ rnd (a + b) := rnd_mono (by omega)
    rw [rnd_fl hb] at h1
    rw [rnd_fl (fl_two hb)] at h2
    rw [rnd_fl (fl_two ha)] at h3
    have h4 : rnd (rnd (a + b) - a) ≤ rnd (rnd (a + b)) := rnd_mono (by omega)
    have h5 : rnd (rnd (a + b)) ≤ rnd (2 * (rnd (a + b) - a)) := rnd_mono (by omega)
    rw [rnd_two] at h5
    rw [rnd_fl (fl_rnd _)] at h4 h5
    refine two_sum_of2 ha hb (fl_sub (fl_rnd _) (fl_rnd _) ?_ ?_) (fl_sub hb (fl_rnd _) ?_ ?_) <;> simp only [fromY, high] <;> omega
  · by_cases hh : b ≤ 2 * (-a)
    · have hs := fl_sub hb (fl_neg ha) (by omega) hh
      apply two_sum_of ha hb
      rw [show b - -a = a + b by omega] at hs
      unfold high
      rw [rnd_fl hs, show a + b - a = b by omega]
      exact hb
    · have h1 : rnd (a + b) ≤ rnd b := rnd_mono (by omega)
      have h2 : rnd b ≤ rnd (2 * (a + b)) := rnd_mono (by omega)
      rw [rnd_two] at h2
      rw [rnd_fl hb] at h1 h2
      have h4 : rnd (rnd (a + b)) ≤ rnd (rnd (a + b) - a) := rnd_mono (by omega)
      have h5 : rnd (rnd (a + b) - a) ≤ rnd (2 * rnd (a + b)) := rnd_mono (by omega)
      rw [rnd_two] at h5
      rw [rnd_fl (fl_rnd _)] at h4 h5
      refine two_sum_of2 ha hb (fl_sub (fl_rnd _) (fl_rnd _) ?_ ?_) (fl_sub hb (fl_rnd _) ?_ ?_) <;> simp only [fromY, high] <;> omega

/-- 'twoSum': the rounded sum and what the rounding took away, whichever is greater. -/
theorem two_sum {a b : Int} (ha : Fl a) (hb : Fl b) : low a b = a + b - high a b := by
  by_cases hab : b.natAbs ≤ a.natAbs
  · by_cases h0 : 0 ≤ a
    · exact two_sum_big ha hb h0 hab
    · have := two_sum_big (fl_neg ha) (fl_neg hb) (by omega) (by omega)
      have h2 := two_sum_neg a b
      rw [h2.1, h2.2] at this
      omega
  · by_cases h0 : 0 ≤ b
    · exact two_sum_small ha hb h0 (by omega)
    · have := two_sum_small (fl_neg ha) (fl_neg hb) (by omega) (by omega)
      have h2 := two_sum_neg a b
      rw [h2.1, h2.2] at this
      omega

end PlRd

/-! Numbers kept as several that do not reach into one another: sums, and the sign of the greatest. -/
namespace PlRd

/-- From the least to the greatest, none of them 0, each below the last digit of all that follow. -/
def NO : List Int → Prop
  | [] => True
  | x :: xs => x ≠ 0 ∧ (∃ k : Nat, x.natAbs < 2 ^ k ∧ ∀ y ∈ xs, (2 : Int) ^ k ∣ y) ∧ NO xs

/-- x is added to a number's parts, from the least on. -/
def grow : Int → List Int → List Int
  | q, [] => if q = 0 then [] else [q]
  | q, e :: es => if q + e - rnd (q + e) = 0 then grow (rnd (q + e)) es else (q + e - rnd (q + e)) :: grow (rnd (q + e)) es

theorem grow_sum (l : List Int) : ∀ q, (grow q l).sum = q + l.sum := by
  induction l with
  | nil => intro q; unfold grow; split <;> simp_all
  | cons e es ih =>
    intro q
    unfold grow
    split
    · rw [ih, List.sum_cons]; omega
    · rw [List.sum_cons, List.sum_cons, ih]; omega

theorem grow_dvd {j : Nat} (l : List Int) : ∀ q, (2 : Int) ^ j ∣ q → (∀ e ∈ l, (2 : Int) ^ j ∣ e) → ∀ y ∈ grow q l, (2 : Int) ^ j ∣ y := by
  induction l with
  | nil => intro q hq _ y hy; unfold grow at hy; split at hy <;> simp_all
  | cons e es ih =>
    intro q hq hl y hy
    have hs : (2 : Int) ^ j ∣ q + e := Int.dvd_add hq (hl e (by simp))
    have hr := dvd_rnd hs
    have hi := ih (rnd (q + e)) hr (fun x hx => hl x (by simp [hx]))
    unfold grow at hy
    split at hy
    · exact hi y hy
    · rcases List.mem_cons.1 hy with rfl | h
      · exact Int.dvd_sub hs hr
      · exact hi y h

theorem grow_fl (l : List Int) : ∀ q, Fl q → (∀ e ∈ l, Fl e) → ∀ y ∈ grow q l, Fl y := by
  induction l with
  | nil => intro q hq _ y hy; unfold grow at hy; split at hy <;> simp_all
  | cons e es ih =>
    intro q hq hl y hy
    have hi := ih (rnd (q + e)) (fl_rnd _) (fun x hx => hl x (by simp [hx]))
    unfold grow at hy
    split at hy
    · exact hi y hy
    · rcases List.mem_cons.1 hy with rfl | h
      · exact fl_err hq (hl e (by simp))
      · exact hi y h

theorem grow_no (l : List Int) : ∀ q, Fl q → NO l → NO (grow q l) := by
  induction l with
  | nil => intro q hq _; unfold grow; split <;> simp_all [NO]; exact ⟨q.natAbs, Nat.lt_two_pow_self⟩
  | cons e es ih =>
    intro q hq hl
    obtain ⟨he0, ⟨k', hk', hdv⟩, hno⟩ := hl
    have hi := ih (rnd (q + e)) (fl_rnd _) hno
    unfold grow
    split
    · exact hi
    · rename_i hne
      refine ⟨hne, ?_, hi⟩
      obtain ⟨k, hk, hd⟩ := rnd_gap _ hne
      have hn := rnd_near (q + e) q hq
      by_cases hkk : k ≤ k'
      · exact ⟨k, hk, grow_dvd es _ hd (fun y hy => Int.dvd_trans (pow_dvd hkk) (hdv y hy))⟩
      · exact ⟨k', by omega, grow_dvd es _ (Int.dvd_trans (pow_dvd (by omega)) hd) hdv⟩

theorem grow_length (l : List Int) : ∀ q, (grow q l).length ≤ l.length + 1 := by
  induction l with
  | nil => intro q; unfold grow; split <;> simp
  | cons e es ih =>
    intro q
    have := ih (rnd (q + e))
    unfold grow
    split <;> simp <;> omega

theorem dvd_sum {j : Nat} (l : List Int) (h : ∀ y ∈ l, (2 : Int) ^ j ∣ y) : (2 : Int) ^ j ∣ l.sum := by
  induction l with
  | nil => simp
  | cons x xs ih => rw [List.sum_cons]; exact Int.dvd_add (h x (by simp)) (ih (fun y hy => h y (by simp [hy])))

theorem no_ne (l : List Int) (t : Int) (h : NO (l ++ [t])) : t ≠ 0 := by
  induction l with
  | nil => exact h.1
  | cons x xs ih => exact ih h.2.2

/-- All parts but the greatest are together less than it. -/
theorem no_last (l : List Int) (t : Int) (h : NO (l ++ [t])) : l.sum.natAbs < t.natAbs := by
  have ht := no_ne l t h
  induction l with
  | nil => simp; exact ht
  | cons x xs ih =>
    obtain ⟨hx, ⟨k, hk, hd⟩, hno⟩ := h
    have hi := ih hno
    have d1 : (2 : Int) ^ k ∣ xs.sum := dvd_sum xs (fun y hy => hd y (by simp [hy]))
    have d2 : (2 : Int) ^ k ∣ t := hd t (by simp)
    obtain ⟨a, ha⟩ := d1
    obtain ⟨b, hb⟩ := d2
    rw [ha, hb, Int.natAbs_mul, Int.natAbs_mul, natAbs_two_pow] at hi
    have hab : a.natAbs < b.natAbs := Nat.lt_of_mul_lt_mul_left hi
    have hm : 2 ^ k * (a.natAbs + 1) ≤ 2 ^ k * b.natAbs := Nat.mul_le_mul_left _ hab
    have e1 : xs.sum.natAbs = 2 ^ k * a.natAbs := by rw [ha, Int.natAbs_mul, natAbs_two_pow]
    have e2 : t.natAbs = 2 ^ k * b.natAbs := by rw [hb, Int.natAbs_mul, natAbs_two_pow]
    rw [Nat.mul_add] at hm
    rw [List.sum_cons]
    omega

def sgn (x : Int) : Int := if 0 < x then 1 else if x < 0 then -1 else 0

theorem sgn_sum (l : List Int) (t : Int) (h : NO (l ++ [t])) : sgn (l ++ [t]).sum = sgn t := by
  have h1 := no_last l t h
  rw [List.sum_append, List.sum_cons, List.sum_nil]
  unfold sgn
  split <;> split <;> (try split) <;> (try split) <;> omega

theorem snoc_cases {α : Type} (l : List α) : l = [] ∨ ∃ l' t, l = l' ++ [t] := by
  rcases List.eq_nil_or_concat l with h | ⟨l', t, h⟩
  · exact .inl h
  · exact .inr ⟨l', t, by rw [h, List.concat_eq_append]⟩

theorem sgn_last (l : List Int) (h : NO l) : sgn l.sum = match l.getLast? with | none => 0 | some t => sgn t := by
  rcases snoc_cases l with rfl | ⟨l', t, rfl⟩
  · simp [sgn]
  · rw [sgn_sum l' t h]; simp

theorem no_sum_le (l : List Int) (h : NO l) (M : Nat) (hM : ∀ y ∈ l, y.natAbs ≤ M) : l.sum.natAbs ≤ 2 * M := by
  rcases snoc_cases l with rfl | ⟨l', t, rfl⟩
  · simp
  · have h1 := no_last l' t h
    have h2 := hM t (by simp)
    rw [List.sum_append, List.sum_cons, List.sum_nil]
    omega

end PlRd

/-! What the bits of a float64 stand for, in units of 2 ^ -1074; the operations on bits. -/
namespace PlRd
open Ieee

theorem cut_even (neg : Bool) (n drop : Nat) : Toward.even.cut neg n drop = cutE n drop := by
  unfold Toward.cut cutE
  by_cases hd : drop ≤ n.log2 + 2
  · rw [Nat.min_eq_left hd]
    simp only [Nat.one_shiftLeft]
    congr 2
  · rw [Nat.min_eq_right (by omega)]
    have hn : n < 2 ^ (n.log2 + 1) := Nat.lt_log2_self
    have h1 : 2 ^ (n.log2 + 2) = 2 * 2 ^ (n.log2 + 1) := by rw [Nat.pow_succ, Nat.mul_comm]
    have h2 : 2 ^ (n.log2 + 2) ≤ 2 ^ drop := Nat.pow_le_pow_right (by decide) (by omega)
    simp only [Nat.one_shiftLeft]
    rw [Nat.div_eq_of_lt (show n < 2 ^ (n.log2 + 2) by omega), Nat.mod_eq_of_lt (show n < 2 ^ (n.log2 + 2) by omega), Nat.div_eq_of_lt (show n < 2 ^ drop by omega), Nat.mod_eq_of_lt (show n < 2 ^ drop by omega)]
    have c1 : ¬ (2 ^ (n.log2 + 2) < 2 * n) := by omega
    have c2 : ¬ (2 ^ drop < 2 * n) := by omega
    simp [c1, c2]

theorem cast_two_pow (m d : Nat) : ((m * 2 ^ d : Nat) : Int) = (m : Int) * 2 ^ d := by
  rw [Int.natCast_mul, Int.natCast_pow]; rfl

/-- How far the numbers reach: far below infinity. -/
def LIME : Nat := 2096
def LIM : Nat := 2 ^ LIME

/-- 'n * 2 ^ p' is z units. -/
def Sc (n p z : Int) : Prop := n * 2 ^ (p + 1074).toNat = z * 2 ^ (-(p + 1074)).toNat

/-- The bits b stand for x units. -/
def Is (b : Nat) (x : Int) : Prop := ∃ (s : Bool) (m : Nat) (p : Int), double.read b = .number s m p ∧ -1074 ≤ p ∧ p ≤ 971 ∧ m < 2 ^ 53 ∧ signed s m (p + 1074).toNat = x

theorem signed_eq (s : Bool) (m u : Nat) : signed s m u = (if s then -(m : Int) else (m : Int)) * 2 ^ u := by
  unfold signed
  rw [Nat.shiftLeft_eq]
  split <;> simp [Int.neg_mul]

theorem Is.sc {b : Nat} {x : Int} (h : Is b x) : ∃ (s : Bool) (m : Nat) (p : Int), double.read b = .number s m p ∧ Sc (signed s m 0) p x ∧ m < 2 ^ 53 ∧ p ≤ 971 := by
  obtain ⟨s, m, p, h1, h2, h2', h3, h4⟩ := h
  refine ⟨s, m, p, h1, ?_, h3, h2'⟩
  unfold Sc
  rw [← h4, signed_eq, signed_eq, show (-(p + 1074)).toNat = 0 by omega]
  simp

theorem Is.fl {b : Nat} {x : Int} (h : Is b x) : Fl x := by
  obtain ⟨s, m, p, h1, h2, h2', h3, h4⟩ := h
  rw [signed_eq] at h4
  refine ⟨_, _, h4.symm, ?_⟩
  split <;> simp <;> omega

theorem Sc.down {n i x base : Int} (h : Sc n i x) (hb : base ≤ i) : n * 2 ^ (i - base).toNat * 2 ^ (base + 1074).toNat = x * 2 ^ (-(base + 1074)).toNat := by
  unfold Sc at h
  by_cases h0 : 0 ≤ base + 1074
  · rw [show (-(base + 1074)).toNat = 0 by omega, Int.mul_assoc, ← Int.pow_add, show (i - base).toNat + (base + 1074).toNat = (i + 1074).toNat by omega, h, show (-(i + 1074)).toNat = 0 by omega]
  · rw [show (base + 1074).toNat = 0 by omega]
    by_cases h1 : 0 ≤ i + 1074
    · rw [show (-(i + 1074)).toNat = 0 by omega] at h
      simp at h
      rw [← h, show (i - base).toNat = (i + 1074).toNat + (-(base + 1074)).toNat by omega, Int.pow_add]
      simp [Int.mul_assoc]
    · rw [show (i + 1074).toNat = 0 by omega] at h
      simp at h
      rw [h]
      simp only [Int.pow_zero, Int.mul_one]
      rw [Int.mul_assoc, ← Int.pow_add, show (-(i + 1074)).toNat + (i - base).toNat = (-(base + 1074)).toNat by omega]

theorem Sc.add {n m i j x y : Int} (h : Sc n i x) (k : Sc m j y) : Sc (n * 2 ^ (i - min i j).toNat + m * 2 ^ (j - min i j).toNat) (min i j) (x + y) := by
  have h1 := h.down (base := min i j) (by omega)
  have h2 := k.down (base := min i j) (by omega)
  unfold Sc
  rw [Int.add_mul, h1, h2, Int.add_mul]

theorem signed_natAbs (x : Int) (u : Nat) : signed (decide (x < 0)) x.natAbs u = x * 2 ^ u := by
  rw [signed_eq]
  congr 1
  by_cases h : x < 0
  · simp [h]; omega
  · simp [h]; omega

/-- The rungs as they are read. -/
theorem read_word (neg : Bool) (r : Nat) (hr : r < 2047 * 2 ^ 52) :
    double.read (double.word neg r) = if r < 2 ^ 52 then .number neg r (-1074) else .number neg (2 ^ 52 + r % 2 ^ 52) (-1074 + (r / 2 ^ 52 - 1 : Nat)) := by
  have hsw : double.signWeight = 2 ^ 63 := by decide
  have hb : double.binade = 2 ^ 52 := by decide
  have hi : double.infRung = 2047 * 2 ^ 52 := by decide
  have hlp : double.leastPlace = -1074 := by decide
  unfold Format.read Format.word
  rw [hsw, hb, hi, hlp]
  have e1 : (if neg = true then 2 ^ 63 + r else r) % 2 ^ 63 = r := by
    cases neg <;> simp <;> omega
  have e2 : ((if neg = true then 2 ^ 63 + r else r) / 2 ^ 63 % 2 == 1) = neg := by
    cases neg
    · simp; omega
    · have : (2 ^ 63 + r) / 2 ^ 63 = 1 := by omega
      simp [this]
  simp only [e1, e2]
  split
  · rfl
  · first | rfl | rw [if_pos hr]

/-- What is written nearest to z units stands for z rounded. -/
theorem is_nearest (neg : Bool) (mag : Nat) (place : Int) (Z : Nat) (h : Sc mag place Z) (hZ : Z < LIM) :
    Is (double.nearest neg mag place) (if neg then -(rndN Z : Int) else rndN Z) := by
  have hb : double.binade = 2 ^ 52 := by decide
  have hi : double.infRung = 2047 * 2 ^ 52 := by decide
  have hlp : double.leastPlace = -1074 := by decide
  have hfb : double.fractionBits = 52 := by decide
  have hN : mag * 2 ^ (place + 1074).toNat = Z * 2 ^ (-(place + 1074)).toNat := by
    unfold Sc at h
    have h' : ((mag * 2 ^ (place + 1074).toNat : Nat) : Int) = ((Z * 2 ^ (-(place + 1074)).toNat : Nat) : Int) := by
      simp only [Int.natCast_mul, Int.natCast_pow]; exact h
    exact Int.ofNat_inj.1 h'
  have hp1 := Nat.two_pow_pos (place + 1074).toNat
  have hp2 := Nat.two_pow_pos (-(place + 1074)).toNat
  unfold Format.nearest
  by_cases hm : mag = 0
  · rw [if_pos hm]
    subst hm
    rw [Nat.zero_mul] at hN
    have hz : Z = 0 := by
      rcases Nat.mul_eq_zero.1 hN.symm with h | h
      · exact h
      · omega
    subst hz
    have := read_word neg 0 (by decide)
    refine ⟨neg, 0, -1074, by simpa using this, by omega, by omega, by decide, ?_⟩
    cases neg <;> simp [signed_eq, rndN, cutE]
  · rw [if_neg hm]
    simp only [hb, hi, hlp, hfb]
    have hZ0 : Z ≠ 0 := by
      intro h0
      rw [h0, Nat.zero_mul] at hN
      rcases Nat.mul_eq_zero.1 hN with h | h <;> omega
    have hlog : (Z.log2 : Int) = mag.log2 + (place + 1074) := by
      by_cases hp : 0 ≤ place + 1074
      · rw [show (-(place + 1074)).toNat = 0 by omega] at hN
        simp at hN
        rw [← hN, log2_mul_pow _ _ hm]
        omega
      · rw [show (place + 1074).toNat = 0 by omega] at hN
        simp at hN
        rw [hN, log2_mul_pow _ _ hZ0]
        omega
    have hlast : max (place + (mag.log2 : Int) - ((52 : Nat) : Int)) (-1074) = (dropOf Z : Int) - 1074 := by
      unfold dropOf; omega
    rw [hlast, cut_even]
    have hkept : cutE (mag <<< (place - ((dropOf Z : Int) - 1074)).toNat) ((dropOf Z : Int) - 1074 - place).toNat = cutE Z (dropOf Z) := by
      rw [Nat.shiftLeft_eq]
      by_cases hp : 0 ≤ place + 1074
      · rw [show (-(place + 1074)).toNat = 0 by omega] at hN
        simp at hN
        by_cases hq : dropOf Z ≤ (place + 1074).toNat
        · rw [show ((dropOf Z : Int) - 1074 - place).toNat = 0 by omega]
          have := cutE_scale (mag * 2 ^ (place - ((dropOf Z : Int) - 1074)).toNat) 0 (dropOf Z)
          rw [Nat.mul_assoc, ← Nat.pow_add, show (place - ((dropOf Z : Int) - 1074)).toNat + dropOf Z = (place + 1074).toNat by omega, hN, Nat.zero_add] at this
          exact this.symm
        · rw [show (place - ((dropOf Z : Int) - 1074)).toNat = 0 by omega]
          have := cutE_scale mag ((dropOf Z : Int) - 1074 - place).toNat (place + 1074).toNat
          rw [hN, show ((dropOf Z : Int) - 1074 - place).toNat + (place + 1074).toNat = dropOf Z by omega] at this
          simp [this]
      · rw [show (place + 1074).toNat = 0 by omega] at hN
        simp at hN
        rw [show (place - ((dropOf Z : Int) - 1074)).toNat = 0 by omega, hN]
        have := cutE_scale Z (dropOf Z) (-(place + 1074)).toNat
        rw [show ((dropOf Z : Int) - 1074 - place).toNat = dropOf Z + (-(place + 1074)).toNat by omega]
        simp [this]
    rw [hkept, show ((dropOf Z : Int) - 1074 - -1074).toNat = dropOf Z by omega]
    obtain ⟨k, h1, h2, h3, h4, _⟩ := rndN_parts Z hZ0
    have hk : cutE Z (dropOf Z) = k := Nat.eq_of_mul_eq_mul_right (Nat.two_pow_pos (dropOf Z)) h1
    rw [hk]
    have hd : dropOf Z ≤ 2043 := by
      have : Z.log2 < LIME := (Nat.log2_lt hZ0).2 (by unfold LIM at hZ; exact hZ)
      unfold LIME at this
      unfold dropOf; omega
    have hlt : dropOf Z * 2 ^ 52 + k < 2047 * 2 ^ 52 := by omega
    rw [Nat.min_eq_left (by omega)]
    have hread := read_word neg _ hlt
    by_cases hd0 : dropOf Z = 0
    · rw [hd0] at hread ⊢
      simp only [Nat.zero_mul, Nat.zero_add] at hread ⊢
      have hr : rndN Z = k := by rw [h1, hd0]; simp
      rw [hr]
      by_cases hs : k < 2 ^ 52
      · rw [if_pos hs] at hread
        exact ⟨neg, k, -1074, hread, by omega, by omega, by omega, by rw [signed_eq]; cases neg <;> simp⟩
      · rw [if_neg hs] at hread
        by_cases hs2 : k < 2 ^ 53
        · rw [show k / 2 ^ 52 = 1 by omega, show 2 ^ 52 + k % 2 ^ 52 = k by omega] at hread
          exact ⟨neg, k, -1074, by simpa using hread, by omega, by omega, by omega, by rw [signed_eq]; cases neg <;> simp⟩
        · have hk53 : k = 2 ^ 53 := by omega
          rw [hk53] at hread ⊢
          refine ⟨neg, 2 ^ 52, -1073, by simpa using hread, by omega, by omega, by decide, ?_⟩
          rw [signed_eq]; cases neg <;> simp
    · obtain ⟨h5, _⟩ := h4 (by omega)
      have hns : ¬ dropOf Z * 2 ^ 52 + k < 2 ^ 52 := by omega
      rw [if_neg hns] at hread
      by_cases hs2 : k < 2 ^ 53
      · rw [show (dropOf Z * 2 ^ 52 + k) / 2 ^ 52 = dropOf Z + 1 by omega, show 2 ^ 52 + (dropOf Z * 2 ^ 52 + k) % 2 ^ 52 = k by omega] at hread
        refine ⟨neg, k, _, hread, by omega, by omega, by omega, ?_⟩
        rw [signed_eq, h1, show (-1074 + ((dropOf Z + 1 - 1 : Nat) : Int) + 1074).toNat = dropOf Z by omega]
        cases neg <;> simp [Int.neg_mul]
      · have hk53 : k = 2 ^ 53 := by omega
        rw [show (dropOf Z * 2 ^ 52 + k) / 2 ^ 52 = dropOf Z + 2 by omega, show 2 ^ 52 + (dropOf Z * 2 ^ 52 + k) % 2 ^ 52 = 2 ^ 52 by omega] at hread
        refine ⟨neg, 2 ^ 52, _, hread, by omega, by omega, by decide, ?_⟩
        rw [signed_eq, h1, hk53, show (-1074 + ((dropOf Z + 2 - 1 : Nat) : Int) + 1074).toNat = dropOf Z + 1 by omega]
        have : ((2 ^ 53 * 2 ^ dropOf Z : Nat) : Int) = (2 ^ 52 : Int) * 2 ^ (dropOf Z + 1) := by
          rw [show (2 : Int) ^ (dropOf Z + 1) = 2 ^ dropOf Z * 2 from Int.pow_succ ..]; rw [cast_two_pow]; generalize ((2 : Int) ^ dropOf Z) = G; omega
        cases neg
        · simp only [Bool.false_eq_true, if_false]; rw [this]; rfl
        · simp only [if_true]; rw [this, Int.neg_mul]; rfl

theorem rnd_natAbs (z : Int) : rnd z = if z < 0 then -(rndN z.natAbs : Int) else rndN z.natAbs := rfl

theorem Sc.natAbs {n p z : Int} (h : Sc n p z) : Sc n.natAbs p z.natAbs := by
  unfold Sc at h ⊢
  have h1 := congrArg Int.natAbs h
  rw [Int.natAbs_mul, Int.natAbs_mul, natAbs_two_pow, natAbs_two_pow] at h1
  have h2 : ((n.natAbs * 2 ^ (p + 1074).toNat : Nat) : Int) = ((z.natAbs * 2 ^ (-(p + 1074)).toNat : Nat) : Int) := by rw [h1]
  rw [cast_two_pow, cast_two_pow] at h2
  exact h2

theorem Sc.neg_iff {n p z : Int} (h : Sc n p z) : (n < 0 ↔ z < 0) ∧ (n = 0 ↔ z = 0) := by
  unfold Sc at h
  have p1 := two_pow_pos (p + 1074).toNat
  have p2 := two_pow_pos (-(p + 1074)).toNat
  generalize (2 : Int) ^ (p + 1074).toNat = A at *
  generalize (2 : Int) ^ (-(p + 1074)).toNat = B at *
  constructor
  · constructor
    · intro hn
      have h1 : n * A < 0 := Int.mul_neg_of_neg_of_pos hn p1
      rw [h] at h1
      rcases Int.lt_or_le z 0 with hz | hz
      · exact hz
      · have := Int.mul_nonneg hz (Int.le_of_lt p2); omega
    · intro hz
      have h1 : z * B < 0 := Int.mul_neg_of_neg_of_pos hz p2
      rw [← h] at h1
      rcases Int.lt_or_le n 0 with hn | hn
      · exact hn
      · have := Int.mul_nonneg hn (Int.le_of_lt p1); omega
  · constructor
    · intro hn
      subst hn
      rw [Int.zero_mul] at h
      rcases Int.mul_eq_zero.1 h.symm with h | h <;> omega
    · intro hz
      subst hz
      rw [Int.zero_mul] at h
      rcases Int.mul_eq_zero.1 h with h | h <;> omega

theorem rndN_zero : rndN 0 = 0 := by simp [rndN, cutE]

theorem is_write (neg : Bool) (total base z : Int) (h : Sc total base z) (hn : total ≠ 0 → neg = decide (total < 0)) (hb : z.natAbs < LIM) : Is (double.nearest neg total.natAbs base) (rnd z) := by
  have h1 := is_nearest neg total.natAbs base z.natAbs h.natAbs hb
  have h2 := h.neg_iff
  by_cases h0 : total = 0
  · have hz : z = 0 := h2.2.1 h0
    subst hz
    simp only [Int.natAbs_zero, rndN_zero] at h1
    rw [rnd_natAbs]
    simp only [Int.natAbs_zero, rndN_zero]
    have e : (if neg = true then -((0 : Nat) : Int) else ((0 : Nat) : Int)) = 0 := by split <;> rfl
    rw [e] at h1
    simpa using h1
  · rw [hn h0] at h1 ⊢
    rw [rnd_natAbs]
    by_cases hs : total < 0
    · have hz := h2.1.1 hs
      simp only [hs, decide_true, if_true] at h1
      rw [if_pos hz]; simpa [hs] using h1
    · have hz : ¬ z < 0 := fun h => hs (h2.1.2 h)
      simp only [hs, decide_false] at h1
      rw [if_neg hz]; simpa [hs] using h1

theorem signed_up (s : Bool) (m u : Nat) : signed s m u = signed s m 0 * 2 ^ u := by
  rw [signed_eq, signed_eq]; simp

theorem is_add {a b : Nat} {x y : Int} (ha : Is a x) (hb : Is b y) (hz : (x + y).natAbs < LIM) : ∃ r, double.add a b = some r ∧ Is r (rnd (x + y)) := by
  obtain ⟨s, m, i, r1, s1, _⟩ := ha.sc
  obtain ⟨t, n, j, r2, s2, _⟩ := hb.sc
  have hs := s1.add s2
  rw [← signed_up, ← signed_up] at hs
  unfold Format.add
  rw [r1, r2]
  refine ⟨_, rfl, ?_⟩
  refine is_write _ _ _ _ hs (fun h0 => ?_) hz
  rw [if_neg h0]

theorem signed_not (s : Bool) (m u : Nat) : signed (!s) m u = -signed s m u := by
  unfold signed; cases s <;> simp

theorem is_sub {a b : Nat} {x y : Int} (ha : Is a x) (hb : Is b y) (hz : (x - y).natAbs < LIM) : ∃ r, double.sub a b = some r ∧ Is r (rnd (x - y)) := by
  obtain ⟨s, m, i, r1, s1, _⟩ := ha.sc
  obtain ⟨t, n, j, r2, s2, _⟩ := hb.sc
  have s2' : Sc (signed (!t) n 0) j (-y) := by
    rw [signed_not]; unfold Sc at s2 ⊢; rw [Int.neg_mul, s2, Int.neg_mul]
  have hs := s1.add s2'
  rw [← signed_up, ← signed_up, ← Int.sub_eq_add_neg] at hs
  unfold Format.sub
  rw [r1, r2]
  refine ⟨_, rfl, ?_⟩
  refine is_write _ _ _ _ hs (fun h0 => ?_) hz
  rw [if_neg h0]

theorem signed_mul (s t : Bool) (m n : Nat) : signed (s ^^ t) (m * n) 0 = signed s m 0 * signed t n 0 := by
  unfold signed
  cases s <;> cases t <;> simp [Nat.shiftLeft_zero, Int.neg_mul, Int.mul_neg]

theorem natAbs_signed (s : Bool) (m : Nat) : (signed s m 0).natAbs = m := by
  unfold signed; cases s <;> simp

/-- A product's parts. -/
theorem sc_mul {a b : Nat} {x y z : Int} (ha : Is a x) (hb : Is b y) (hz : x * y = z * 2 ^ 1074) :
    ∃ (s t : Bool) (m n : Nat) (i j : Int), double.read a = .number s m i ∧ double.read b = .number t n j ∧ Sc (signed (s ^^ t) (m * n) 0) (i + j) z := by
  obtain ⟨s, m, i, r1, i1, _, _, e1⟩ := ha
  obtain ⟨t, n, j, r2, j1, _, _, e2⟩ := hb
  refine ⟨s, t, m, n, i, j, r1, r2, ?_⟩
  rw [signed_mul]
  rw [signed_up] at e1 e2
  generalize signed s m 0 = M at *
  generalize signed t n 0 = N at *
  rw [← e1, ← e2] at hz
  have h1 : M * N * 2 ^ ((i + 1074).toNat + (j + 1074).toNat) = z * 2 ^ 1074 := by
    rw [Int.pow_add, ← hz]
    rw [Int.mul_assoc, Int.mul_assoc, ← Int.mul_assoc N, Int.mul_comm N, Int.mul_assoc _ N]
  unfold Sc
  by_cases hA : 0 ≤ i + j + 1074
  · rw [show (-(i + j + 1074)).toNat = 0 by omega, Int.pow_zero, Int.mul_one]
    rw [show (i + 1074).toNat + (j + 1074).toNat = (i + j + 1074).toNat + 1074 by omega, Int.pow_add, ← Int.mul_assoc] at h1
    exact Int.eq_of_mul_eq_mul_right (by have := two_pow_pos 1074; omega) h1
  · rw [show (i + j + 1074).toNat = 0 by omega, Int.pow_zero, Int.mul_one]
    rw [show (1074 : Nat) = (-(i + j + 1074)).toNat + ((i + 1074).toNat + (j + 1074).toNat) by omega, Int.pow_add _ (-(i + j + 1074)).toNat, ← Int.mul_assoc] at h1
    exact Int.eq_of_mul_eq_mul_right (by have := two_pow_pos ((i + 1074).toNat + (j + 1074).toNat); omega) h1

theorem is_mul {a b : Nat} {x y z : Int} (ha : Is a x) (hb : Is b y) (hz : x * y = z * 2 ^ 1074) (hB : z.natAbs < LIM) : ∃ r, double.mul a b = some r ∧ Is r (rnd z) := by
  obtain ⟨s, t, m, n, i, j, r1, r2, hs⟩ := sc_mul ha hb hz
  unfold Format.mul
  rw [r1, r2]
  refine ⟨_, rfl, ?_⟩
  have h := is_write (s ^^ t) _ _ _ hs (fun h0 => ?_) hB
  · rw [natAbs_signed] at h; exact h
  · have hp : 0 < m * n := by
      rcases Nat.eq_zero_or_pos (m * n) with h | h
      · rw [h] at h0; exact absurd (by unfold signed; split <;> simp) h0
      · exact h
    unfold signed
    generalize m * n = q at *
    cases (s ^^ t) <;> simp <;> omega

theorem is_fma {a b c : Nat} {x y z u : Int} (ha : Is a x) (hb : Is b y) (hc : Is c u) (hz : x * y = z * 2 ^ 1074) (hB : (z + u).natAbs < LIM) : ∃ r, double.fma a b c = some r ∧ Is r (rnd (z + u)) := by
  obtain ⟨s, t, m, n, i, j, r1, r2, s1⟩ := sc_mul ha hb hz
  obtain ⟨v, l, k, r3, s2, _⟩ := hc.sc
  have hs := s1.add s2
  rw [← signed_up, ← signed_up] at hs
  unfold Format.fma
  rw [r1, r2, r3]
  refine ⟨_, rfl, ?_⟩
  refine is_write _ _ _ _ hs (fun h0 => ?_) hB
  rw [if_neg h0]

theorem compare_mul (a b c : Int) (hc : 0 < c) : compare (a * c) (b * c) = compare a b := by
  have h1 : a * c < b * c ↔ a < b := Int.mul_lt_mul_right hc
  have h2 : a * c = b * c ↔ a = b := ⟨fun h => Int.eq_of_mul_eq_mul_right (by omega) h, fun h => by rw [h]⟩
  simp only [compare, compareOfLessAndEq, h1, h2]

theorem is_order {a b : Nat} {x y : Int} (ha : Is a x) (hb : Is b y) : double.order a b = some (compare x y) := by
  obtain ⟨s, m, i, r1, i1, _, _, e1⟩ := ha
  obtain ⟨t, n, j, r2, j1, _, _, e2⟩ := hb
  unfold Format.order
  rw [r1, r2]
  show some (compare (signed s m (i - min i j).toNat) (signed t n (j - min i j).toNat)) = _
  congr 1
  rw [← compare_mul _ _ (2 ^ (min i j + 1074).toNat) (two_pow_pos _)]
  rw [signed_up] at e1 e2
  rw [signed_up s, signed_up t, Int.mul_assoc, Int.mul_assoc, ← Int.pow_add, ← Int.pow_add, show (i - min i j).toNat + (min i j + 1074).toNat = (i + 1074).toNat by omega, show (j - min i j).toNat + (min i j + 1074).toNat = (j + 1074).toNat by omega, e1, e2]

theorem is_zero : Is 0 0 := ⟨false, 0, -1074, by decide, by omega, by omega, by decide, by decide⟩

/-- The sign bit turned. -/
theorem is_neg {b : Nat} {x : Int} (h : Is b x) : Is (b ^^^ 2 ^ 63) (-x) := by
  obtain ⟨s, m, p, r, p1, p2, m1, e⟩ := h
  refine ⟨!s, m, p, ?_, p1, p2, m1, by rw [signed_not, e]⟩
  have hsw : double.signWeight = 2 ^ 63 := by decide
  unfold Format.read at r ⊢
  rw [hsw] at r ⊢
  have e1 : (b ^^^ 2 ^ 63) % 2 ^ 63 = b % 2 ^ 63 := by rw [Nat.xor_mod_two_pow]; simp
  have e2 : ((b ^^^ 2 ^ 63) / 2 ^ 63 % 2 == 1) = !(b / 2 ^ 63 % 2 == 1) := by
    rw [Nat.xor_div_two_pow]
    have : (b / 2 ^ 63 ^^^ 2 ^ 63 / 2 ^ 63) % 2 = (b / 2 ^ 63 % 2) ^^^ 1 := by
      have := Nat.xor_mod_two_pow (a := b / 2 ^ 63) (b := 2 ^ 63 / 2 ^ 63) (n := 1)
      simpa using this
    rw [this]
    rcases Nat.mod_two_eq_zero_or_one (b / 2 ^ 63) with h | h <;> rw [h] <;> decide
  simp only [e1, e2] at r ⊢
  generalize b % 2 ^ 63 = R at *
  generalize (b / 2 ^ 63 % 2 == 1) = S at *
  split at r
  · rename_i h; rw [if_pos h]; simp only [Datum.number.injEq] at r ⊢; exact ⟨by rw [r.1], r.2⟩
  · rename_i h
    rw [if_neg h]
    split at r
    · rename_i h'; rw [if_pos h']; simp only [Datum.number.injEq] at r ⊢; exact ⟨by rw [r.1], r.2⟩
    · split at r <;> cases r

end PlRd

/-! Sums of many parts: what stands at each step, and how great it is. -/
namespace PlRd

/-- The rounded sum behind the parts l; what was left over on the way. -/
def gq : Int → List Int → Int
  | q, [] => q
  | q, e :: es => gq (rnd (q + e)) es

def gh : Int → List Int → List Int
  | _, [] => []
  | q, e :: es => if q + e - rnd (q + e) = 0 then gh (rnd (q + e)) es else (q + e - rnd (q + e)) :: gh (rnd (q + e)) es

theorem grow_eq (l : List Int) : ∀ q, grow q l = gh q l ++ (if gq q l = 0 then [] else [gq q l]) := by
  induction l with
  | nil => intro q; unfold grow gh gq; split <;> rfl
  | cons e es ih =>
    intro q
    unfold grow gh gq
    split
    · exact ih _
    · rw [ih]; simp

theorem gq_snoc (l : List Int) (e : Int) : ∀ q, gq q (l ++ [e]) = rnd (gq q l + e) := by
  induction l with
  | nil => intro q; simp [gq]
  | cons x xs ih => intro q; exact ih _

theorem gh_snoc (l : List Int) (e : Int) : ∀ q, gh q (l ++ [e]) = gh q l ++ (if gq q l + e - rnd (gq q l + e) = 0 then [] else [gq q l + e - rnd (gq q l + e)]) := by
  induction l with
  | nil => intro q; show gh q [e] = [] ++ _; unfold gh gq; split <;> simp [gh]
  | cons x xs ih =>
    intro q
    show gh q (x :: (xs ++ [e])) = _
    unfold gh
    rw [ih]
    split
    · rfl
    · rw [List.cons_append]; rfl

theorem gh_length (l : List Int) : ∀ q, (gh q l).length ≤ l.length := by
  induction l with
  | nil => intro q; simp [gh]
  | cons x xs ih =>
    intro q
    have := ih (rnd (q + x))
    unfold gh
    split <;> simp <;> omega

theorem gq_fl (l : List Int) : ∀ q, Fl q → Fl (gq q l) := by
  induction l with
  | nil => intro q h; exact h
  | cons x xs ih => intro q _; exact ih _ (fl_rnd _)

theorem gh_sum (l : List Int) : ∀ q, gq q l + (gh q l).sum = q + l.sum := by
  induction l with
  | nil => intro q; simp [gh, gq]
  | cons e es ih =>
    intro q
    have := ih (rnd (q + e))
    unfold gh gq
    split
    · rw [this, List.sum_cons]; omega
    · rw [List.sum_cons, List.sum_cons]; omega

theorem no_left (l m : List Int) (h : NO (l ++ m)) : NO l := by
  induction l with
  | nil => trivial
  | cons x xs ih =>
    obtain ⟨h1, ⟨k, h2, h3⟩, h4⟩ := h
    exact ⟨h1, ⟨k, h2, fun y hy => h3 y (by simp [hy])⟩, ih h4⟩

theorem gh_no (l : List Int) (q : Int) (hq : Fl q) (h : NO l) : NO (gh q l) := by
  have := grow_no l q hq h
  rw [grow_eq] at this
  exact no_left _ _ this

theorem gh_le (M : Nat) (l : List Int) : ∀ q, Fl q → (∀ e ∈ l, e.natAbs ≤ M) → ∀ y ∈ gh q l, y.natAbs ≤ M := by
  induction l with
  | nil => intro q _ _ y hy; simp [gh] at hy
  | cons e es ih =>
    intro q hq hl y hy
    have hi := ih (rnd (q + e)) (fl_rnd _) (fun x hx => hl x (by simp [hx]))
    have hn := rnd_near (q + e) q hq
    have he := hl e (by simp)
    unfold gh at hy
    split at hy
    · exact hi y hy
    · rcases List.mem_cons.1 hy with rfl | h
      · omega
      · exact hi y h

/-- How great the rounded sum can be. -/
theorem gq_le (T : Nat) (l : List Int) (q : Int) (hq : Fl q) (hno : NO l) (hqT : q.natAbs ≤ T) (hl : ∀ e ∈ l, e.natAbs ≤ 2 * T) : (gq q l).natAbs ≤ 9 * T := by
  have h1 := gh_sum l q
  have h2 := no_sum_le l hno _ hl
  have h3 := no_sum_le _ (gh_no l q hq hno) _ (gh_le _ l q hq hl)
  omega

/-- What is left over is small. -/
theorem gh_small (B : Nat) (l : List Int) : ∀ q, (∀ i, i < l.length → (gq q (l.take i)).natAbs + (l.getD i 0).natAbs ≤ B) → ∀ y ∈ gh q l, y.natAbs * 2 ^ 53 ≤ B := by
  induction l with
  | nil => intro q _ y hy; simp [gh] at hy
  | cons e es ih =>
    intro q hl y hy
    have h0 := hl 0 (by simp)
    simp only [List.take_zero, gq, List.getD_cons_zero] at h0
    have he := rnd_err (q + e)
    have hi := ih (rnd (q + e)) (fun i hi => by
      have := hl (i + 1) (by simp; omega)
      simpa [gq] using this)
    unfold gh at hy
    split at hy
    · exact hi y hy
    · rcases List.mem_cons.1 hy with rfl | h
      · omega
      · exact hi y h

theorem no_take (l : List Int) (h : NO l) (i : Nat) : NO (l.take i) := by
  have := List.take_append_drop i l
  rw [← this] at h
  exact no_left _ _ h

theorem getD_mem (l : List Int) (i : Nat) (h : i < l.length) : l.getD i 0 ∈ l := by
  rw [List.getD_eq_getElem?_getD, List.getElem?_eq_getElem h]; exact List.getElem_mem h

/-- The parts behind one more step are no greater than twice the bound of all sums. -/
theorem grow_le (T : Nat) (l : List Int) (q : Int) (hq : Fl q) (hno : NO l) (hqT : q.natAbs ≤ T) (hl : ∀ e ∈ l, e.natAbs ≤ 2 * T) (hs : (q + l.sum).natAbs ≤ T) : ∀ y ∈ grow q l, y.natAbs ≤ 2 * T := by
  have h1 := gh_sum l q
  have hle := gh_le _ l q hq hl
  have hsm := gh_small (11 * T) l q (fun i hi => by
    have h4 := gq_le T (l.take i) q hq (no_take l hno i) hqT (fun e he => hl e (List.mem_of_mem_take he))
    have h5 := hl _ (getD_mem l i hi)
    omega)
  have h6 := no_sum_le _ (gh_no l q hq hno) (T / 4) (fun y hy => by
    have := hsm y hy
    omega)
  intro y hy
  rw [grow_eq] at hy
  rcases List.mem_append.1 hy with h | h
  · exact hle y h
  · split at h
    · simp at h
    · simp at h
      subst h
      omega

/-- The sum of many parts. -/
def sumAll (ps : List Int) : List Int := ps.foldl (fun acc p => grow p acc) []

/-- A number's parts: they do not reach into one another, each has at most 53 digits. -/
def Ex (l : List Int) : Prop := NO l ∧ ∀ y ∈ l, Fl y

def absSum (l : List Int) : Nat := (l.map Int.natAbs).sum

theorem absSum_cons (x : Int) (l : List Int) : absSum (x :: l) = x.natAbs + absSum l := by simp [absSum]
theorem absSum_append (l m : List Int) : absSum (l ++ m) = absSum l + absSum m := by simp [absSum]

theorem sum_le_absSum (l : List Int) : l.sum.natAbs ≤ absSum l := by
  induction l with
  | nil => simp [absSum]
  | cons x xs ih => rw [List.sum_cons, absSum_cons]; omega

theorem sumAll_snoc (ps : List Int) (p : Int) : sumAll (ps ++ [p]) = grow p (sumAll ps) := by simp [sumAll]

theorem foldl_sum (ps : List Int) : ∀ acc : List Int, (ps.foldl (fun acc p => grow p acc) acc).sum = acc.sum + ps.sum := by
  induction ps with
  | nil => intro acc; simp
  | cons p ps ih => intro acc; rw [List.foldl_cons, ih, grow_sum, List.sum_cons]; omega

theorem sumAll_sum (ps : List Int) : (sumAll ps).sum = ps.sum := by
  rw [sumAll, foldl_sum]; simp

theorem foldl_ex (ps : List Int) : ∀ acc : List Int, Ex acc → (∀ p ∈ ps, Fl p) → Ex (ps.foldl (fun acc p => grow p acc) acc) := by
  induction ps with
  | nil => intro acc h _; exact h
  | cons p ps ih =>
    intro acc h hp
    exact ih _ ⟨grow_no acc p (hp p (by simp)) h.1, grow_fl acc p (hp p (by simp)) h.2⟩ (fun x hx => hp x (by simp [hx]))

theorem sumAll_ex (ps : List Int) (h : ∀ p ∈ ps, Fl p) : Ex (sumAll ps) := foldl_ex ps [] ⟨trivial, by simp⟩ h

theorem foldl_dvd {j : Nat} (ps : List Int) : ∀ acc : List Int, (∀ y ∈ acc, (2 : Int) ^ j ∣ y) → (∀ p ∈ ps, (2 : Int) ^ j ∣ p) → ∀ y ∈ ps.foldl (fun acc p => grow p acc) acc, (2 : Int) ^ j ∣ y := by
  induction ps with
  | nil => intro acc h _; exact h
  | cons p ps ih =>
    intro acc h hp
    exact ih _ (grow_dvd acc p (hp p (by simp)) h) (fun x hx => hp x (by simp [hx]))

theorem sumAll_dvd {j : Nat} (ps : List Int) (h : ∀ p ∈ ps, (2 : Int) ^ j ∣ p) : ∀ y ∈ sumAll ps, (2 : Int) ^ j ∣ y := foldl_dvd ps [] (by simp) h

theorem foldl_le (T : Nat) (ps : List Int) : ∀ acc : List Int, Ex acc → (∀ p ∈ ps, Fl p) → (∀ y ∈ acc, y.natAbs ≤ 2 * T) → acc.sum.natAbs + absSum ps ≤ T →
    ∀ y ∈ ps.foldl (fun acc p => grow p acc) acc, y.natAbs ≤ 2 * T := by
  induction ps with
  | nil => intro acc _ _ h _; exact h
  | cons p ps ih =>
    intro acc h hp hl hT
    rw [absSum_cons] at hT
    have hf := hp p (by simp)
    refine ih (grow p acc) ⟨grow_no acc p hf h.1, grow_fl acc p hf h.2⟩ (fun x hx => hp x (by simp [hx])) (grow_le T acc p hf h.1 (by omega) hl (by omega)) ?_
    rw [grow_sum]
    omega

theorem sumAll_le (ps : List Int) (h : ∀ p ∈ ps, Fl p) : ∀ y ∈ sumAll ps, y.natAbs ≤ 2 * absSum ps :=
  foldl_le _ ps [] ⟨trivial, by simp⟩ h (by simp) (by simp)

theorem sumAll_length (ps : List Int) : (sumAll ps).length ≤ ps.length := by
  have : ∀ (ps acc : List Int), (ps.foldl (fun acc p => grow p acc) acc).length ≤ acc.length + ps.length := by
    intro ps
    induction ps with
    | nil => intro acc; simp
    | cons p ps ih =>
      intro acc
      have h1 := ih (grow p acc)
      have h2 := grow_length acc p
      simp only [List.foldl_cons, List.length_cons]
      omega
  have h := this ps []
  simpa [sumAll] using h

/-- Bits that stand for numbers, one for one. -/
def IsL : List Nat → List Int → Prop
  | [], [] => True
  | b :: bs, x :: xs => Is b x ∧ IsL bs xs
  | _, _ => False

theorem IsL.length : ∀ {bs : List Nat} {xs : List Int}, IsL bs xs → bs.length = xs.length
  | [], [], _ => rfl
  | _ :: _, _ :: _, h => by simp [h.2.length]
  | [], _ :: _, h => by cases h
  | _ :: _, [], h => by cases h

theorem IsL.append : ∀ {bs : List Nat} {xs : List Int} {cs : List Nat} {ys : List Int}, IsL bs xs → IsL cs ys → IsL (bs ++ cs) (xs ++ ys)
  | [], [], _, _, _, h => h
  | _ :: _, _ :: _, _, _, h, k => ⟨h.1, h.2.append k⟩
  | [], _ :: _, _, _, h, _ => by cases h
  | _ :: _, [], _, _, h, _ => by cases h

theorem IsL.at : ∀ {bs : List Nat} {xs : List Int}, IsL bs xs → ∀ i, i < bs.length → Is (bs.getD i 0) (xs.getD i 0)
  | [], [], _, i, hi => by simp at hi
  | _ :: _, _ :: _, h, 0, _ => h.1
  | _ :: bs, _ :: xs, h, i + 1, hi => by simpa using h.2.at i (by simpa using hi)
  | [], _ :: _, h, _, _ => by cases h
  | _ :: _, [], h, _, _ => by cases h

theorem IsL.fl : ∀ {bs : List Nat} {xs : List Int}, IsL bs xs → ∀ x ∈ xs, Fl x
  | [], [], _, x, hx => by simp at hx
  | _ :: _, _ :: _, h, x, hx => by
    rcases List.mem_cons.1 hx with rfl | hx
    · exact h.1.fl
    · exact h.2.fl x hx
  | [], _ :: _, h, _, _ => by cases h
  | _ :: _, [], h, _, _ => by cases h

theorem IsL.take : ∀ {bs : List Nat} {xs : List Int}, IsL bs xs → ∀ i, IsL (bs.take i) (xs.take i)
  | _, _, _, 0 => by simp [IsL]
  | [], [], _, _ + 1 => by simp [IsL]
  | _ :: _, _ :: _, h, i + 1 => ⟨h.1, h.2.take i⟩
  | [], _ :: _, h, _ + 1 => by cases h
  | _ :: _, [], h, _ + 1 => by cases h

theorem take_snoc {α : Type} (l : List α) (i : Nat) (h : i < l.length) : l.take (i + 1) = l.take i ++ [l[i]] := List.take_succ_eq_append_getElem h

end PlRd

namespace Go.Proofs.YtbjjkfmdkmbcfaaGreat
open Go.RowKit
open PlRd

theorem rnd_le (z : Int) : (rnd z).natAbs ≤ 2 * z.natAbs := by
  have := rnd_err z
  omega

theorem fb_add (x y : Nat) : floatBits .add .f64 x y = Ieee.double.add x y := rfl
theorem fb_sub (x y : Nat) : floatBits .sub .f64 x y = Ieee.double.sub x y := rfl
theorem fb_mul (x y : Nat) : floatBits .mul .f64 x y = Ieee.double.mul x y := rfl

theorem nadd {x y : Int} {a b : Nat} (hx : x.natAbs ≤ a) (hy : y.natAbs ≤ b) : (x + y).natAbs ≤ a + b := by omega
theorem nsub {x y : Int} {a b : Nat} (hx : x.natAbs ≤ a) (hy : y.natAbs ≤ b) : (x - y).natAbs ≤ a + b := by omega
theorem nrnd {z : Int} {a : Nat} (hz : z.natAbs ≤ a) : (rnd z).natAbs ≤ 2 * a := by
  have := rnd_le z
  omega

/-- The steps of 'twoSum', by their bits. -/
theorem two_sum_bits {x y : Nat} {X Y : Int} {B : Nat} (hx : Is x X) (hy : Is y Y) (h1 : X.natAbs ≤ B) (h2 : Y.natAbs ≤ B) (hB : 128 * B < LIM) :
    ∃ h fy fx l1 l2 l, floatBits .add .f64 x y = some h ∧ floatBits .sub .f64 h x = some fy ∧ floatBits .sub .f64 h fy = some fx ∧ floatBits .sub .f64 x fx = some l1 ∧ floatBits .sub .f64 y fy = some l2 ∧
      floatBits .add .f64 l1 l2 = some l ∧ Is h (rnd (X + Y)) ∧ Is l (X + Y - rnd (X + Y)) := by
  have c : ∀ {k m : Nat}, k ≤ m → m ≤ 128 * B → k < LIM := fun h1 h2 => Nat.lt_of_le_of_lt (Nat.le_trans h1 h2) hB
  simp only [fb_add, fb_sub]
  have t1 := nadd h1 h2
  obtain ⟨h, e1, i1⟩ := is_add hx hy (c t1 (by omega))
  have t2 := nsub (nrnd t1) h1
  obtain ⟨fy, e2, i2⟩ := is_sub i1 hx (c t2 (by omega))
  have t3 := nsub (nrnd t1) (nrnd t2)
  obtain ⟨fx, e3, i3⟩ := is_sub i1 i2 (c t3 (by omega))
  have t4 := nsub h1 (nrnd t3)
  obtain ⟨l1, e4, i4⟩ := is_sub hx i3 (c t4 (by omega))
  have t5 := nsub h2 (nrnd t2)
  obtain ⟨l2, e5, i5⟩ := is_sub hy i2 (c t5 (by omega))
  obtain ⟨l, e6, i6⟩ := is_add i4 i5 (c (nadd (nrnd t4) (nrnd t5)) (by omega))
  have ht := two_sum hx.fl hy.fl
  unfold low fromX fromY high at ht
  rw [ht] at i6
  exact ⟨h, fy, fx, l1, l2, l, e1, e2, e3, e4, e5, e6, i1, i6⟩

set_option maxHeartbeats 400000 in
theorem twoSum_walk (x y h fy fx l1 l2 l : Nat) (w : World) (h1 : floatBits .add .f64 x y = some h) (h2 : floatBits .sub .f64 h x = some fy) (h3 : floatBits .sub .f64 h fy = some fx)
    (h4 : floatBits .sub .f64 x fx = some l1) (h5 : floatBits .sub .f64 y fy = some l2) (h6 : floatBits .add .f64 l1 l2 = some l) :
    Calls Tryz.prog 88 #[.float .f64 x, .float .f64 y] w fun e w' => e = .returned (.tuple #[.float .f64 h, .float .f64 l]) ∧ w' = w := by
  have r1 := run_float_arith (P := Tryz.prog) w .add 74 .f64 x y h h1
  have r2 := run_float_arith (P := Tryz.prog) w .sub 74 .f64 _ _ _ h2
  have r3 := run_float_arith (P := Tryz.prog) w .sub 74 .f64 _ _ _ h3
  have r4 := run_float_arith (P := Tryz.prog) w .sub 74 .f64 _ _ _ h4
  have r5 := run_float_arith (P := Tryz.prog) w .sub 74 .f64 _ _ _ h5
  have r6 := run_float_arith (P := Tryz.prog) w .add 74 .f64 _ _ _ h6
  clear h1 h2 h3 h4 h5 h6
  go_enter Tryz.func88, Tryz.ntmps88
  go_wp2
  go_ret2
  exact ⟨rfl, rfl⟩

theorem twoSum_any (x y : Nat) (X Y : Int) (B : Nat) (w : World) (hx : Is x X) (hy : Is y Y) (h1 : X.natAbs ≤ B) (h2 : Y.natAbs ≤ B) (hB : 128 * B < LIM) :
    Calls Tryz.prog 88 #[.float .f64 x, .float .f64 y] w fun e w' => ∃ h l, e = .returned (.tuple #[.float .f64 h, .float .f64 l]) ∧ Is h (rnd (X + Y)) ∧ Is l (X + Y - rnd (X + Y)) ∧ w' = w := by
  obtain ⟨h, fy, fx, l1, l2, l, e1, e2, e3, e4, e5, e6, ih, il⟩ := two_sum_bits hx hy h1 h2 hB
  refine (twoSum_walk x y h fy fx l1 l2 l w e1 e2 e3 e4 e5 e6).mono ?_
  rintro e w' ⟨rfl, rfl⟩
  exact ⟨h, l, rfl, ih, il, rfl⟩

theorem fma_run (x y z r : Nat) (w : World) (h : Ieee.double.fma x y z = some r) :
    (callFunc 73 #[.float .f64 x, .float .f64 y, .float .f64 z]).run Tryz.prog w = .ok (.value (.float .f64 r)) w := by
  rw [run_callFunc_extern Tryz.func73 (by kernel_rfl) (by kernel_rfl) (by kernel_rfl) (e := Extern.MathFMA.fma) (by kernel_rfl)]
  have h' : FloatKind.f64.format.fma x y z = some r := h
  change (Sem.run Tryz.prog (match FloatKind.f64.format.fma x y z with | some r => pure (Value.float .f64 r) | none => _) w).andThen _ = _
  rw [h']
  rfl

@[go_sem] theorem run_neg_float (b : Nat) (w : World) : (Op.unary UnOp.neg (Value.float .f64 b)).run Tryz.prog w = .ok (.float .f64 (b ^^^ 9223372036854775808)) w := rfl

set_option maxHeartbeats 400000 in
theorem twoProduct_walk (x y h l : Nat) (w : World) (h1 : floatBits .mul .f64 x y = some h) (h2 : Ieee.double.fma x y (h ^^^ 9223372036854775808) = some l) :
    Calls Tryz.prog 58 #[.float .f64 x, .float .f64 y] w fun e w' => e = .returned (.tuple #[.float .f64 h, .float .f64 l]) ∧ w' = w := by
  have r1 := run_float_arith (P := Tryz.prog) w .mul 74 .f64 x y h h1
  have r2 := fma_run x y (h ^^^ 9223372036854775808) l w h2
  clear h1 h2
  go_enter Tryz.func58, Tryz.ntmps58
  go_wp2
  go_ret2
  exact ⟨rfl, rfl⟩

theorem rnd_scale (z : Int) (k : Nat) : rnd (z * 2 ^ k) = rnd z * 2 ^ k := by
  induction k with
  | zero => simp
  | succ k ih => rw [Int.pow_succ, ← Int.mul_assoc, Int.mul_comm _ 2, rnd_two, ih, Int.mul_comm 2, Int.mul_assoc]

theorem fl_unscale {w : Int} {k : Nat} (h : Fl (w * 2 ^ k)) : Fl w := by
  obtain ⟨m, e, he, hm⟩ := h
  by_cases hk : k ≤ e
  · obtain ⟨t, rfl⟩ := Nat.exists_eq_add_of_le hk
    rw [Nat.add_comm, Int.pow_add, ← Int.mul_assoc] at he
    exact ⟨m, t, Int.eq_of_mul_eq_mul_right (by have := two_pow_pos k; omega) he, hm⟩
  · obtain ⟨t, rfl⟩ := Nat.exists_eq_add_of_le (show e ≤ k by omega)
    rw [Nat.add_comm, Int.pow_add, ← Int.mul_assoc] at he
    have h1 : w * 2 ^ t = m := Int.eq_of_mul_eq_mul_right (by have := two_pow_pos e; omega) he
    refine ⟨w, 0, by simp, ?_⟩
    rw [← h1, Int.natAbs_mul, natAbs_two_pow] at hm
    exact Nat.le_trans (Nat.le_mul_of_pos_right _ (Nat.two_pow_pos t)) hm

theorem two_product {x y z : Int} (hx : Fl x) (hy : Fl y) (hz : x * y = z * 2 ^ 1074) : Fl (z - rnd z) := by
  have h := fl_perr hx hy
  rw [hz, rnd_scale, ← Int.sub_mul] at h
  exact fl_unscale h

theorem twoProduct_any (x y : Nat) (X Y Z : Int) (w : World) (hx : Is x X) (hy : Is y Y) (hz : X * Y = Z * 2 ^ 1074) (hB : 2 * Z.natAbs < LIM) :
    Calls Tryz.prog 58 #[.float .f64 x, .float .f64 y] w fun e w' => ∃ h l, e = .returned (.tuple #[.float .f64 h, .float .f64 l]) ∧ Is h (rnd Z) ∧ Is l (Z - rnd Z) ∧ w' = w := by
  obtain ⟨h, e1, i1⟩ := is_mul hx hy hz (by omega)
  have hn := is_neg i1
  have he := rnd_err Z
  obtain ⟨l, e2, i2⟩ := is_fma hx hy hn hz (by rw [← Int.sub_eq_add_neg]; omega)
  rw [← Int.sub_eq_add_neg, rnd_fl (two_product hx.fl hy.fl hz)] at i2
  refine (twoProduct_walk x y h l w e1 e2).mono ?_
  rintro e w' ⟨rfl, rfl⟩
  exact ⟨h, l, rfl, i1, i2, rfl⟩

/-- The parts as cells. -/
def vals (bs : List Nat) : List Value := bs.map (Value.float .f64)

/-- 'append' WITHIN THE CAPACITY of a row that is written out: what stands behind the new elements stays. -/
theorem wpList_append_row {P : Program} (w : World) {ops : Array Oper} {rest : List Oper} {o : Oper} {a : Act} {Q : Exit → Act → World → Prop}
    (hg : o.guard = none) (s x : Operand) (t : TypeId) (hop : o.op = Op.call { callee := Callee.builtin Builtin.append, args := #[s, x], argTypes := #[t, t] })
    (e : TypeId) (i : TypeInfo) (h1 : P.underlying t = some (.slice e)) (h2 : P.info? e = some i) (h4 : i.size = 1)
    (g k cap : Nat) (cur : Array Value) (hs : a.eval s = .slice (some ⟨g, 0, none⟩) k cap) (hgg : w.heap[g]? = some (.cells cur e (0, 0))) (hcs : cur.size = cap) (ad : Addr) (m c : Nat) (news : List Value) (hx : a.eval x = .slice (some ad) m c) (hn : news.length = m)
    (hc : ∀ j u, news[j]? = some u → w.cell? (ad.add j) = some u) (h1c : ∀ u ∈ news, u.oneCell' = true) (b1 : k + m ≤ cap)
    (hK : ∀ w', w'.heap[g]? = some (.cells (cur.toList.take k ++ (news ++ cur.toList.drop (k + m))).toArray e (0, 0)) → w.grownBy w' (some g) → wpList P ops Q rest (a.put o.dst (.slice (some ⟨g, 0, none⟩) (k + m) cap)) w') :
    wpList P ops Q (o :: rest) a w := by
  refine wpList_plain hg fun K hK' => ?_
  have hrun := run_append_room (P := P) w t o.type e i h1 h2 g k cap cur hgg ad m c news (by rw [h4, hn, Nat.mul_one]) hc h1c b1 (by rw [h4]; omega)
  rw [h4, Nat.mul_one, hn] at hrun
  unfold Oper.wp
  simp [execOp, hop, resolve, invoke, builtin, hs, hx, hrun, Result.andThen]
  refine hK' _ _ (hK _ ?_ ⟨rfl, rfl, rfl, by simp, fun k _ hk => setRow_other w g k _ (fun e => hk (by simp [e]))⟩)
  exact setRow_heap w g cur _ e _ hgg

end Go.Proofs.YtbjjkfmdkmbcfaaGreat

namespace Go.Proofs.YtbjjkfmdkmbcfaaGreat
open Go.RowKit
open PlRd

theorem info74 : (Tryz.prog.info? 74).map (fun i => (i.zero, i.size, i.bytes)) = some (some (.float .f64 0), 1, 8) := by kernel_rfl

theorem ne_of_zero {l : Nat} {L : Int} (h : Is l L) (hz : L = 0) : (FloatKind.f64.format.order l 0 != some .eq) = false := by
  have : FloatKind.f64.format.order l 0 = some (compare L 0) := is_order h is_zero
  rw [this, hz]; rfl

theorem ne_of_not {l : Nat} {L : Int} (h : Is l L) (hz : L ≠ 0) : (FloatKind.f64.format.order l 0 != some .eq) = true := by
  have : FloatKind.f64.format.order l 0 = some (compare L 0) := is_order h is_zero
  rw [this]
  have : compare L 0 ≠ .eq := fun h => hz (by simpa using h)
  simp [this]

/-- What stands at each step of 'grow'. -/
structure GRel (w wr : World) (g n cap : Nat) (bs : List Nat) (xs : List Int) (Q : Int) (k q : Nat) (hs : List Nat) (cur : Array Value) : Prop where
  hk : k ≤ n
  hq : Is q (gq Q (xs.take k))
  hl : IsL hs (gh Q (xs.take k))
  row : wr.heap[g]? = some (.cells cur 74 (0, 0))
  size : cur.size = cap
  took : cur.toList.take hs.length = vals hs
  later : ∀ t, k ≤ t → t < n → cur.toList[t]? = some (.float .f64 (bs.getD t 0))
  by' : w.grownBy wr (some g)

theorem grownBy_trans {a b c : World} {row : Option Nat} (h : a.grownBy b row) (k : b.grownBy c row) : a.grownBy c row :=
  ⟨k.os.trans h.os, k.tape.trans h.tape, k.output.trans h.output, Nat.le_trans h.size k.size, fun i hi hr => (k.block i (Nat.lt_of_lt_of_le hi h.size) hr).trans (h.block i hi hr)⟩

theorem lt_of_row {w : World} {g : Nat} {o : Obj} (h : w.heap[g]? = some o) : g < w.heap.size := (Array.getElem?_eq_some_iff.1 h).1

theorem getD_eq {l : List Int} {k : Nat} (h : k < l.length) : l.getD k 0 = l[k] := by
  rw [List.getD_eq_getElem?_getD, List.getElem?_eq_getElem h]; rfl

theorem take_next {l : List Int} {k : Nat} (h : k < l.length) : l.take (k + 1) = l.take k ++ [l.getD k 0] := by
  rw [take_snoc l k h, getD_eq h]

section
variable {w wr : World} {g n cap : Nat} {bs : List Nat} {xs : List Int} {Q : Int} {k q : Nat} {hs : List Nat} {cur : Array Value}

theorem GRel.le (R : GRel w wr g n cap bs xs Q k q hs cur) : hs.length ≤ k := by
  have h1 := R.hl.length
  have h2 := gh_length (xs.take k) Q
  rw [List.length_take] at h2
  omega

theorem GRel.cell (R : GRel w wr g n cap bs xs Q k q hs cur) (hlt : k < n) : wr.cell? ⟨g, k, none⟩ = some (.float .f64 (bs.getD k 0)) := by
  rw [cell_of_row wr g k cur 74 (0, 0) R.row]
  have := R.later k (Nat.le_refl _) hlt
  simpa using this

theorem GRel.skip (R : GRel w wr g n cap bs xs Q k q hs cur) (hlt : k < n) (hx : xs.length = n) {h : Nat} (hh : Is h (rnd (gq Q (xs.take k) + xs.getD k 0))) (hL : gq Q (xs.take k) + xs.getD k 0 - rnd (gq Q (xs.take k) + xs.getD k 0) = 0) :
    GRel w wr g n cap bs xs Q (k + 1) h hs cur := by
  have ht := take_next (l := xs) (k := k) (by omega)
  refine ⟨by omega, ?_, ?_, R.row, R.size, R.took, fun t h1 h2 => R.later t (by omega) h2, R.by'⟩
  · rw [ht, gq_snoc]; exact hh
  · rw [ht, gh_snoc, if_pos hL, List.append_nil]; exact R.hl

theorem took_push (cur : Array Value) (hs : List Nat) (l cap : Nat) (hsize : cur.size = cap) (ht : cur.toList.take hs.length = vals hs) (hc : hs.length + 1 ≤ cap) :
    (cur.toList.take hs.length ++ ([Value.float .f64 l] ++ cur.toList.drop (hs.length + 1))).toArray.size = cap ∧
    (cur.toList.take hs.length ++ ([Value.float .f64 l] ++ cur.toList.drop (hs.length + 1))).toArray.toList.take (hs ++ [l]).length = vals (hs ++ [l]) := by
  constructor
  · simp; omega
  · rw [ht]
    have e : vals hs ++ ([Value.float .f64 l] ++ cur.toList.drop (hs.length + 1)) = vals (hs ++ [l]) ++ cur.toList.drop (hs.length + 1) := by simp [vals]
    have e2 : (vals (hs ++ [l])).length = (hs ++ [l]).length := by simp [vals]
    rw [e, ← e2]
    exact List.take_left

theorem GRel.push (R : GRel w wr g n cap bs xs Q k q hs cur) (hlt : k < n) (hx : xs.length = n) (hcap : n + 1 ≤ cap) {h l : Nat} (hh : Is h (rnd (gq Q (xs.take k) + xs.getD k 0))) (hl : Is l (gq Q (xs.take k) + xs.getD k 0 - rnd (gq Q (xs.take k) + xs.getD k 0)))
    (hL : gq Q (xs.take k) + xs.getD k 0 - rnd (gq Q (xs.take k) + xs.getD k 0) ≠ 0) {o : Obj} {w1 : World}
    (h1 : w1.heap[g]? = some (.cells (cur.toList.take hs.length ++ ([Value.float .f64 l] ++ cur.toList.drop (hs.length + 1))).toArray 74 (0, 0))) (h2 : (wr.alloc o).grownBy w1 (some g)) :
    GRel w w1 g n cap bs xs Q (k + 1) h (hs ++ [l]) (cur.toList.take hs.length ++ ([Value.float .f64 l] ++ cur.toList.drop (hs.length + 1))).toArray := by
  have ht := take_next (l := xs) (k := k) (by omega)
  have hle := R.le
  have htp := took_push cur hs l cap R.size R.took (by omega)
  refine ⟨by omega, ?_, ?_, h1, htp.1, htp.2, fun t h3 h4 => ?_, grownBy_trans (grownBy_trans R.by' (World.grownBy_alloc wr o _)) h2⟩
  · rw [ht, gq_snoc]; exact hh
  · rw [ht, gh_snoc, if_neg hL]; exact R.hl.append ⟨hl, trivial⟩
  · have h5 := R.later t (by omega) h4
    rw [← h5]
    have hlen : (cur.toList.take hs.length).length = hs.length := by have := R.size; rw [List.length_take]; simp only [Array.length_toList]; omega
    show (cur.toList.take hs.length ++ ([Value.float .f64 l] ++ cur.toList.drop (hs.length + 1)))[t]? = _
    rw [List.getElem?_append_right (by omega), hlen, List.getElem?_append_right (by simp; omega), List.getElem?_drop]
    congr 1
    simp
    omega
end

set_option maxHeartbeats 800000 in
theorem grow_walk (g n cap q0 : Nat) (bs : List Nat) (xs : List Int) (Q : Int) (T : Nat) (w : World) (cur0 : Array Value) (hn : bs.length = n) (hcap : n + 1 ≤ cap) (hcm : cap ≤ 1000000) (hrow : w.heap[g]? = some (.cells cur0 74 (0, 0))) (hsize : cur0.size = cap)
    (htake : cur0.toList.take n = vals bs) (his : IsL bs xs) (hq0 : Is q0 Q) (hno : NO xs) (hQT : Q.natAbs ≤ T) (hxT : ∀ x ∈ xs, x.natAbs ≤ 2 * T) (hT : 2048 * T < LIM) :
    Calls Tryz.prog 72 #[.slice (some ⟨g, 0, none⟩) n cap, .float .f64 q0] w fun e w' => ∃ hs cur, e = .returned (.slice (some ⟨g, 0, none⟩) hs.length cap) ∧ IsL hs (grow Q xs) ∧
      w'.heap[g]? = some (.cells cur 74 (0, 0)) ∧ cur.size = cap ∧ cur.toList.take hs.length = vals hs ∧ w.grownBy w' (some g) := by
  obtain ⟨i0, hi, hz0, hz1, hz2⟩ := info_parts info74
  have hxl : xs.length = n := by rw [← his.length, hn]
  have R0 : GRel w w g n cap bs xs Q 0 q0 [] cur0 := by
    refine ⟨Nat.zero_le _, by simpa [gq] using hq0, by simp [gh, IsL], hrow, hsize, by simp [vals], fun t _ ht => ?_, World.grownBy.refl _ _⟩
    have h1 : cur0.toList[t]? = (cur0.toList.take n)[t]? := by rw [List.getElem?_take, if_pos ht]
    rw [h1, htake, vals, List.getElem?_map, List.getD_eq_getElem?_getD, List.getElem?_eq_getElem (by omega)]
    rfl
  have hQf : Fl Q := hq0.fl
  clear htake hq0 hrow hsize
  go_enter Tryz.func72, Tryz.ntmps72
  go_wp2
  go_loopw [1, 5, 14] (fun sx so si wr => ∃ (k q : Nat) (hs : List Nat) (cur : Array Value), si = .int .i64 k ∧ sx = .float .f64 q ∧ so = .slice (some ⟨g, 0, none⟩) hs.length cap ∧ GRel w wr g n cap bs xs Q k q hs cur) (fun _ _ si _ => n - (intOf si).toNat)
  case atStart => exact ⟨0, q0, [], cur0, rfl, rfl, rfl, R0⟩
  case round =>
    obtain ⟨k, q, hs, cur, rfl, rfl, rfl, R⟩ := hrel
    clear R0
    have hk := R.hk
    have hle := R.le
    by_cases hlt : k < n
    · obtain ⟨b, hcell, hb⟩ : ∃ b, wr.cell? ⟨g, k, none⟩ = some (.float .f64 b) ∧ Is b (xs.getD k 0) := ⟨_, R.cell hlt, his.at k (by omega)⟩
      have B1 : (gq Q (xs.take k)).natAbs ≤ 11 * T := Nat.le_trans (gq_le T _ Q hQf (no_take xs hno k) hQT (fun e he => hxT e (List.mem_of_mem_take he))) (by omega)
      have B2 : (xs.getD k 0).natAbs ≤ 11 * T := Nat.le_trans (hxT _ (getD_mem xs k (by omega))) (by omega)
      by_cases hL : gq Q (xs.take k) + xs.getD k 0 - rnd (gq Q (xs.take k) + xs.getD k 0) = 0
      · have HL : Hid (gq Q (xs.take k) + xs.getD k 0 - rnd (gq Q (xs.take k) + xs.getD k 0) = 0) := hL
        clear hL
        go_wp2_with (go_at_call 88; refine (twoSum_any _ _ _ _ (11 * T) _ R.hq hb B1 B2 (by omega)).mono ?_; rintro e w' ⟨h, l, rfl, hh, hl, rfl⟩; have ho := ne_of_zero hl HL.out)
        go_roundw
        case rel => exact ⟨k + 1, h, hs, cur, by go_num, rfl, rfl, R.skip hlt hxl hh HL.out⟩
        case measure => simp [intOf]; omega
      · have HL : Hid (gq Q (xs.take k) + xs.getD k 0 - rnd (gq Q (xs.take k) + xs.getD k 0) ≠ 0) := hL
        clear hL
        have hgl := lt_of_row R.row
        have R' : ∀ o, (wr.alloc o).heap[g]? = some (.cells cur 74 (0, 0)) := fun o => (Below.heap_alloc wr o g hgl).trans R.row
        go_wp2_with (first | (go_at_call 88; refine (twoSum_any _ _ _ _ (11 * T) _ R.hq hb B1 B2 (by omega)).mono ?_; rintro e w' ⟨h, l, rfl, hh, hl, rfl⟩; have ho := ne_of_not hl HL.out) | (at_builtin; refine wpList_append_row _ rfl _ _ 78 rfl 74 i0 Tryz.underlying78 hi hz1 g hs.length cap cur rfl (R' _) R.size ⟨_, 0, none⟩ 1 1 [.float .f64 l] rfl rfl (cell_one_new _ _ _) (by intro u hu; simp at hu; subst hu; rfl) (by omega) ?_; intro w1 h1 h2))
        have R1 := R.push hlt hxl hcap hh hl HL.out h1 h2
        clear R R'
        go_roundw
        case rel => exact ⟨k + 1, h, hs ++ [l], _, by go_num, rfl, by simp, R1⟩
        case measure => simp [intOf]; omega
    · have hkn : k = n := by omega
      have ht : xs.take k = xs := List.take_of_length_le (by omega)
      have hq := R.hq
      have hl := R.hl
      rw [ht] at hq hl
      have HT : Hid (xs.take k = xs) := ht
      clear ht
      have hgl := lt_of_row R.row
      have R' : ∀ o, (wr.alloc o).heap[g]? = some (.cells cur 74 (0, 0)) := fun o => (Below.heap_alloc wr o g hgl).trans R.row
      have hge := grow_eq xs Q
      by_cases hz : gq Q xs = 0
      · have HZ : Hid (gq Q xs = 0) := hz
        have ho := ne_of_zero hq hz
        rw [if_pos hz, List.append_nil] at hge
        have HG : Hid (grow Q xs = gh Q xs) := hge
        clear hz hge
        go_wp2
        go_ret
        exact ⟨hs, cur, rfl, by rw [HG.out]; exact hl, R.row, R.size, R.took, R.by'⟩
      · have HZ : Hid (gq Q xs ≠ 0) := hz
        have ho := ne_of_not hq hz
        rw [if_neg hz] at hge
        have HG : Hid (grow Q xs = gh Q xs ++ [gq Q xs]) := hge
        clear hz hge
        go_wp2_with (at_builtin; refine wpList_append_row _ rfl _ _ 78 rfl 74 i0 Tryz.underlying78 hi hz1 g hs.length cap cur rfl (R' _) R.size ⟨_, 0, none⟩ 1 1 [.float .f64 q] rfl rfl (cell_one_new _ _ _) (by intro u hu; simp at hu; subst hu; rfl) (by omega) ?_; intro w1 h1 h2)
        have htp := took_push cur hs q cap R.size R.took (by omega)
        go_ret
        refine ⟨hs ++ [q], _, by simp, ?_, h1, htp.1, htp.2, grownBy_trans (grownBy_trans R.by' (World.grownBy_alloc wr _ _)) h2⟩
        rw [HG.out]; exact hl.append ⟨hq, trivial⟩

end Go.Proofs.YtbjjkfmdkmbcfaaGreat

namespace Go.Proofs.YtbjjkfmdkmbcfaaGreat
open Go.RowKit
open PlRd

/-- The slice v reads as the parts bs. -/
def Num (w : World) (base : Nat) (v : Value) (bs : List Nat) : Prop := w.ownsRow base 74 1 v bs.length (vals bs)

/-- The same, and not nil. -/
def NumS (w : World) (base : Nat) (v : Value) (bs : List Nat) : Prop := Num w base v bs ∧ v ≠ .slice none 0 0

theorem absSum_take (xs : List Int) (k : Nat) : absSum (xs.take k) ≤ absSum xs := by
  have := absSum_append (xs.take k) (xs.drop k)
  rw [List.take_append_drop] at this
  omega

theorem le_absSum {x : Int} {xs : List Int} (h : x ∈ xs) : x.natAbs ≤ absSum xs := by
  induction xs with
  | nil => simp at h
  | cons y ys ih =>
    rw [absSum_cons]
    rcases List.mem_cons.1 h with rfl | h
    · omega
    · have := ih h; omega

/-- What stands at each step of 'Sum'. -/
structure SRel (w wr : World) (n : Nat) (xs : List Int) (k : Nat) (hs : List Nat) (cur : Array Value) : Prop where
  hk : k ≤ n
  hl : IsL hs (sumAll (xs.take k))
  row : wr.heap[w.heap.size]? = some (.cells cur 74 (0, 0))
  size : cur.size = n
  took : cur.toList.take hs.length = vals hs
  below : Below w.heap.size w wr

theorem SRel.le {w wr : World} {n : Nat} {xs : List Int} {k : Nat} {hs : List Nat} {cur : Array Value} (R : SRel w wr n xs k hs cur) : hs.length ≤ k := by
  have h1 := R.hl.length
  have h2 := sumAll_length (xs.take k)
  rw [List.length_take] at h2
  omega

set_option maxHeartbeats 800000 in
theorem sum_walk (g n c : Nat) (bs : List Nat) (xs : List Int) (T : Nat) (w : World) (hn : bs.length = n) (hnm : n ≤ 1000000) (hcell : ∀ t, t < n → w.cell? ⟨g, t, none⟩ = some (.float .f64 (bs.getD t 0))) (hg : g < w.heap.size)
    (his : IsL bs xs) (hxT : absSum xs ≤ T) (hT : 2048 * T < LIM) :
    Calls Tryz.prog 56 #[.slice (some ⟨g, 0, none⟩) n c] w fun e w' => ∃ v' cs, e = .returned v' ∧ NumS w' w.heap.size v' cs ∧ IsL cs (sumAll xs) ∧ Below w.heap.size w w' := by
  obtain ⟨i0, hi, hz0, hz1, hz2⟩ := info_parts info74
  have hxl : xs.length = n := by rw [← his.length, hn]
  go_enter Tryz.func56, Tryz.ntmps56
  go_wp2_with (at_make; refine wpList_make_own _ rfl _ _ 78 rfl w.heap.size 74 i0 (.float .f64 0) 1 Tryz.underlying78 hi hz0 hz1 _ _ _ n rfl rfl (by omega) (by rw [hz2]; omega) (by unfold maxLen; omega) (Nat.le_refl _) ?_; intro w0 hown0 hgrow0)
  obtain ⟨cur0, R0⟩ : ∃ cur0, SRel w w0 n xs 0 [] cur0 := by
    rcases hown0.2 with ⟨h, _⟩ | ⟨g', cap', cur, h, hbg, hgg, hnc, hcm, hcs, htake⟩
    · simp at h
    · simp only [Value.slice.injEq, Option.some.injEq, Addr.mk.injEq, and_true, true_and] at h
      obtain ⟨rfl, rfl⟩ := h
      exact ⟨cur, Nat.zero_le _, by simp [sumAll, IsL], hgg, by simpa using hcs, by simp [vals], (Below.refl _ _).grown hgrow0 (Nat.le_refl _) (fun k h => by cases h)⟩
  clear hown0 hgrow0
  go_wp2
  go_loopw [3, 11] (fun so si wr => ∃ (k : Nat) (hs : List Nat) (cur : Array Value), si = .int .i64 k ∧ so = .slice (some ⟨w.heap.size, 0, none⟩) hs.length n ∧ SRel w wr n xs k hs cur) (fun _ si _ => n - (intOf si).toNat)
  case atStart => exact ⟨0, [], cur0, rfl, rfl, R0⟩
  case round =>
    obtain ⟨k, hs, cur, rfl, rfl, R⟩ := hrel
    clear R0
    have hk := R.hk
    have hle := R.le
    by_cases hlt : k < n
    · obtain ⟨b, hcl, hb⟩ : ∃ b, wr.cell? ⟨g, k, none⟩ = some (.float .f64 b) ∧ Is b (xs.getD k 0) := ⟨_, (R.below.cell (by exact hg)).trans (hcell k hlt), his.at k (by omega)⟩
      have hfl : ∀ p ∈ xs.take k, Fl p := fun p hp => his.fl p (List.mem_of_mem_take hp)
      have hE := sumAll_ex (xs.take k) hfl
      have ha := absSum_take xs k
      have hB : ∀ x ∈ sumAll (xs.take k), x.natAbs ≤ 2 * T := fun x hx => Nat.le_trans (sumAll_le _ hfl x hx) (by omega)
      have hQ : (xs.getD k 0).natAbs ≤ T := Nat.le_trans (le_absSum (getD_mem xs k (by omega))) hxT
      go_wp2_with (go_at_call 72; refine (grow_walk _ _ _ _ hs _ _ T _ cur rfl (by omega) (by omega) R.row R.size R.took R.hl hb hE.1 hQ hB hT).mono ?_; rintro e w' ⟨hs', cur', rfl, hl', hrow', hsize', htook', hby⟩)
      have R1 : SRel w w' n xs (k + 1) hs' cur' := by
        refine ⟨by omega, ?_, hrow', hsize', htook', R.below.grown hby R.below.size (fun k h => by cases h; exact Nat.le_refl _)⟩
        rw [take_next (l := xs) (k := k) (by omega), sumAll_snoc]
        exact hl'
      clear R
      go_roundw
      case rel => exact ⟨k + 1, hs', cur', by go_num, rfl, R1⟩
      case measure => simp [intOf]; omega
    · have ht : xs.take k = xs := List.take_of_length_le (by omega)
      have hl := R.hl
      rw [ht] at hl
      clear ht
      go_wp2
      go_ret
      refine ⟨_, hs, rfl, ⟨⟨by simp [vals], .inr ⟨_, n, cur, rfl, Nat.le_refl _, R.row, by omega, by unfold maxLen; omega, by rw [R.size, Nat.mul_one], by rw [Nat.mul_one]; exact R.took⟩⟩, by simp⟩, hl, R.below⟩

set_option maxHeartbeats 400000 in
theorem sum_nil (w : World) :
    Calls Tryz.prog 56 #[.slice none 0 0] w fun e w' => ∃ v' cs, e = .returned v' ∧ NumS w' w.heap.size v' cs ∧ IsL cs (sumAll []) ∧ Below w.heap.size w w' := by
  obtain ⟨i0, hi, hz0, hz1, hz2⟩ := info_parts info74
  go_enter Tryz.func56, Tryz.ntmps56
  go_wp2_with (at_make; refine wpList_make_own _ rfl _ _ 78 rfl w.heap.size 74 i0 (.float .f64 0) 1 Tryz.underlying78 hi hz0 hz1 _ _ _ 0 rfl rfl (by omega) (by rw [hz2]; omega) (by unfold maxLen; omega) (Nat.le_refl _) ?_; intro w0 hown0 hgrow0)
  go_wp2
  refine wp_loop_rounds 1 ?_
  rw [rounds_succ]
  go_wp2
  go_ret
  exact ⟨_, [], rfl, ⟨hown0, by simp⟩, trivial, (Below.refl _ _).grown hgrow0 (Nat.le_refl _) (fun k h => by cases h)⟩

/-- A slice of parts, taken apart. -/
theorem Num.cases {w : World} {base : Nat} {v : Value} {bs : List Nat} (h : Num w base v bs) :
    (v = .slice none 0 0 ∧ bs = []) ∨ ∃ g c, v = .slice (some ⟨g, 0, none⟩) bs.length c ∧ base ≤ g ∧ g < w.heap.size ∧ ∀ t, t < bs.length → w.cell? ⟨g, t, none⟩ = some (.float .f64 (bs.getD t 0)) := by
  rcases h.2 with ⟨rfl, h0⟩ | ⟨g, c, cur, rfl, hb, hg, hnc, hcm, hcs, htake⟩
  · exact .inl ⟨rfl, List.eq_nil_of_length_eq_zero h0⟩
  · refine .inr ⟨g, c, rfl, hb, lt_of_row hg, fun t ht => ?_⟩
    rw [h.cellAt t (by omega), vals, List.getElem?_map, List.getD_eq_getElem?_getD, List.getElem?_eq_getElem ht]
    rfl

theorem Num.below {w w' : World} {B base : Nat} {v : Value} {bs : List Nat} (h : Num w base v bs) (hb : Below B w w') (hB : ∀ g, v.ownBlock = some g → g < B) : Num w' base v bs := by
  refine ⟨h.1, ?_⟩
  rcases h.2 with hn | ⟨g, c, cur, rfl, h1, hg, rest⟩
  · exact .inl hn
  · exact .inr ⟨g, c, cur, rfl, h1, by rw [hb.block g (hB g rfl)]; exact hg, rest⟩

theorem Num.kept {w w' : World} {base : Nat} {v : Value} {bs : List Nat} (h : Num w base v bs) (hb : Below w.heap.size w w') : Num w' base v bs :=
  h.below hb (fun g hg => (World.ownsRow.lt h g hg).2)

theorem NumS.cases {w : World} {base : Nat} {v : Value} {bs : List Nat} (h : NumS w base v bs) :
    ∃ g c, v = .slice (some ⟨g, 0, none⟩) bs.length c ∧ base ≤ g ∧ g < w.heap.size ∧ ∀ t, t < bs.length → w.cell? ⟨g, t, none⟩ = some (.float .f64 (bs.getD t 0)) := by
  rcases h.1.cases with ⟨h0, _⟩ | h1
  · exact absurd h0 h.2
  · exact h1

theorem NumS.kept {w w' : World} {base : Nat} {v : Value} {bs : List Nat} (h : NumS w base v bs) (hb : Below w.heap.size w w') : NumS w' base v bs := ⟨h.1.kept hb, h.2⟩

theorem Num.base {w : World} {b b' : Nat} {v : Value} {bs : List Nat} (h : Num w b v bs) (hb : b' ≤ b) : Num w b' v bs := by
  refine ⟨h.1, ?_⟩
  rcases h.2 with hn | ⟨g, c, cur, rfl, h1, rest⟩
  · exact .inl hn
  · exact .inr ⟨g, c, cur, rfl, Nat.le_trans hb h1, rest⟩

theorem NumS.base {w : World} {b b' : Nat} {v : Value} {bs : List Nat} (h : NumS w b v bs) (hb : b' ≤ b) : NumS w b' v bs := ⟨h.1.base hb, h.2⟩

theorem sum_any (v : Value) (base : Nat) (bs : List Nat) (xs : List Int) (T : Nat) (w : World) (hv : Num w base v bs) (hnm : bs.length ≤ 1000000) (his : IsL bs xs) (hxT : absSum xs ≤ T) (hT : 2048 * T < LIM) :
    Calls Tryz.prog 56 #[v] w fun e w' => ∃ v' cs, e = .returned v' ∧ NumS w' w.heap.size v' cs ∧ IsL cs (sumAll xs) ∧ Below w.heap.size w w' := by
  rcases hv.cases with ⟨rfl, rfl⟩ | ⟨g, c, rfl, _, hg, hcell⟩
  · have : xs = [] := List.eq_nil_of_length_eq_zero his.length.symm
    subst this
    exact sum_nil w
  · exact sum_walk g _ c bs xs T w rfl hnm hcell hg his hxT hT

end Go.Proofs.YtbjjkfmdkmbcfaaGreat

namespace Go.Proofs.YtbjjkfmdkmbcfaaGreat
open Go.RowKit
open PlRd

theorem ret_int {k : IntKind} {a b : Int} (h : a = b) : Ending.returned (.int k a) = .returned (.int k b) := by rw [h]

@[go_sem] theorem run_store_float {P : Program} {w : World} (a : Addr) (m : Mode) (k : FloatKind) (b : Nat) : (store a (.float k b) m).run P w = stored P w a (.float k b) m := run_store P w a _ m rfl

theorem gt_of {l : Nat} {L : Int} (h : Is l L) : (FloatKind.f64.format.order l 0 == some .gt) = decide (0 < L) := by
  have : FloatKind.f64.format.order l 0 = some (compare L 0) := is_order h is_zero
  rw [this]
  rcases Int.lt_trichotomy L 0 with h | h | h
  · rw [show compare L 0 = .lt by simp [compare, compareOfLessAndEq, h]]; simp; omega
  · subst h; rfl
  · rw [show compare L 0 = .gt by simp [compare, compareOfLessAndEq, show ¬ L < 0 by omega, show ¬ L = 0 by omega]]; simp; omega

theorem lt_of {l : Nat} {L : Int} (h : Is l L) : (FloatKind.f64.format.order l 0 == some .lt) = decide (L < 0) := by
  have : FloatKind.f64.format.order l 0 = some (compare L 0) := is_order h is_zero
  rw [this]
  rcases Int.lt_trichotomy L 0 with h | h | h
  · rw [show compare L 0 = .lt by simp [compare, compareOfLessAndEq, h]]; simp; omega
  · subst h; rfl
  · rw [show compare L 0 = .gt by simp [compare, compareOfLessAndEq, show ¬ L < 0 by omega, show ¬ L = 0 by omega]]; simp; omega

set_option maxHeartbeats 400000 in
theorem sign1_any (l : Nat) (L : Int) (w : World) (h : Is l L) : Calls Tryz.prog 57 #[.float .f64 l] w fun e w' => e = .returned (.int .i64 (sgn L)) ∧ w' = w := by
  have h1 := gt_of h
  have h2 := lt_of h
  rcases Int.lt_trichotomy L 0 with c | c | c
  · have e1 : (FloatKind.f64.format.order l 0 == some .gt) = false := by rw [h1]; simp; omega
    have e2 : (FloatKind.f64.format.order l 0 == some .lt) = true := by rw [h2]; simpa using c
    have e3 : Hid (sgn L = -1) := by unfold Hid sgn; rw [if_neg (by omega), if_pos c]
    clear h1 h2 c h
    go_enter Tryz.func57, Tryz.ntmps57
    go_wp2
    go_ret
    exact ⟨ret_int e3.out.symm, rfl⟩
  · have e1 : (FloatKind.f64.format.order l 0 == some .gt) = false := by rw [h1]; simp; omega
    have e2 : (FloatKind.f64.format.order l 0 == some .lt) = false := by rw [h2]; simp; omega
    have e3 : Hid (sgn L = 0) := by unfold Hid sgn; rw [if_neg (by omega), if_neg (by omega)]
    clear h1 h2 c h
    go_enter Tryz.func57, Tryz.ntmps57
    go_wp2
    go_ret
    exact ⟨ret_int e3.out.symm, rfl⟩
  · have e1 : (FloatKind.f64.format.order l 0 == some .gt) = true := by rw [h1]; simpa using c
    have e3 : Hid (sgn L = 1) := by unfold Hid sgn; rw [if_pos c]
    clear h1 h2 c h
    go_enter Tryz.func57, Tryz.ntmps57
    go_wp2
    go_ret
    exact ⟨ret_int e3.out.symm, rfl⟩

theorem getLast_getD (xs : List Int) (h : xs ≠ []) : xs.getLast? = some (xs.getD (xs.length - 1) 0) := by
  have hp : 0 < xs.length := List.length_pos_iff.2 h
  rw [List.getLast?_eq_getElem?, List.getD_eq_getElem?_getD, List.getElem?_eq_getElem (by omega)]; rfl

set_option maxHeartbeats 400000 in
theorem sign_any (v : Value) (base : Nat) (bs : List Nat) (xs : List Int) (w : World) (hv : Num w base v bs) (hnm : bs.length ≤ 1000000) (his : IsL bs xs) (hno : NO xs) :
    Calls Tryz.prog 41 #[v] w fun e w' => e = .returned (.int .i64 (sgn xs.sum)) ∧ w' = w := by
  have hs := sgn_last xs hno
  have hl := his.length
  rcases hv.cases with ⟨rfl, rfl⟩ | ⟨g, c, rfl, _, hg, hcell⟩
  · have : xs = [] := List.eq_nil_of_length_eq_zero hl.symm
    subst this
    clear hv hs
    go_enter Tryz.func41, Tryz.ntmps41
    go_wp2
    go_ret
    exact ⟨rfl, rfl⟩
  · by_cases h0 : bs.length = 0
    · have e1 : bs = [] := List.eq_nil_of_length_eq_zero h0
      have e2 : xs = [] := List.eq_nil_of_length_eq_zero (by omega)
      subst e1 e2
      clear hv hs hcell
      go_enter Tryz.func41, Tryz.ntmps41
      go_wp2
      go_ret
      exact ⟨rfl, rfl⟩
    · obtain ⟨n, hn⟩ : ∃ n, bs.length = n + 1 := ⟨bs.length - 1, by omega⟩
      rw [hn] at hnm ⊢
      obtain ⟨b, hc, hb⟩ : ∃ b, w.cell? ⟨g, n, none⟩ = some (.float .f64 b) ∧ Is b (xs.getD n 0) := ⟨_, hcell n (by omega), his.at n (by omega)⟩
      rw [getLast_getD xs (by intro h; rw [h] at hl; exact h0 hl), show xs.length - 1 = n by omega] at hs
      have HS : Hid (sgn xs.sum = sgn (xs.getD n 0)) := hs
      clear hv hs hcell hn hl h0
      go_enter Tryz.func41, Tryz.ntmps41
      go_wp2_with (go_at_call 57; refine (sign1_any _ _ _ hb).mono ?_; rintro e w' ⟨rfl, rfl⟩)
      go_ret
      exact ⟨ret_int HS.out.symm, rfl⟩

/-- The bits with their signs turned. -/
def negs (bs : List Nat) : List Nat := bs.map (· ^^^ 9223372036854775808)

theorem negs_is : ∀ {bs : List Nat} {xs : List Int}, IsL bs xs → IsL (negs bs) (xs.map (- ·))
  | [], [], _ => trivial
  | _ :: _, _ :: _, h => ⟨is_neg h.1, negs_is h.2⟩
  | [], _ :: _, h => by cases h
  | _ :: _, [], h => by cases h

theorem neg_step (bs : List Nat) (k : Nat) (hk : k < bs.length) (b : Nat) (hb : b = bs.getD k 0) : (vals (negs (bs.take k)) ++ List.replicate (bs.length - k) (Value.float .f64 0)).set k (.float .f64 (b ^^^ 9223372036854775808)) = vals (negs (bs.take (k + 1))) ++ List.replicate (bs.length - (k + 1)) (.float .f64 0) := by
  have hl : (vals (negs (bs.take k))).length = k := by simp [vals, negs]; omega
  rw [List.set_append_right _ _ (by omega), hl, Nat.sub_self, show bs.length - k = (bs.length - (k + 1)) + 1 by omega, List.replicate_succ, List.set_cons_zero, take_snoc bs k hk]
  rw [List.getD_eq_getElem?_getD, List.getElem?_eq_getElem hk] at hb
  subst hb
  simp only [vals, negs, List.map_append, List.map_cons, List.map_nil, List.append_assoc, List.cons_append, List.nil_append, Option.getD_some]

set_option maxHeartbeats 800000 in
theorem negative_walk (g n c : Nat) (bs : List Nat) (w : World) (hn : bs.length = n) (hnm : n ≤ 1000000) (hcell : ∀ t, t < n → w.cell? ⟨g, t, none⟩ = some (.float .f64 (bs.getD t 0))) (hg : g < w.heap.size) :
    Calls Tryz.prog 40 #[.slice (some ⟨g, 0, none⟩) n c] w fun e w' => ∃ v', e = .returned v' ∧ NumS w' w.heap.size v' (negs bs) ∧ Below w.heap.size w w' := by
  obtain ⟨i0, hi, hz0, hz1, hz2⟩ := info_parts info74
  go_enter Tryz.func40, Tryz.ntmps40
  go_wp2_with (at_make; refine wpList_make_full _ rfl _ _ 78 rfl w.heap.size 74 i0 (.float .f64 0) 1 Tryz.underlying78 hi hz0 hz1 _ _ _ _ n rfl rfl (by omega) (by omega) (by rw [hz2]; omega) (by unfold maxLen; omega) (Nat.le_refl _) ?_; intro w0 hown0 hgrow0)
  have hm : (madeCells (Value.float .f64 0).cells (n * 1)).toList = List.replicate n (Value.float .f64 0) := by rw [Nat.mul_one]; exact toList_madeCells_one _ _
  rw [hm] at hown0
  clear hm
  go_wp2
  go_loopw [11] (fun si wr => ∃ (k : Nat), si = .int .i64 k ∧ k ≤ n ∧ wr.ownsRow w.heap.size 74 1 (.slice (some ⟨w.heap.size, 0, none⟩) n n) n (vals (negs (bs.take k)) ++ List.replicate (n - k) (.float .f64 0)) ∧ Below w.heap.size w wr) (fun si _ => n - (intOf si).toNat)
  case atStart => exact ⟨0, rfl, Nat.zero_le _, by simpa [vals, negs] using hown0, (Below.refl _ _).grown hgrow0 (Nat.le_refl _) (fun k h => by cases h)⟩
  case round =>
    obtain ⟨k, rfl, hk, hown, hbel⟩ := hrel
    clear hown0 hgrow0
    by_cases hlt : k < n
    · obtain ⟨b, hb, hcl⟩ : ∃ b, b = bs.getD k 0 ∧ wr.cell? ⟨g, k, none⟩ = some (.float .f64 b) := ⟨_, rfl, (hbel.cell (by exact hg)).trans (hcell k hlt)⟩
      have hf := hown.frozenAt k
      have hc2 := hown.cellAt k (by omega)
      have hst := hown.stored k (.float .f64 (b ^^^ 9223372036854775808))
      have hnx := neg_step bs k (by omega) b hb
      rw [hn] at hnx
      rw [hnx] at hst
      have HB : Hid (b = bs.getD k 0) := hb
      clear hb hnx
      obtain ⟨u, hu⟩ : ∃ u, wr.cell? ⟨w.heap.size, k, none⟩ = some u := by
        rw [hc2, List.getElem?_eq_getElem (by simp [vals, negs]; omega)]; exact ⟨_, rfl⟩
      clear hc2
      obtain ⟨hst1, hst2⟩ := hst
      have B' := hbel.grown hst2 hbel.size (fun k h => by cases h; exact Nat.le_refl _)
      clear hst2
      go_wp2
      go_roundw
      case rel => exact ⟨k + 1, by go_num, by omega, hst1, B'⟩
      case measure => simp [intOf]; omega
    · have ht : bs.take k = bs := List.take_of_length_le (by omega)
      rw [ht, show n - k = 0 by omega, List.replicate_zero, List.append_nil] at hown
      have hl : (negs bs).length = n := by simp [negs, hn]
      have hown' : Num wr w.heap.size (.slice (some ⟨w.heap.size, 0, none⟩) n n) (negs bs) := by unfold Num; rw [hl]; exact hown
      clear ht hl hown
      go_wp2
      go_ret
      exact ⟨_, rfl, ⟨hown', by simp⟩, hbel⟩

set_option maxHeartbeats 400000 in
theorem negative_nil (w : World) : Calls Tryz.prog 40 #[.slice none 0 0] w fun e w' => ∃ v', e = .returned v' ∧ NumS w' w.heap.size v' (negs []) ∧ Below w.heap.size w w' := by
  obtain ⟨i0, hi, hz0, hz1, hz2⟩ := info_parts info74
  go_enter Tryz.func40, Tryz.ntmps40
  go_wp2_with (at_make; refine wpList_make_own _ rfl _ _ 78 rfl w.heap.size 74 i0 (.float .f64 0) 1 Tryz.underlying78 hi hz0 hz1 _ _ _ 0 rfl rfl (by omega) (by rw [hz2]; omega) (by unfold maxLen; omega) (Nat.le_refl _) ?_; intro w0 hown0 hgrow0)
  go_wp2
  refine wp_loop_rounds 1 ?_
  rw [rounds_succ]
  go_wp2
  go_ret
  exact ⟨_, rfl, ⟨hown0, by simp⟩, (Below.refl _ _).grown hgrow0 (Nat.le_refl _) (fun k h => by cases h)⟩

theorem negative_any (v : Value) (base : Nat) (bs : List Nat) (w : World) (hv : Num w base v bs) (hnm : bs.length ≤ 1000000) :
    Calls Tryz.prog 40 #[v] w fun e w' => ∃ v', e = .returned v' ∧ NumS w' w.heap.size v' (negs bs) ∧ Below w.heap.size w w' := by
  rcases hv.cases with ⟨rfl, rfl⟩ | ⟨g, c, rfl, _, hg, hcell⟩
  · exact negative_nil w
  · exact negative_walk g _ c bs w rfl hnm hcell hg

end Go.Proofs.YtbjjkfmdkmbcfaaGreat
