import GoSem.Core.Float
/-! Whole numbers rounded to 53 binary digits, to the nearest, ties to even; sums and products and what the rounding leaves. -/
namespace PlRd

/-- The nearest whole number to 'n / 2 ^ d', ties to even. -/
def cutE (n d : Nat) : Nat :=
  n / 2 ^ d + (decide (2 ^ d < 2 * (n % 2 ^ d)) || (decide (2 ^ d = 2 * (n % 2 ^ d)) && decide (n / 2 ^ d % 2 = 1))).toNat

/-- How many digits are dropped. -/
def dropOf (n : Nat) : Nat := n.log2 - 52

def rndN (n : Nat) : Nat := cutE n (dropOf n) * 2 ^ dropOf n

def rnd (x : Int) : Int := if x < 0 then -(rndN x.natAbs : Int) else (rndN x.natAbs : Int)

/-- Has at most 53 digits. -/
def Fl (x : Int) : Prop := ∃ (m : Int) (e : Nat), x = m * 2 ^ e ∧ m.natAbs ≤ 2 ^ 53

theorem rnd_neg (x : Int) : rnd (-x) = -rnd x := by
  unfold rnd
  rcases Int.lt_trichotomy x 0 with h | h | h
  · rw [if_neg (by omega), if_pos h]; simp
  · subst h; simp [rndN, cutE, dropOf]
  · rw [if_pos (by omega), if_neg (by omega)]; simp

theorem fl_neg {x : Int} (h : Fl x) : Fl (-x) := by
  obtain ⟨m, e, rfl, hm⟩ := h
  exact ⟨-m, e, by simp [Int.neg_mul], by simpa using hm⟩

theorem pow_dvd {j d : Nat} (h : j ≤ d) : (2 : Int) ^ j ∣ 2 ^ d := by
  obtain ⟨t, rfl⟩ := Nat.exists_eq_add_of_le h
  rw [Int.pow_add]; exact Int.dvd_mul_right ..

theorem two_pow_pos (k : Nat) : (0 : Int) < 2 ^ k := Int.pow_pos (by decide)

/-- 'rndN' by its parts. -/
theorem rndN_parts (n : Nat) (hn : n ≠ 0) : ∃ k : Nat, rndN n = k * 2 ^ dropOf n ∧ k ≤ 2 ^ 53 ∧ (dropOf n = 0 → k = n) ∧
    (0 < dropOf n → 2 ^ 52 ≤ k ∧ 2 ^ (52 + dropOf n) ≤ n ∧ n < 2 ^ (53 + dropOf n)) ∧ 2 * rndN n ≤ 2 * n + 2 ^ dropOf n ∧ 2 * n ≤ 2 * rndN n + 2 ^ dropOf n ∧ (n % 2 ^ dropOf n = 0 → rndN n = n) := by
  have hlo : 2 ^ n.log2 ≤ n := Nat.log2_self_le hn
  have hhi : n < 2 ^ (n.log2 + 1) := Nat.lt_log2_self
  have hG : 0 < 2 ^ dropOf n := Nat.two_pow_pos _
  have hdm := Nat.div_add_mod n (2 ^ dropOf n)
  have hml := Nat.mod_lt n hG
  refine ⟨cutE n (dropOf n), rfl, ?_, ?_, ?_, ?_, ?_, ?_⟩
  · have h1 : n / 2 ^ dropOf n < 2 ^ 53 := by
      rw [Nat.div_lt_iff_lt_mul hG, ← Nat.pow_add]
      refine Nat.lt_of_lt_of_le hhi (Nat.pow_le_pow_right (by decide) ?_)
      unfold dropOf; omega
    have h2 := Bool.toNat_le (decide (2 ^ dropOf n < 2 * (n % 2 ^ dropOf n)) || (decide (2 ^ dropOf n = 2 * (n % 2 ^ dropOf n)) && decide (n / 2 ^ dropOf n % 2 = 1)))
    unfold cutE
    omega
  · intro h0
    rw [h0]
    simp [cutE, Nat.mod_one]
  · intro hp
    have hL : n.log2 = 52 + dropOf n := by unfold dropOf at hp ⊢; omega
    have h1 : 2 ^ (52 + dropOf n) ≤ n := by rw [← hL]; exact hlo
    have h2 : n < 2 ^ (53 + dropOf n) := by rw [show 53 + dropOf n = n.log2 + 1 by omega]; exact hhi
    refine ⟨?_, h1, h2⟩
    have : 2 ^ 52 ≤ n / 2 ^ dropOf n := by rw [Nat.le_div_iff_mul_le hG, ← Nat.pow_add]; exact h1
    unfold cutE; omega
  · show 2 * (cutE n (dropOf n) * 2 ^ dropOf n) ≤ _
    unfold cutE
    generalize hq : n / 2 ^ dropOf n = q at *
    generalize hr : n % 2 ^ dropOf n = r at *
    generalize 2 ^ dropOf n = G at *
    by_cases c1 : G < 2 * r
    · simp [c1, Nat.add_mul]; rw [Nat.mul_comm q G]; omega
    · by_cases c2 : G = 2 * r
      · by_cases c3 : q % 2 = 1
        · simp [c2, c3, Nat.add_mul]; rw [Nat.mul_comm q]; subst c2; omega
        · simp [c2, c3]; rw [Nat.mul_comm q]; subst c2; omega
      · simp [c1, c2]; rw [Nat.mul_comm q]; omega
  · show _ ≤ 2 * (cutE n (dropOf n) * 2 ^ dropOf n) + _
    unfold cutE
    generalize hq : n / 2 ^ dropOf n = q at *
    generalize hr : n % 2 ^ dropOf n = r at *
    generalize 2 ^ dropOf n = G at *
    by_cases c1 : G < 2 * r
    · simp [c1, Nat.add_mul]; rw [Nat.mul_comm q G]; omega
    · by_cases c2 : G = 2 * r
      · by_cases c3 : q % 2 = 1
        · simp [c2, c3, Nat.add_mul]; rw [Nat.mul_comm q]; subst c2; omega
        · simp [c2, c3]; rw [Nat.mul_comm q]; subst c2; omega
      · simp [c1, c2]; rw [Nat.mul_comm q]; omega
  · intro h0
    show cutE n (dropOf n) * 2 ^ dropOf n = n
    unfold cutE
    rw [h0]
    have : ¬ (2 ^ dropOf n = 0) := by omega
    simp
    rw [Nat.mul_comm]; omega

/-- What 'rnd' gives, of a number that is not 0: a number k of at most 53 digits, d places up. -/
theorem rnd_parts (x : Int) : ∃ (k : Int) (d : Nat), rnd x = k * 2 ^ d ∧ k.natAbs ≤ 2 ^ 53 ∧ (d = 0 → rnd x = x) ∧
    (0 < d → 2 ^ (52 + d) ≤ x.natAbs) ∧ 2 * (x - rnd x).natAbs ≤ 2 ^ d ∧ ((2 : Int) ^ d ∣ x → rnd x = x) ∧ (0 ≤ x → 0 ≤ rnd x) ∧ (x ≤ 0 → rnd x ≤ 0) ∧ (0 < d → 2 ^ (52 + d) ≤ (rnd x).natAbs) := by
  by_cases h0 : x = 0
  · subst h0
    exact ⟨0, 0, by simp [rnd, rndN, cutE, dropOf], by simp, by simp [rnd, rndN, cutE, dropOf], by simp, by simp [rnd, rndN, cutE, dropOf], by simp [rnd, rndN, cutE, dropOf], by simp [rnd, rndN, cutE, dropOf], by simp [rnd, rndN, cutE, dropOf], by simp⟩
  · obtain ⟨k, h1, h2, h3, h4, h5, h6, h7⟩ := rndN_parts x.natAbs (by omega)
    have hd : (2 : Int) ^ dropOf x.natAbs ∣ x → rndN x.natAbs = x.natAbs := by
      intro hdv
      apply h7
      have : ((2 ^ dropOf x.natAbs : Nat) : Int) ∣ x := by simpa using hdv
      exact Nat.mod_eq_zero_of_dvd (by simpa using Int.natAbs_dvd_natAbs.2 this)
    have hz : dropOf x.natAbs = 0 → rndN x.natAbs = x.natAbs := by
      intro h; apply h7; rw [h]; simp [Nat.mod_one]
    have hg : 0 < dropOf x.natAbs → 2 ^ (52 + dropOf x.natAbs) ≤ rndN x.natAbs := by
      intro hp
      rw [h1, Nat.pow_add]
      exact Nat.mul_le_mul_right _ (h4 hp).1
    generalize hG : 2 ^ dropOf x.natAbs = G at *
    have hc : ((2 : Int) ^ dropOf x.natAbs) = (G : Int) := by rw [← hG]; simp
    unfold rnd
    by_cases hs : x < 0
    · rw [if_pos hs]
      refine ⟨-(k : Int), dropOf x.natAbs, ?_, by simpa using h2, ?_, fun hp => (h4 hp).2.1, ?_, ?_, ?_, ?_, ?_⟩
      · rw [h1, hc]; simp [Int.neg_mul]
      · intro h; rw [hz h]; omega
      · rw [hG]; omega
      · intro h; rw [hd h]; omega
      · intro h; omega
      · intro _; omega
      · intro hp; have := hg hp; omega
    · rw [if_neg hs]
      refine ⟨(k : Int), dropOf x.natAbs, ?_, by simpa using h2, ?_, fun hp => (h4 hp).2.1, ?_, ?_, ?_, ?_, ?_⟩
      · rw [h1, hc]; simp
      · intro h; rw [hz h]; omega
      · rw [hG]; omega
      · intro h; rw [hd h]; omega
      · intro h; omega
      · intro h; have : x = 0 := by omega
        exact absurd this h0
      · intro hp; have := hg hp; omega

theorem fl_rnd (x : Int) : Fl (rnd x) := by
  obtain ⟨k, d, h, hk, _⟩ := rnd_parts x
  exact ⟨k, d, h, hk⟩

/-- A multiple of a power of two is rounded to one. -/
theorem dvd_rnd {j : Nat} {x : Int} (h : (2 : Int) ^ j ∣ x) : (2 : Int) ^ j ∣ rnd x := by
  obtain ⟨k, d, h1, _, _, _, _, h7, _⟩ := rnd_parts x
  by_cases hjd : j ≤ d
  · rw [h1]
    exact Int.dvd_mul_of_dvd_right (pow_dvd hjd)
  · rw [h7 (Int.dvd_trans (pow_dvd (by omega)) h)]
    exact h

theorem natAbs_two_pow (d : Nat) : ((2 : Int) ^ d).natAbs = 2 ^ d := by
  rw [Int.natAbs_pow]; rfl

/-- The rounded number is a nearest one of all that have at most 53 digits. -/
theorem rnd_near (x f : Int) (hf : Fl f) : (x - rnd x).natAbs ≤ (x - f).natAbs := by
  -- of numbers that are not below 0
  have key : ∀ x : Int, 0 ≤ x → ∀ f : Int, Fl f → (x - rnd x).natAbs ≤ (x - f).natAbs := by
    intro x hx f hf
    obtain ⟨k, d, h1, h2, h3, h4, h5, h6, h7, _⟩ := rnd_parts x
    by_cases hd : d = 0
    · rw [h3 hd]; simp
    · have h4 := h4 (by omega)
      have hGp : (0 : Int) < 2 ^ d := two_pow_pos d
      have hG2 : (2 ^ (52 + d) : Nat) = 2 ^ 52 * 2 ^ d := Nat.pow_add ..
      have e52 : ((2 ^ 52 * 2 ^ d : Nat) : Int) = 2 ^ 52 * 2 ^ d := by simp
      -- any multiple of 2 ^ d is not nearer
      have mult : ∀ k' : Int, (x - rnd x).natAbs ≤ (x - k' * 2 ^ d).natAbs := by
        intro k'
        have hn : ((2 : Int) ^ d).natAbs = 2 ^ d := natAbs_two_pow d
        rw [h1]
        rw [h1] at h5
        rcases Int.lt_trichotomy k' k with hlt | heq | hgt
        · have : (k - k') * 2 ^ d ≥ 1 * 2 ^ d := Int.mul_le_mul_of_nonneg_right (by omega) (by omega)
          rw [Int.sub_mul] at this
          omega
        · rw [heq]; omega
        · have : (k' - k) * 2 ^ d ≥ 1 * 2 ^ d := Int.mul_le_mul_of_nonneg_right (by omega) (by omega)
          rw [Int.sub_mul] at this
          omega
      obtain ⟨m, e, rfl, hm⟩ := hf
      by_cases hed : d ≤ e
      · obtain ⟨t, rfl⟩ := Nat.exists_eq_add_of_le hed
        have := mult (m * 2 ^ t)
        rw [Int.pow_add, show m * (2 ^ d * 2 ^ t) = m * 2 ^ t * 2 ^ d by rw [Int.mul_assoc, Int.mul_comm (2 ^ d)]]
        exact this
      · -- f is at most 2 ^ (52 + d)
        have h8 := mult (2 ^ 52)
        have hle : m * 2 ^ e ≤ 2 ^ 52 * 2 ^ d := by
          have a1 : m * 2 ^ e ≤ 2 ^ 53 * 2 ^ e := Int.mul_le_mul_of_nonneg_right (by omega) (by have := two_pow_pos e; omega)
          have a2 : (2 : Int) ^ 53 * 2 ^ e ≤ 2 ^ 52 * 2 ^ d := by
            rw [show (2 : Int) ^ 53 = 2 ^ 52 * 2 by rfl, Int.mul_assoc]
            refine Int.mul_le_mul_of_nonneg_left ?_ (by decide)
            rw [show (2 : Int) * 2 ^ e = 2 ^ (e + 1) by rw [Int.pow_succ, Int.mul_comm]]
            exact Int.le_of_dvd (two_pow_pos d) (pow_dvd (by omega))
          omega
        omega
  by_cases hx : 0 ≤ x
  · exact key x hx f hf
  · have := key (-x) (by omega) (-f) (fl_neg hf)
    rw [rnd_neg] at this
    omega

theorem rnd_fl {x : Int} (h : Fl x) : rnd x = x := by
  have := rnd_near x x h
  omega

theorem rnd_mono {x y : Int} (h : x ≤ y) : rnd x ≤ rnd y := by
  by_cases e : x = y
  · rw [e]; exact Int.le_refl _
  · have h1 := rnd_near x (rnd y) (fl_rnd y)
    have h2 := rnd_near y (rnd x) (fl_rnd x)
    omega

theorem log2_mul_pow (n k : Nat) (hn : n ≠ 0) : (n * 2 ^ k).log2 = n.log2 + k := by
  induction k with
  | zero => simp
  | succ k ih => rw [Nat.pow_succ, ← Nat.mul_assoc, Nat.mul_comm _ 2, Nat.log2_two_mul (by have := Nat.two_pow_pos k; exact Nat.mul_ne_zero hn (by omega)), ih]; rfl

/-- A quotient by a power of two does not change where both are taken up. -/
theorem cutE_scale (n d k : Nat) : cutE (n * 2 ^ k) (d + k) = cutE n d := by
  unfold cutE
  have hk : 0 < 2 ^ k := Nat.two_pow_pos k
  rw [Nat.pow_add, Nat.mul_div_mul_right _ _ hk, Nat.mul_mod_mul_right]
  congr 2
  have e1 : (2 ^ d * 2 ^ k < 2 * (n % 2 ^ d * 2 ^ k)) ↔ (2 ^ d < 2 * (n % 2 ^ d)) := by
    rw [← Nat.mul_assoc]; exact Nat.mul_lt_mul_right hk
  have e2 : (2 ^ d * 2 ^ k = 2 * (n % 2 ^ d * 2 ^ k)) ↔ (2 ^ d = 2 * (n % 2 ^ d)) := by
    rw [← Nat.mul_assoc]; exact Nat.mul_left_inj (by omega)
  simp only [e1, e2]

theorem rnd_two (x : Int) : rnd (2 * x) = 2 * rnd x := by
  obtain ⟨k, d, h1, h2, h3, h4, h5, h6, h7, h8, h9⟩ := rnd_parts x
  -- rnd x doubled is Fl and rnd (2 x) is ..: by the digits
  have key : ∀ n : Nat, rndN (2 * n) = 2 * rndN n := by
    intro n
    by_cases hn : n = 0
    · subst hn; simp [rndN, cutE, dropOf]
    · have hl : (2 * n).log2 = n.log2 + 1 := Nat.log2_two_mul hn
      unfold rndN
      by_cases hs : n.log2 < 52
      · have e1 : dropOf (2 * n) = 0 := by unfold dropOf; omega
        have e2 : dropOf n = 0 := by unfold dropOf; omega
        rw [e1, e2]; simp [cutE, Nat.mod_one]
      · have e1 : dropOf (2 * n) = dropOf n + 1 := by unfold dropOf; omega
        rw [e1]
        have := cutE_scale n (dropOf n) 1
        rw [Nat.pow_one, Nat.mul_comm n 2] at this
        rw [this, Nat.pow_succ, ← Nat.mul_assoc, Nat.mul_comm]
  unfold rnd
  have e : (2 * x).natAbs = 2 * x.natAbs := by rw [Int.natAbs_mul]; rfl
  rw [e, key]
  by_cases hs : x < 0
  · rw [if_pos hs, if_pos (by omega)]; omega
  · rw [if_neg hs, if_neg (by omega)]; omega

/-- What is taken away is at most 2 ^ -53 of the whole. -/
theorem rnd_err (x : Int) : (x - rnd x).natAbs * 2 ^ 53 ≤ x.natAbs := by
  obtain ⟨k, d, h1, h2, h3, h4, h5, _⟩ := rnd_parts x
  by_cases hd : d = 0
  · rw [h3 hd]; simp
  · have h4 := h4 (by omega)
    rw [Nat.pow_add] at h4
    omega

/-- Where something is taken away it is less than the last digit of what is left. -/
theorem rnd_gap (x : Int) (_h : x - rnd x ≠ 0) : ∃ k : Nat, (x - rnd x).natAbs < 2 ^ k ∧ (2 : Int) ^ k ∣ rnd x := by
  obtain ⟨k, d, h1, h2, h3, h4, h5, _⟩ := rnd_parts x
  refine ⟨d, ?_, ?_⟩
  · have := Nat.two_pow_pos d; omega
  · rw [h1]; exact Int.dvd_mul_left ..

theorem fl_of_dvd {e : Nat} {x : Int} (h : (2 : Int) ^ e ∣ x) (hb : x.natAbs ≤ 2 ^ 53 * 2 ^ e) : Fl x := by
  obtain ⟨m, rfl⟩ := h
  refine ⟨m, e, Int.mul_comm .., ?_⟩
  rw [Int.natAbs_mul, natAbs_two_pow, Nat.mul_comm] at hb
  exact Nat.le_of_mul_le_mul_right hb (Nat.two_pow_pos e)

theorem fl_dvd {x : Int} (h : Fl x) : ∃ e : Nat, (2 : Int) ^ e ∣ x ∧ x.natAbs ≤ 2 ^ 53 * 2 ^ e := by
  obtain ⟨m, e, rfl, hm⟩ := h
  refine ⟨e, Int.dvd_mul_left .., ?_⟩
  rw [Int.natAbs_mul, natAbs_two_pow]
  exact Nat.mul_le_mul_right _ hm

/-- What the rounding of a sum takes away has at most 53 digits. -/
theorem fl_err {a b : Int} (ha : Fl a) (hb : Fl b) : Fl (a + b - rnd (a + b)) := by
  have na := rnd_near (a + b) a ha
  have nb := rnd_near (a + b) b hb
  obtain ⟨e, de, be⟩ := fl_dvd ha
  obtain ⟨f, df, bf⟩ := fl_dvd hb
  by_cases hef : e ≤ f
  · have df' : (2 : Int) ^ e ∣ b := Int.dvd_trans (pow_dvd hef) df
    have ds : (2 : Int) ^ e ∣ a + b := Int.dvd_add de df'
    exact fl_of_dvd (Int.dvd_sub ds (dvd_rnd ds)) (by omega)
  · have de' : (2 : Int) ^ f ∣ a := Int.dvd_trans (pow_dvd (by omega)) de
    have ds : (2 : Int) ^ f ∣ a + b := Int.dvd_add de' df
    exact fl_of_dvd (Int.dvd_sub ds (dvd_rnd ds)) (by omega)

/-- Of two numbers that lie within a factor of 2 the difference is not rounded. -/
theorem fl_sub {a b : Int} (ha : Fl a) (hb : Fl b) (h1 : b ≤ 2 * a) (h2 : a ≤ 2 * b) : Fl (a - b) := by
  obtain ⟨e, de, be⟩ := fl_dvd ha
  obtain ⟨f, df, bf⟩ := fl_dvd hb
  by_cases hef : e ≤ f
  · exact fl_of_dvd (Int.dvd_sub de (Int.dvd_trans (pow_dvd hef) df)) (by omega)
  · exact fl_of_dvd (Int.dvd_sub (Int.dvd_trans (pow_dvd (by omega)) de) df) (by omega)

theorem fl_two {a : Int} (ha : Fl a) : Fl (2 * a) := by
  obtain ⟨m, e, rfl, hm⟩ := ha
  exact ⟨m, e + 1, by rw [Int.pow_succ, ← Int.mul_assoc m, Int.mul_comm (m * 2 ^ e) 2], hm⟩

theorem fl_zero : Fl 0 := ⟨0, 0, by simp, by simp⟩

/-- What the rounding of a product takes away has at most 53 digits. -/
theorem fl_perr {a b : Int} (ha : Fl a) (hb : Fl b) : Fl (a * b - rnd (a * b)) := by
  obtain ⟨m, e, rfl, hm⟩ := ha
  obtain ⟨n, f, rfl, hn⟩ := hb
  have hp : m * 2 ^ e * (n * 2 ^ f) = m * n * 2 ^ (e + f) := by
    rw [Int.pow_add, Int.mul_assoc, Int.mul_assoc, ← Int.mul_assoc (2 ^ e), Int.mul_comm (2 ^ e) n, Int.mul_assoc n]
  rw [hp]
  have hd : (2 : Int) ^ (e + f) ∣ m * n * 2 ^ (e + f) := Int.dvd_mul_left ..
  refine fl_of_dvd (e := e + f) (Int.dvd_sub hd (dvd_rnd hd)) ?_
  have he := rnd_err (m * n * 2 ^ (e + f))
  have hb : (m * n * 2 ^ (e + f)).natAbs ≤ 2 ^ 53 * 2 ^ 53 * 2 ^ (e + f) := by
    rw [Int.natAbs_mul, Int.natAbs_mul, natAbs_two_pow]
    exact Nat.mul_le_mul_right _ (Nat.mul_le_mul hm hn)
  rw [Nat.mul_assoc, Nat.mul_comm] at hb
  have h3 : (m * n * 2 ^ (e + f) - rnd (m * n * 2 ^ (e + f))).natAbs * 2 ^ 53 ≤ (2 ^ 53 * 2 ^ (e + f)) * 2 ^ 53 := Nat.le_trans he hb
  exact Nat.le_of_mul_le_mul_right h3 (Nat.two_pow_pos 53)

/-- The steps of 'twoSum', as the program takes them. -/
def high (x y : Int) : Int := rnd (x + y)
def fromY (x y : Int) : Int := rnd (high x y - x)
def fromX (x y : Int) : Int := rnd (high x y - fromY x y)
def low (x y : Int) : Int := rnd (rnd (x - fromX x y) + rnd (y - fromY x y))

theorem two_sum_neg (x y : Int) : low (-x) (-y) = -low x y ∧ high (-x) (-y) = -high x y := by
  have e1 : high (-x) (-y) = -high x y := by unfold high; rw [← rnd_neg]; congr 1; omega
  have e2 : fromY (-x) (-y) = -fromY x y := by unfold fromY; rw [e1, ← rnd_neg]; congr 1; omega
  have e3 : fromX (-x) (-y) = -fromX x y := by unfold fromX; rw [e1, e2, ← rnd_neg]; congr 1; omega
  refine ⟨?_, e1⟩
  unfold low
  rw [e2, e3, ← rnd_neg]
  have a1 : -x - -fromX x y = -(x - fromX x y) := by omega
  have a2 : -y - -fromY x y = -(y - fromY x y) := by omega
  rw [a1, a2, rnd_neg, rnd_neg]
  congr 1; omega

/-- Where the second step is not rounded, all is well. -/
theorem two_sum_of {a b : Int} (ha : Fl a) (hb : Fl b) (h : Fl (high a b - a)) : low a b = a + b - high a b := by
  have hy : fromY a b = high a b - a := rnd_fl h
  have hx : fromX a b = a := by unfold fromX; rw [hy, show high a b - (high a b - a) = a by omega]; exact rnd_fl ha
  unfold low
  rw [hx, hy, show a - a = 0 by omega, rnd_fl fl_zero, show b - (high a b - a) = a + b - high a b by omega]
  have he : Fl (a + b - high a b) := fl_err ha hb
  rw [rnd_fl he, Int.zero_add, rnd_fl he]

theorem two_sum_of2 {a b : Int} (ha : Fl a) (hb : Fl b) (h1 : Fl (high a b - fromY a b)) (h2 : Fl (b - fromY a b)) : low a b = a + b - high a b := by
  have hx : fromX a b = high a b - fromY a b := rnd_fl h1
  have he : Fl (a + b - high a b) := fl_err ha hb
  have h3 : Fl (a - fromX a b) := by
    rw [hx]
    have h4 := fl_err (a := high a b) (b := -a) (fl_rnd _) (fl_neg ha)
    have h5 : high a b + -a - rnd (high a b + -a) = -(a - (high a b - fromY a b)) := by
      unfold fromY; rw [show high a b + -a = high a b - a by omega]; omega
    rw [h5] at h4
    have := fl_neg h4
    simpa using this
  unfold low
  rw [rnd_fl h3, rnd_fl h2, hx, show a - (high a b - fromY a b) + (b - fromY a b) = a + b - high a b by omega]
  exact rnd_fl he

theorem two_sum_big {a b : Int} (ha : Fl a) (hb : Fl b) (h0 : 0 ≤ a) (hba : b.natAbs ≤ a.natAbs) : low a b = a + b - high a b := by
  apply two_sum_of ha hb
  by_cases hb0 : 0 ≤ b
  · have h1 : rnd a ≤ rnd (a + b) := rnd_mono (by omega)
    have h2 : rnd (a + b) ≤ rnd (2 * a) := rnd_mono (by omega)
    rw [rnd_fl ha] at h1
    rw [rnd_fl (fl_two ha)] at h2
    exact fl_sub (fl_rnd _) ha (by unfold high; omega) (by unfold high; omega)
  · by_cases hh : a ≤ 2 * (-b)
    · have hs := fl_sub ha (fl_neg hb) (by omega) hh
      rw [show a - -b = a + b by omega] at hs
      unfold high
      rw [rnd_fl hs, show a + b - a = b by omega]
      exact hb
    · have h1 : rnd (a + b) ≤ rnd a := rnd_mono (by omega)
      have h2 : rnd a ≤ rnd (2 * (a + b)) := rnd_mono (by omega)
      rw [rnd_two] at h2
      rw [rnd_fl ha] at h1 h2
      exact fl_sub (fl_rnd _) ha (by unfold high; omega) (by unfold high; omega)

theorem two_sum_small {a b : Int} (ha : Fl a) (hb : Fl b) (h0 : 0 ≤ b) (hab : a.natAbs ≤ b.natAbs) : low a b = a + b - high a b := by
  by_cases ha0 : 0 ≤ a
  · have h1 : rnd b ≤ rnd (a + b) := rnd_mono (by omega)
    have h2 : rnd (a + b) ≤ rnd (2 * b) := rnd_mono (by omega)
    have h3 : rnd (2 * a) ≤ rnd (a + b) := rnd_mono (by omega)
    rw [rnd_fl hb] at h1
    rw [rnd_fl (fl_two hb)] at h2
    rw [rnd_fl (fl_two ha)] at h3
    have h4 : rnd (rnd (a + b) - a) ≤ rnd (rnd (a + b)) := rnd_mono (by omega)
    have h5 : rnd (rnd (a + b)) ≤ rnd (2 * (rnd (a + b) - a)) := rnd_mono (by omega)
    rw [rnd_two] at h5
    rw [rnd_fl (fl_rnd _)] at h4 h5
    refine two_sum_of2 ha hb (fl_sub (fl_rnd _) (fl_rnd _) ?_ ?_) (fl_sub hb (fl_rnd _) ?_ ?_) <;> simp only [fromY, high] <;> omega
  · by_cases hh : b ≤ 2 * (-a)
    · have hs := fl_sub hb (fl_neg ha) (by omega) hh
      apply two_sum_of ha hb
      rw [show b - -a = a + b by omega] at hs
      unfold high
      rw [rnd_fl hs, show a + b - a = b by omega]
      exact hb
    · have h1 : rnd (a + b) ≤ rnd b := rnd_mono (by omega)
      have h2 : rnd b ≤ rnd (2 * (a + b)) := rnd_mono (by omega)
      rw [rnd_two] at h2
      rw [rnd_fl hb] at h1 h2
      have h4 : rnd (rnd (a + b)) ≤ rnd (rnd (a + b) - a) := rnd_mono (by omega)
      have h5 : rnd (rnd (a + b) - a) ≤ rnd (2 * rnd (a + b)) := rnd_mono (by omega)
      rw [rnd_two] at h5
      rw [rnd_fl (fl_rnd _)] at h4 h5
      refine two_sum_of2 ha hb (fl_sub (fl_rnd _) (fl_rnd _) ?_ ?_) (fl_sub hb (fl_rnd _) ?_ ?_) <;> simp only [fromY, high] <;> omega

/-- 'twoSum': the rounded sum and what the rounding took away, whichever is greater. -/
theorem two_sum {a b : Int} (ha : Fl a) (hb : Fl b) : low a b = a + b - high a b := by
  by_cases hab : b.natAbs ≤ a.natAbs
  · by_cases h0 : 0 ≤ a
    · exact two_sum_big ha hb h0 hab
    · have := two_sum_big (fl_neg ha) (fl_neg hb) (by omega) (by omega)
      have h2 := two_sum_neg a b
      rw [h2.1, h2.2] at this
      omega
  · by_cases h0 : 0 ≤ b
    · exact two_sum_small ha hb h0 (by omega)
    · have := two_sum_small (fl_neg ha) (fl_neg hb) (by omega) (by omega)
      have h2 := two_sum_neg a b
      rw [h2.1, h2.2] at this
      omega

end PlRd
