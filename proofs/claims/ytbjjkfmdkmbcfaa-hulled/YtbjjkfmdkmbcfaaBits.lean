import Derived.Test.YtbjjkfmdkmbcfaaExpand
/-! What the bits of a float64 stand for, in units of 2 ^ -1074; the operations on bits. -/
namespace PlRd
open Ieee

theorem cut_even (neg : Bool) (n drop : Nat) : Toward.even.cut neg n drop = cutE n drop := by
  unfold Toward.cut cutE
  by_cases hd : drop ≤ n.log2 + 2
  · rw [Nat.min_eq_left hd]
    simp only [Nat.one_shiftLeft]
    congr 2
  · rw [Nat.min_eq_right (by omega)]
    have hn : n < 2 ^ (n.log2 + 1) := Nat.lt_log2_self
    have h1 : 2 ^ (n.log2 + 2) = 2 * 2 ^ (n.log2 + 1) := by rw [Nat.pow_succ, Nat.mul_comm]
    have h2 : 2 ^ (n.log2 + 2) ≤ 2 ^ drop := Nat.pow_le_pow_right (by decide) (by omega)
    simp only [Nat.one_shiftLeft]
    rw [Nat.div_eq_of_lt (show n < 2 ^ (n.log2 + 2) by omega), Nat.mod_eq_of_lt (show n < 2 ^ (n.log2 + 2) by omega), Nat.div_eq_of_lt (show n < 2 ^ drop by omega), Nat.mod_eq_of_lt (show n < 2 ^ drop by omega)]
    have c1 : ¬ (2 ^ (n.log2 + 2) < 2 * n) := by omega
    have c2 : ¬ (2 ^ drop < 2 * n) := by omega
    simp [c1, c2]

theorem cast_two_pow (m d : Nat) : ((m * 2 ^ d : Nat) : Int) = (m : Int) * 2 ^ d := by
  rw [Int.natCast_mul, Int.natCast_pow]; rfl

/-- How far the numbers reach: far below infinity. -/
def LIME : Nat := 2096
def LIM : Nat := 2 ^ LIME

/-- 'n * 2 ^ p' is z units. -/
def Sc (n p z : Int) : Prop := n * 2 ^ (p + 1074).toNat = z * 2 ^ (-(p + 1074)).toNat

/-- The bits b stand for x units. -/
def Is (b : Nat) (x : Int) : Prop := ∃ (s : Bool) (m : Nat) (p : Int), double.read b = .number s m p ∧ -1074 ≤ p ∧ p ≤ 971 ∧ m < 2 ^ 53 ∧ signed s m (p + 1074).toNat = x

theorem signed_eq (s : Bool) (m u : Nat) : signed s m u = (if s then -(m : Int) else (m : Int)) * 2 ^ u := by
  unfold signed
  rw [Nat.shiftLeft_eq]
  split <;> simp [Int.neg_mul]

theorem Is.sc {b : Nat} {x : Int} (h : Is b x) : ∃ (s : Bool) (m : Nat) (p : Int), double.read b = .number s m p ∧ Sc (signed s m 0) p x ∧ m < 2 ^ 53 ∧ p ≤ 971 := by
  obtain ⟨s, m, p, h1, h2, h2', h3, h4⟩ := h
  refine ⟨s, m, p, h1, ?_, h3, h2'⟩
  unfold Sc
  rw [← h4, signed_eq, signed_eq, show (-(p + 1074)).toNat = 0 by omega]
  simp

theorem Is.fl {b : Nat} {x : Int} (h : Is b x) : Fl x := by
  obtain ⟨s, m, p, h1, h2, h2', h3, h4⟩ := h
  rw [signed_eq] at h4
  refine ⟨_, _, h4.symm, ?_⟩
  split <;> simp <;> omega

theorem Sc.down {n i x base : Int} (h : Sc n i x) (hb : base ≤ i) : n * 2 ^ (i - base).toNat * 2 ^ (base + 1074).toNat = x * 2 ^ (-(base + 1074)).toNat := by
  unfold Sc at h
  by_cases h0 : 0 ≤ base + 1074
  · rw [show (-(base + 1074)).toNat = 0 by omega, Int.mul_assoc, ← Int.pow_add, show (i - base).toNat + (base + 1074).toNat = (i + 1074).toNat by omega, h, show (-(i + 1074)).toNat = 0 by omega]
  · rw [show (base + 1074).toNat = 0 by omega]
    by_cases h1 : 0 ≤ i + 1074
    · rw [show (-(i + 1074)).toNat = 0 by omega] at h
      simp at h
      rw [← h, show (i - base).toNat = (i + 1074).toNat + (-(base + 1074)).toNat by omega, Int.pow_add]
      simp [Int.mul_assoc]
    · rw [show (i + 1074).toNat = 0 by omega] at h
      simp at h
      rw [h]
      simp only [Int.pow_zero, Int.mul_one]
      rw [Int.mul_assoc, ← Int.pow_add, show (-(i + 1074)).toNat + (i - base).toNat = (-(base + 1074)).toNat by omega]

theorem Sc.add {n m i j x y : Int} (h : Sc n i x) (k : Sc m j y) : Sc (n * 2 ^ (i - min i j).toNat + m * 2 ^ (j - min i j).toNat) (min i j) (x + y) := by
  have h1 := h.down (base := min i j) (by omega)
  have h2 := k.down (base := min i j) (by omega)
  unfold Sc
  rw [Int.add_mul, h1, h2, Int.add_mul]

theorem signed_natAbs (x : Int) (u : Nat) : signed (decide (x < 0)) x.natAbs u = x * 2 ^ u := by
  rw [signed_eq]
  congr 1
  by_cases h : x < 0
  · simp [h]; omega
  · simp [h]; omega

/-- The rungs as they are read. -/
theorem read_word (neg : Bool) (r : Nat) (hr : r < 2047 * 2 ^ 52) :
    double.read (double.word neg r) = if r < 2 ^ 52 then .number neg r (-1074) else .number neg (2 ^ 52 + r % 2 ^ 52) (-1074 + (r / 2 ^ 52 - 1 : Nat)) := by
  have hsw : double.signWeight = 2 ^ 63 := by decide
  have hb : double.binade = 2 ^ 52 := by decide
  have hi : double.infRung = 2047 * 2 ^ 52 := by decide
  have hlp : double.leastPlace = -1074 := by decide
  unfold Format.read Format.word
  rw [hsw, hb, hi, hlp]
  have e1 : (if neg = true then 2 ^ 63 + r else r) % 2 ^ 63 = r := by
    cases neg <;> simp <;> omega
  have e2 : ((if neg = true then 2 ^ 63 + r else r) / 2 ^ 63 % 2 == 1) = neg := by
    cases neg
    · simp; omega
    · have : (2 ^ 63 + r) / 2 ^ 63 = 1 := by omega
      simp [this]
  simp only [e1, e2]
  split
  · rfl
  · first | rfl | rw [if_pos hr]

/-- What is written nearest to z units stands for z rounded. -/
theorem is_nearest (neg : Bool) (mag : Nat) (place : Int) (Z : Nat) (h : Sc mag place Z) (hZ : Z < LIM) :
    Is (double.nearest neg mag place) (if neg then -(rndN Z : Int) else rndN Z) := by
  have hb : double.binade = 2 ^ 52 := by decide
  have hi : double.infRung = 2047 * 2 ^ 52 := by decide
  have hlp : double.leastPlace = -1074 := by decide
  have hfb : double.fractionBits = 52 := by decide
  have hN : mag * 2 ^ (place + 1074).toNat = Z * 2 ^ (-(place + 1074)).toNat := by
    unfold Sc at h
    have h' : ((mag * 2 ^ (place + 1074).toNat : Nat) : Int) = ((Z * 2 ^ (-(place + 1074)).toNat : Nat) : Int) := by
      simp only [Int.natCast_mul, Int.natCast_pow]; exact h
    exact Int.ofNat_inj.1 h'
  have hp1 := Nat.two_pow_pos (place + 1074).toNat
  have hp2 := Nat.two_pow_pos (-(place + 1074)).toNat
  unfold Format.nearest
  by_cases hm : mag = 0
  · rw [if_pos hm]
    subst hm
    rw [Nat.zero_mul] at hN
    have hz : Z = 0 := by
      rcases Nat.mul_eq_zero.1 hN.symm with h | h
      · exact h
      · omega
    subst hz
    have := read_word neg 0 (by decide)
    refine ⟨neg, 0, -1074, by simpa using this, by omega, by omega, by decide, ?_⟩
    cases neg <;> simp [signed_eq, rndN, cutE]
  · rw [if_neg hm]
    simp only [hb, hi, hlp, hfb]
    have hZ0 : Z ≠ 0 := by
      intro h0
      rw [h0, Nat.zero_mul] at hN
      rcases Nat.mul_eq_zero.1 hN with h | h <;> omega
    have hlog : (Z.log2 : Int) = mag.log2 + (place + 1074) := by
      by_cases hp : 0 ≤ place + 1074
      · rw [show (-(place + 1074)).toNat = 0 by omega] at hN
        simp at hN
        rw [← hN, log2_mul_pow _ _ hm]
        omega
      · rw [show (place + 1074).toNat = 0 by omega] at hN
        simp at hN
        rw [hN, log2_mul_pow _ _ hZ0]
        omega
    have hlast : max (place + (mag.log2 : Int) - ((52 : Nat) : Int)) (-1074) = (dropOf Z : Int) - 1074 := by
      unfold dropOf; omega
    rw [hlast, cut_even]
    have hkept : cutE (mag <<< (place - ((dropOf Z : Int) - 1074)).toNat) ((dropOf Z : Int) - 1074 - place).toNat = cutE Z (dropOf Z) := by
      rw [Nat.shiftLeft_eq]
      by_cases hp : 0 ≤ place + 1074
      · rw [show (-(place + 1074)).toNat = 0 by omega] at hN
        simp at hN
        by_cases hq : dropOf Z ≤ (place + 1074).toNat
        · rw [show ((dropOf Z : Int) - 1074 - place).toNat = 0 by omega]
          have := cutE_scale (mag * 2 ^ (place - ((dropOf Z : Int) - 1074)).toNat) 0 (dropOf Z)
          rw [Nat.mul_assoc, ← Nat.pow_add, show (place - ((dropOf Z : Int) - 1074)).toNat + dropOf Z = (place + 1074).toNat by omega, hN, Nat.zero_add] at this
          exact this.symm
        · rw [show (place - ((dropOf Z : Int) - 1074)).toNat = 0 by omega]
          have := cutE_scale mag ((dropOf Z : Int) - 1074 - place).toNat (place + 1074).toNat
          rw [hN, show ((dropOf Z : Int) - 1074 - place).toNat + (place + 1074).toNat = dropOf Z by omega] at this
          simp [this]
      · rw [show (place + 1074).toNat = 0 by omega] at hN
        simp at hN
        rw [show (place - ((dropOf Z : Int) - 1074)).toNat = 0 by omega, hN]
        have := cutE_scale Z (dropOf Z) (-(place + 1074)).toNat
        rw [show ((dropOf Z : Int) - 1074 - place).toNat = dropOf Z + (-(place + 1074)).toNat by omega]
        simp [this]
    rw [hkept, show ((dropOf Z : Int) - 1074 - -1074).toNat = dropOf Z by omega]
    obtain ⟨k, h1, h2, h3, h4, _⟩ := rndN_parts Z hZ0
    have hk : cutE Z (dropOf Z) = k := Nat.eq_of_mul_eq_mul_right (Nat.two_pow_pos (dropOf Z)) h1
    rw [hk]
    have hd : dropOf Z ≤ 2043 := by
      have : Z.log2 < LIME := (Nat.log2_lt hZ0).2 (by unfold LIM at hZ; exact hZ)
      unfold LIME at this
      unfold dropOf; omega
    have hlt : dropOf Z * 2 ^ 52 + k < 2047 * 2 ^ 52 := by omega
    rw [Nat.min_eq_left (by omega)]
    have hread := read_word neg _ hlt
    by_cases hd0 : dropOf Z = 0
    · rw [hd0] at hread ⊢
      simp only [Nat.zero_mul, Nat.zero_add] at hread ⊢
      have hr : rndN Z = k := by rw [h1, hd0]; simp
      rw [hr]
      by_cases hs : k < 2 ^ 52
      · rw [if_pos hs] at hread
        exact ⟨neg, k, -1074, hread, by omega, by omega, by omega, by rw [signed_eq]; cases neg <;> simp⟩
      · rw [if_neg hs] at hread
        by_cases hs2 : k < 2 ^ 53
        · rw [show k / 2 ^ 52 = 1 by omega, show 2 ^ 52 + k % 2 ^ 52 = k by omega] at hread
          exact ⟨neg, k, -1074, by simpa using hread, by omega, by omega, by omega, by rw [signed_eq]; cases neg <;> simp⟩
        · have hk53 : k = 2 ^ 53 := by omega
          rw [hk53] at hread ⊢
          refine ⟨neg, 2 ^ 52, -1073, by simpa using hread, by omega, by omega, by decide, ?_⟩
          rw [signed_eq]; cases neg <;> simp
    · obtain ⟨h5, _⟩ := h4 (by omega)
      have hns : ¬ dropOf Z * 2 ^ 52 + k < 2 ^ 52 := by omega
      rw [if_neg hns] at hread
      by_cases hs2 : k < 2 ^ 53
      · rw [show (dropOf Z * 2 ^ 52 + k) / 2 ^ 52 = dropOf Z + 1 by omega, show 2 ^ 52 + (dropOf Z * 2 ^ 52 + k) % 2 ^ 52 = k by omega] at hread
        refine ⟨neg, k, _, hread, by omega, by omega, by omega, ?_⟩
        rw [signed_eq, h1, show (-1074 + ((dropOf Z + 1 - 1 : Nat) : Int) + 1074).toNat = dropOf Z by omega]
        cases neg <;> simp [Int.neg_mul]
      · have hk53 : k = 2 ^ 53 := by omega
        rw [show (dropOf Z * 2 ^ 52 + k) / 2 ^ 52 = dropOf Z + 2 by omega, show 2 ^ 52 + (dropOf Z * 2 ^ 52 + k) % 2 ^ 52 = 2 ^ 52 by omega] at hread
        refine ⟨neg, 2 ^ 52, _, hread, by omega, by omega, by decide, ?_⟩
        rw [signed_eq, h1, hk53, show (-1074 + ((dropOf Z + 2 - 1 : Nat) : Int) + 1074).toNat = dropOf Z + 1 by omega]
        have : ((2 ^ 53 * 2 ^ dropOf Z : Nat) : Int) = (2 ^ 52 : Int) * 2 ^ (dropOf Z + 1) := by
          rw [show (2 : Int) ^ (dropOf Z + 1) = 2 ^ dropOf Z * 2 from Int.pow_succ ..]; rw [cast_two_pow]; generalize ((2 : Int) ^ dropOf Z) = G; omega
        cases neg
        · simp only [Bool.false_eq_true, if_false]; rw [this]; rfl
        · simp only [if_true]; rw [this, Int.neg_mul]; rfl

theorem rnd_natAbs (z : Int) : rnd z = if z < 0 then -(rndN z.natAbs : Int) else rndN z.natAbs := rfl

theorem Sc.natAbs {n p z : Int} (h : Sc n p z) : Sc n.natAbs p z.natAbs := by
  unfold Sc at h ⊢
  have h1 := congrArg Int.natAbs h
  rw [Int.natAbs_mul, Int.natAbs_mul, natAbs_two_pow, natAbs_two_pow] at h1
  have h2 : ((n.natAbs * 2 ^ (p + 1074).toNat : Nat) : Int) = ((z.natAbs * 2 ^ (-(p + 1074)).toNat : Nat) : Int) := by rw [h1]
  rw [cast_two_pow, cast_two_pow] at h2
  exact h2

theorem Sc.neg_iff {n p z : Int} (h : Sc n p z) : (n < 0 ↔ z < 0) ∧ (n = 0 ↔ z = 0) := by
  unfold Sc at h
  have p1 := two_pow_pos (p + 1074).toNat
  have p2 := two_pow_pos (-(p + 1074)).toNat
  generalize (2 : Int) ^ (p + 1074).toNat = A at *
  generalize (2 : Int) ^ (-(p + 1074)).toNat = B at *
  constructor
  · constructor
    · intro hn
      have h1 : n * A < 0 := Int.mul_neg_of_neg_of_pos hn p1
      rw [h] at h1
      rcases Int.lt_or_le z 0 with hz | hz
      · exact hz
      · have := Int.mul_nonneg hz (Int.le_of_lt p2); omega
    · intro hz
      have h1 : z * B < 0 := Int.mul_neg_of_neg_of_pos hz p2
      rw [← h] at h1
      rcases Int.lt_or_le n 0 with hn | hn
      · exact hn
      · have := Int.mul_nonneg hn (Int.le_of_lt p1); omega
  · constructor
    · intro hn
      subst hn
      rw [Int.zero_mul] at h
      rcases Int.mul_eq_zero.1 h.symm with h | h <;> omega
    · intro hz
      subst hz
      rw [Int.zero_mul] at h
      rcases Int.mul_eq_zero.1 h with h | h <;> omega

theorem rndN_zero : rndN 0 = 0 := by simp [rndN, cutE]

theorem is_write (neg : Bool) (total base z : Int) (h : Sc total base z) (hn : total ≠ 0 → neg = decide (total < 0)) (hb : z.natAbs < LIM) : Is (double.nearest neg total.natAbs base) (rnd z) := by
  have h1 := is_nearest neg total.natAbs base z.natAbs h.natAbs hb
  have h2 := h.neg_iff
  by_cases h0 : total = 0
  · have hz : z = 0 := h2.2.1 h0
    subst hz
    simp only [Int.natAbs_zero, rndN_zero] at h1
    rw [rnd_natAbs]
    simp only [Int.natAbs_zero, rndN_zero]
    have e : (if neg = true then -((0 : Nat) : Int) else ((0 : Nat) : Int)) = 0 := by split <;> rfl
    rw [e] at h1
    simpa using h1
  · rw [hn h0] at h1 ⊢
    rw [rnd_natAbs]
    by_cases hs : total < 0
    · have hz := h2.1.1 hs
      simp only [hs, decide_true, if_true] at h1
      rw [if_pos hz]; simpa [hs] using h1
    · have hz : ¬ z < 0 := fun h => hs (h2.1.2 h)
      simp only [hs, decide_false] at h1
      rw [if_neg hz]; simpa [hs] using h1

theorem signed_up (s : Bool) (m u : Nat) : signed s m u = signed s m 0 * 2 ^ u := by
  rw [signed_eq, signed_eq]; simp

theorem is_add {a b : Nat} {x y : Int} (ha : Is a x) (hb : Is b y) (hz : (x + y).natAbs < LIM) : ∃ r, double.add a b = some r ∧ Is r (rnd (x + y)) := by
  obtain ⟨s, m, i, r1, s1, _⟩ := ha.sc
  obtain ⟨t, n, j, r2, s2, _⟩ := hb.sc
  have hs := s1.add s2
  rw [← signed_up, ← signed_up] at hs
  unfold Format.add
  rw [r1, r2]
  refine ⟨_, rfl, ?_⟩
  refine is_write _ _ _ _ hs (fun h0 => ?_) hz
  rw [if_neg h0]

theorem signed_not (s : Bool) (m u : Nat) : signed (!s) m u = -signed s m u := by
  unfold signed; cases s <;> simp

theorem is_sub {a b : Nat} {x y : Int} (ha : Is a x) (hb : Is b y) (hz : (x - y).natAbs < LIM) : ∃ r, double.sub a b = some r ∧ Is r (rnd (x - y)) := by
  obtain ⟨s, m, i, r1, s1, _⟩ := ha.sc
  obtain ⟨t, n, j, r2, s2, _⟩ := hb.sc
  have s2' : Sc (signed (!t) n 0) j (-y) := by
    rw [signed_not]; unfold Sc at s2 ⊢; rw [Int.neg_mul, s2, Int.neg_mul]
  have hs := s1.add s2'
  rw [← signed_up, ← signed_up, ← Int.sub_eq_add_neg] at hs
  unfold Format.sub
  rw [r1, r2]
  refine ⟨_, rfl, ?_⟩
  refine is_write _ _ _ _ hs (fun h0 => ?_) hz
  rw [if_neg h0]

theorem signed_mul (s t : Bool) (m n : Nat) : signed (s ^^ t) (m * n) 0 = signed s m 0 * signed t n 0 := by
  unfold signed
  cases s <;> cases t <;> simp [Nat.shiftLeft_zero, Int.neg_mul, Int.mul_neg]

theorem natAbs_signed (s : Bool) (m : Nat) : (signed s m 0).natAbs = m := by
  unfold signed; cases s <;> simp

/-- A product's parts. -/
theorem sc_mul {a b : Nat} {x y z : Int} (ha : Is a x) (hb : Is b y) (hz : x * y = z * 2 ^ 1074) :
    ∃ (s t : Bool) (m n : Nat) (i j : Int), double.read a = .number s m i ∧ double.read b = .number t n j ∧ Sc (signed (s ^^ t) (m * n) 0) (i + j) z := by
  obtain ⟨s, m, i, r1, i1, _, _, e1⟩ := ha
  obtain ⟨t, n, j, r2, j1, _, _, e2⟩ := hb
  refine ⟨s, t, m, n, i, j, r1, r2, ?_⟩
  rw [signed_mul]
  rw [signed_up] at e1 e2
  generalize signed s m 0 = M at *
  generalize signed t n 0 = N at *
  rw [← e1, ← e2] at hz
  have h1 : M * N * 2 ^ ((i + 1074).toNat + (j + 1074).toNat) = z * 2 ^ 1074 := by
    rw [Int.pow_add, ← hz]
    rw [Int.mul_assoc, Int.mul_assoc, ← Int.mul_assoc N, Int.mul_comm N, Int.mul_assoc _ N]
  unfold Sc
  by_cases hA : 0 ≤ i + j + 1074
  · rw [show (-(i + j + 1074)).toNat = 0 by omega, Int.pow_zero, Int.mul_one]
    rw [show (i + 1074).toNat + (j + 1074).toNat = (i + j + 1074).toNat + 1074 by omega, Int.pow_add, ← Int.mul_assoc] at h1
    exact Int.eq_of_mul_eq_mul_right (by have := two_pow_pos 1074; omega) h1
  · rw [show (i + j + 1074).toNat = 0 by omega, Int.pow_zero, Int.mul_one]
    rw [show (1074 : Nat) = (-(i + j + 1074)).toNat + ((i + 1074).toNat + (j + 1074).toNat) by omega, Int.pow_add _ (-(i + j + 1074)).toNat, ← Int.mul_assoc] at h1
    exact Int.eq_of_mul_eq_mul_right (by have := two_pow_pos ((i + 1074).toNat + (j + 1074).toNat); omega) h1

theorem is_mul {a b : Nat} {x y z : Int} (ha : Is a x) (hb : Is b y) (hz : x * y = z * 2 ^ 1074) (hB : z.natAbs < LIM) : ∃ r, double.mul a b = some r ∧ Is r (rnd z) := by
  obtain ⟨s, t, m, n, i, j, r1, r2, hs⟩ := sc_mul ha hb hz
  unfold Format.mul
  rw [r1, r2]
  refine ⟨_, rfl, ?_⟩
  have h := is_write (s ^^ t) _ _ _ hs (fun h0 => ?_) hB
  · rw [natAbs_signed] at h; exact h
  · have hp : 0 < m * n := by
      rcases Nat.eq_zero_or_pos (m * n) with h | h
      · rw [h] at h0; exact absurd (by unfold signed; split <;> simp) h0
      · exact h
    unfold signed
    generalize m * n = q at *
    cases (s ^^ t) <;> simp <;> omega

theorem is_fma {a b c : Nat} {x y z u : Int} (ha : Is a x) (hb : Is b y) (hc : Is c u) (hz : x * y = z * 2 ^ 1074) (hB : (z + u).natAbs < LIM) : ∃ r, double.fma a b c = some r ∧ Is r (rnd (z + u)) := by
  obtain ⟨s, t, m, n, i, j, r1, r2, s1⟩ := sc_mul ha hb hz
  obtain ⟨v, l, k, r3, s2, _⟩ := hc.sc
  have hs := s1.add s2
  rw [← signed_up, ← signed_up] at hs
  unfold Format.fma
  rw [r1, r2, r3]
  refine ⟨_, rfl, ?_⟩
  refine is_write _ _ _ _ hs (fun h0 => ?_) hB
  rw [if_neg h0]

theorem compare_mul (a b c : Int) (hc : 0 < c) : compare (a * c) (b * c) = compare a b := by
  have h1 : a * c < b * c ↔ a < b := Int.mul_lt_mul_right hc
  have h2 : a * c = b * c ↔ a = b := ⟨fun h => Int.eq_of_mul_eq_mul_right (by omega) h, fun h => by rw [h]⟩
  simp only [compare, compareOfLessAndEq, h1, h2]

theorem is_order {a b : Nat} {x y : Int} (ha : Is a x) (hb : Is b y) : double.order a b = some (compare x y) := by
  obtain ⟨s, m, i, r1, i1, _, _, e1⟩ := ha
  obtain ⟨t, n, j, r2, j1, _, _, e2⟩ := hb
  unfold Format.order
  rw [r1, r2]
  show some (compare (signed s m (i - min i j).toNat) (signed t n (j - min i j).toNat)) = _
  congr 1
  rw [← compare_mul _ _ (2 ^ (min i j + 1074).toNat) (two_pow_pos _)]
  rw [signed_up] at e1 e2
  rw [signed_up s, signed_up t, Int.mul_assoc, Int.mul_assoc, ← Int.pow_add, ← Int.pow_add, show (i - min i j).toNat + (min i j + 1074).toNat = (i + 1074).toNat by omega, show (j - min i j).toNat + (min i j + 1074).toNat = (j + 1074).toNat by omega, e1, e2]

theorem is_zero : Is 0 0 := ⟨false, 0, -1074, by decide, by omega, by omega, by decide, by decide⟩

/-- The sign bit turned. -/
theorem is_neg {b : Nat} {x : Int} (h : Is b x) : Is (b ^^^ 2 ^ 63) (-x) := by
  obtain ⟨s, m, p, r, p1, p2, m1, e⟩ := h
  refine ⟨!s, m, p, ?_, p1, p2, m1, by rw [signed_not, e]⟩
  have hsw : double.signWeight = 2 ^ 63 := by decide
  unfold Format.read at r ⊢
  rw [hsw] at r ⊢
  have e1 : (b ^^^ 2 ^ 63) % 2 ^ 63 = b % 2 ^ 63 := by rw [Nat.xor_mod_two_pow]; simp
  have e2 : ((b ^^^ 2 ^ 63) / 2 ^ 63 % 2 == 1) = !(b / 2 ^ 63 % 2 == 1) := by
    rw [Nat.xor_div_two_pow]
    have : (b / 2 ^ 63 ^^^ 2 ^ 63 / 2 ^ 63) % 2 = (b / 2 ^ 63 % 2) ^^^ 1 := by
      have := Nat.xor_mod_two_pow (a := b / 2 ^ 63) (b := 2 ^ 63 / 2 ^ 63) (n := 1)
      simpa using this
    rw [this]
    rcases Nat.mod_two_eq_zero_or_one (b / 2 ^ 63) with h | h <;> rw [h] <;> decide
  simp only [e1, e2] at r ⊢
  generalize b % 2 ^ 63 = R at *
  generalize (b / 2 ^ 63 % 2 == 1) = S at *
  split at r
  · rename_i h; rw [if_pos h]; simp only [Datum.number.injEq] at r ⊢; exact ⟨by rw [r.1], r.2⟩
  · rename_i h
    rw [if_neg h]
    split at r
    · rename_i h'; rw [if_pos h']; simp only [Datum.number.injEq] at r ⊢; exact ⟨by rw [r.1], r.2⟩
    · split at r <;> cases r

end PlRd
