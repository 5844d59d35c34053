import Derived.Test.YtbjjkfmdkmbcfaaGreatMUv
namespace Go.Proofs.YtbjjkfmdkmbcfaaGreat
open Go.RowKit
open PlRd
open Ieee (double signed)

/-- May this coordinate be? -/
def mayB (b : Nat) : Bool :=
  match double.read b with
  | .number s m p => decide ((signed s m (p + 1074).toNat).natAbs < 2 ^ 1174) && decide ((2 : Int) ^ 974 ∣ signed s m (p + 1074).toNat)
  | _ => false

theorem frombits_run (n : Int) (w : World) : (callFunc 53 #[.int .u64 n]).run Tryz.prog w = .ok (.value (.float .f64 n.toNat)) w := by
  rw [run_callFunc_extern Tryz.func53 (by kernel_rfl) (by kernel_rfl) (by kernel_rfl) (e := Extern.MathFloatBits.float64frombits) (by kernel_rfl)]
  rfl

theorem bits_run (b : Nat) (w : World) : (callFunc 85 #[.float .f64 b]).run Tryz.prog w = .ok (.value (.int .u64 b)) w := by
  rw [run_callFunc_extern Tryz.func85 (by kernel_rfl) (by kernel_rfl) (by kernel_rfl) (e := Extern.MathFloatBits.float64bits) (by kernel_rfl)]
  rfl

theorem trunc_run (b r : Nat) (w : World) (s : Bool) (m : Nat) (p : Int) (h : double.read b = .number s m p) (hr : r = double.write ((Ieee.Datum.number s m p).integral .zero)) : (callFunc 86 #[.float .f64 b]).run Tryz.prog w = .ok (.value (.float .f64 r)) w := by
  rw [run_callFunc_extern Tryz.func86 (by kernel_rfl) (by kernel_rfl) (by kernel_rfl) (e := Extern.MathFloor.toIntegral "math.archTrunc" .zero) (by kernel_rfl)]
  have h' : FloatKind.f64.decode b = .number s m p := h
  change (Sem.run Tryz.prog (match FloatKind.f64.decode b with | .nan s t => _ | d => pure (Value.float .f64 (FloatKind.f64.encode (d.integral .zero)))) w).andThen _ = _
  rw [h', hr]
  rfl

theorem ret_float {a b : Nat} (h : a = b) : Ending.returned (.float .f64 a) = .returned (.float .f64 b) := by rw [h]

theorem and_low (b : Nat) : b &&& (2 ^ 63 - 1) = b % 2 ^ 63 := Nat.and_two_pow_sub_one_eq_mod b 63

theorem andNot_sign (b : Nat) (hb : b < 2 ^ 64) : (bits BinOp.andNot IntKind.u64 (b : Int) 9223372036854775808).toNat = b % 2 ^ 63 := by
  have h1 : (~~~BitVec.ofInt 64 9223372036854775808).toNat = 2 ^ 63 - 1 := by decide
  have h2 : (BitVec.ofInt 64 (b : Int)).toNat = b := by
    rw [BitVec.toNat_ofInt]; omega
  have hx : (BitVec.ofInt 64 (b : Int) &&& ~~~BitVec.ofInt 64 9223372036854775808).toNat = b % 2 ^ 63 := by
    rw [BitVec.toNat_and, h1, h2, and_low]
  show (IntKind.u64.wrap (((BitVec.ofInt 64 (b : Int) &&& ~~~BitVec.ofInt 64 9223372036854775808).toNat : Nat) : Int)).toNat = _
  rw [hx]
  simp [IntKind.wrap, IntKind.signed, IntKind.bits]
  omega

set_option maxHeartbeats 2000000 in
set_option maxRecDepth 100000 in
theorem abs_any (b : Nat) (w : World) (hb : b < 2 ^ 64) : Calls Tryz.prog 70 #[.float .f64 b] w fun e w' => e = .returned (.float .f64 (b % 2 ^ 63)) ∧ w' = w := by
  have r1 := bits_run b w
  have r2 := fun n => frombits_run n w
  go_enter Tryz.func70, Tryz.ntmps70
  go_wp2
  go_ret
  exact ⟨ret_float (andNot_sign b hb), rfl⟩

set_option maxHeartbeats 2000000 in
set_option maxRecDepth 100000 in
theorem trunc_any (b r : Nat) (w : World) (s : Bool) (m : Nat) (p : Int) (h : double.read b = .number s m p) (hr : r = double.write ((Ieee.Datum.number s m p).integral .zero)) : Calls Tryz.prog 71 #[.float .f64 b] w fun e w' => e = .returned (.float .f64 r) ∧ w' = w := by
  have r1 := trunc_run b r w s m p h hr
  clear h hr
  go_enter Tryz.func71, Tryz.ntmps71
  go_wp2
  go_ret
  exact ⟨rfl, rfl⟩

/-- The bits without their sign. -/
theorem read_abs {b : Nat} {s : Bool} {m : Nat} {p : Int} (h : double.read b = .number s m p) : double.read (b % 2 ^ 63) = .number false m p := by
  have hsw : double.signWeight = 2 ^ 63 := by decide
  unfold Ieee.Format.read at h ⊢
  rw [hsw] at h ⊢
  have e1 : b % 2 ^ 63 % 2 ^ 63 = b % 2 ^ 63 := Nat.mod_mod ..
  have e2 : (b % 2 ^ 63 / 2 ^ 63 % 2 == 1) = false := by
    rw [Nat.div_eq_of_lt (Nat.mod_lt _ (by decide))]; rfl
  simp only [e1, e2] at h ⊢
  generalize b % 2 ^ 63 = R at *
  generalize (b / 2 ^ 63 % 2 == 1) = S at *
  split at h
  · rename_i h1; rw [if_pos h1]; simp only [Ieee.Datum.number.injEq] at h ⊢; exact ⟨trivial, h.2⟩
  · rename_i h1
    rw [if_neg h1]
    split at h
    · rename_i h2; rw [if_pos h2]; simp only [Ieee.Datum.number.injEq] at h ⊢; exact ⟨trivial, h.2⟩
    · split at h <;> cases h

theorem read_abs_inf {b : Nat} {s : Bool} (h : double.read b = .infinity s) : double.read (b % 2 ^ 63) = .infinity false := by
  have hsw : double.signWeight = 2 ^ 63 := by decide
  unfold Ieee.Format.read at h ⊢
  rw [hsw] at h ⊢
  have e1 : b % 2 ^ 63 % 2 ^ 63 = b % 2 ^ 63 := Nat.mod_mod ..
  have e2 : (b % 2 ^ 63 / 2 ^ 63 % 2 == 1) = false := by
    rw [Nat.div_eq_of_lt (Nat.mod_lt _ (by decide))]; rfl
  simp only [e1, e2] at h ⊢
  generalize b % 2 ^ 63 = R at *
  generalize (b / 2 ^ 63 % 2 == 1) = S at *
  split at h
  · cases h
  · rename_i h1
    split at h
    · cases h
    · rename_i h2
      rw [if_neg h1, if_neg h2]
      split at h
      · rename_i h3; rw [if_pos h3]
      · cases h

theorem read_abs_nan {b : Nat} {s : Bool} {t : Nat} (h : double.read b = .nan s t) : ∃ t', double.read (b % 2 ^ 63) = .nan false t' := by
  have hsw : double.signWeight = 2 ^ 63 := by decide
  unfold Ieee.Format.read at h ⊢
  rw [hsw] at h ⊢
  have e1 : b % 2 ^ 63 % 2 ^ 63 = b % 2 ^ 63 := Nat.mod_mod ..
  have e2 : (b % 2 ^ 63 / 2 ^ 63 % 2 == 1) = false := by
    rw [Nat.div_eq_of_lt (Nat.mod_lt _ (by decide))]; rfl
  simp only [e1, e2] at h ⊢
  generalize b % 2 ^ 63 = R at *
  generalize (b / 2 ^ 63 % 2 == 1) = S at *
  split at h
  · cases h
  · rename_i h1
    split at h
    · cases h
    · rename_i h2
      split at h
      · cases h
      · rename_i h3
        rw [if_neg h1, if_neg h2, if_neg h3]
        exact ⟨_, rfl⟩

/-- A number that is read: what it stands for. -/
theorem is_of_read {b : Nat} {s : Bool} {m : Nat} {p : Int} (h : double.read b = .number s m p) : Is b (signed s m (p + 1074).toNat) := by
  refine ⟨s, m, p, h, ?_⟩
  have hb : double.binade = 2 ^ 52 := by decide
  have hi : double.infRung = 2047 * 2 ^ 52 := by decide
  have hlp : double.leastPlace = -1074 := by decide
  unfold Ieee.Format.read at h
  rw [hb, hi, hlp] at h
  simp only at h
  generalize b % double.signWeight = R at *
  generalize (b / double.signWeight % 2 == 1) = S at *
  split at h
  · rename_i h1; simp only [Ieee.Datum.number.injEq] at h; obtain ⟨rfl, rfl, rfl⟩ := h; exact ⟨by omega, by omega, by omega, rfl⟩
  · split at h
    · rename_i h1 h2; simp only [Ieee.Datum.number.injEq] at h; obtain ⟨rfl, rfl, rfl⟩ := h; exact ⟨by omega, by omega, by omega, rfl⟩
    · split at h <;> cases h

theorem signed_two (u n : Nat) (h : n = 52 + u) : signed false (2 ^ 52) u = 2 ^ n := by
  rw [signed_eq, h, Int.pow_add]; rfl

theorem is_bound : Is 5057542381537067008 (2 ^ 1174) := by
  refine ⟨false, 2 ^ 52, 48, by decide, by omega, by omega, by decide, ?_⟩
  exact signed_two _ 1174 (by decide)

theorem Is.nonneg_abs {b : Nat} {s : Bool} {m : Nat} {p : Int} (h : double.read b = .number s m p) : Is (b % 2 ^ 63) ((signed s m (p + 1074).toNat).natAbs : Int) := by
  have h1 := is_of_read (read_abs h)
  have e : (((signed s m (p + 1074).toNat).natAbs : Nat) : Int) = signed false m (p + 1074).toNat := by
    unfold signed; generalize (m <<< (p + 1074).toNat : Nat) = M; cases s <;> simp only [Bool.false_eq_true, if_false, if_true] <;> omega
  rw [e]; exact h1

/-- What 'Trunc' gives: cut to whole numbers. -/
theorem is_trunc {b : Nat} {s : Bool} {m : Nat} {p : Int} (_h : double.read b = .number s m p) (hp : p ≤ 0) (h53 : m < 2 ^ 53) (U : Nat) (hU : U = 1074) : Is (double.write ((Ieee.Datum.number s m p).integral .zero)) (signed s (m / 2 ^ (-p).toNat) U) := by
  show Is (double.nearest s (Ieee.Toward.cut .zero s (m <<< p.toNat) (-p).toNat) 0) _
  have e0 : p.toNat = 0 := by omega
  have ecut : Ieee.Toward.cut .zero s (m <<< p.toNat) (-p).toNat = m / 2 ^ (-p).toNat := by
    rw [e0, Nat.shiftLeft_zero]
    unfold Ieee.Toward.cut
    simp only [Nat.one_shiftLeft, Bool.toNat_false, Nat.add_zero]
    by_cases hd : (-p).toNat ≤ m.log2 + 2
    · rw [Nat.min_eq_left hd]
    · rw [Nat.min_eq_right (by omega)]
      have hn : m < 2 ^ (m.log2 + 1) := Nat.lt_log2_self
      have h1 : 2 ^ (m.log2 + 2) = 2 * 2 ^ (m.log2 + 1) := by rw [Nat.pow_succ, Nat.mul_comm]
      have h2 : 2 ^ (m.log2 + 2) ≤ 2 ^ (-p).toNat := Nat.pow_le_pow_right (by decide) (by omega)
      rw [Nat.div_eq_of_lt (show m < 2 ^ (m.log2 + 2) by omega), Nat.div_eq_of_lt (show m < 2 ^ (-p).toNat by omega)]
  rw [ecut]
  generalize hq : m / 2 ^ (-p).toNat = q
  have hq53 : q < 2 ^ 53 := by rw [← hq]; exact Nat.lt_of_le_of_lt (Nat.div_le_self ..) h53
  have hsc : Sc (q : Int) 0 ((q * 2 ^ U : Nat) : Int) := by
    have a1 : ((0 : Int) + 1074).toNat = U := by omega
    have a2 : (-((0 : Int) + 1074)).toNat = 0 := by decide
    unfold Sc
    rw [cast_two_pow, a1, a2, Int.pow_zero, Int.mul_one]
  have hlim : q * 2 ^ U < LIM := by
    unfold LIM
    have : q * 2 ^ U < 2 ^ 53 * 2 ^ U := Nat.mul_lt_mul_of_pos_right hq53 (Nat.two_pow_pos _)
    rw [← Nat.pow_add] at this
    exact Nat.lt_of_lt_of_le this (Nat.pow_le_pow_right (by decide) (by unfold LIME; omega))
  have hn := is_nearest s q 0 (q * 2 ^ U) hsc hlim
  have hf : rndN (q * 2 ^ U) = q * 2 ^ U := by
    have hFl : Fl ((q * 2 ^ U : Nat) : Int) := by
      rw [cast_two_pow]
      exact ⟨(q : Int), U, rfl, by simp; omega⟩
    have := rnd_fl hFl
    rw [rnd_natAbs, if_neg (by omega), Int.natAbs_natCast] at this
    exact Int.ofNat_inj.1 this
  rw [hf] at hn
  have e : signed s q U = if s then -((q * 2 ^ U : Nat) : Int) else ((q * 2 ^ U : Nat) : Int) := by
    rw [signed_eq, cast_two_pow]
    split <;> simp [Int.neg_mul]
  rw [e]
  exact hn

theorem dvd_signed (s : Bool) (m a b : Nat) (hab : b ≤ a) : ((2 : Int) ^ a ∣ signed s m b) ↔ m % 2 ^ (a - b) = 0 := by
  obtain ⟨t, rfl⟩ := Nat.exists_eq_add_of_le hab
  have hp := two_pow_pos b
  rw [Nat.add_sub_cancel_left, signed_eq, Nat.add_comm, Int.pow_add]
  constructor
  · rintro ⟨c, hc⟩
    have h1 : (if s then -(m : Int) else (m : Int)) = 2 ^ t * c := by
      refine Int.eq_of_mul_eq_mul_right (a := 2 ^ b) (by omega) ?_
      rw [hc, Int.mul_assoc, Int.mul_assoc, Int.mul_comm (2 ^ b)]
    have h2 := congrArg Int.natAbs h1
    rw [Int.natAbs_mul, natAbs_two_pow] at h2
    have h3 : (if s then -(m : Int) else (m : Int)).natAbs = m := by cases s <;> simp
    rw [h3] at h2
    rw [h2]
    exact Nat.mul_mod_right ..
  · intro h
    obtain ⟨c, hc⟩ := Nat.dvd_of_mod_eq_zero h
    refine ⟨if s then -(c : Int) else (c : Int), ?_⟩
    rw [hc, Nat.mul_comm (2 ^ t), cast_two_pow]
    cases s
    · simp only [Bool.false_eq_true, if_false]; rw [Int.mul_assoc, Int.mul_comm]
    · simp only [if_true]; rw [Int.mul_neg, Int.neg_mul, Int.mul_assoc, Int.mul_comm]

theorem eq_trunc (s : Bool) (m u v d : Nat) (hd : v = u + d) : (signed s m u = signed s (m / 2 ^ d) v) ↔ m % 2 ^ d = 0 := by
  have hp := two_pow_pos u
  subst hd
  rw [signed_eq, signed_eq, Nat.add_comm, Int.pow_add, ← Int.mul_assoc]
  have hdm := Nat.div_add_mod m (2 ^ d)
  have hc := cast_two_pow (m / 2 ^ d) d
  rw [Nat.mul_comm] at hdm
  constructor
  · intro h
    have h1 := Int.eq_of_mul_eq_mul_right (a := 2 ^ u) (by omega) h
    cases s
    · simp only [Bool.false_eq_true, if_false] at h1; rw [← hc] at h1; omega
    · simp only [if_true] at h1; rw [Int.neg_mul, ← hc] at h1; omega
  · intro h
    congr 1
    cases s
    · simp only [Bool.false_eq_true, if_false]; rw [← hc]; omega
    · simp only [if_true]; rw [Int.neg_mul, ← hc]; omega

theorem eq_of {a b : Nat} {x y : Int} (h : Is a x) (k : Is b y) : (FloatKind.f64.format.order a b == some .eq) = decide (x = y) := by
  have : FloatKind.f64.format.order a b = some (compare x y) := is_order h k
  rw [this]
  by_cases e : x = y
  · subst e; simp
  · have : compare x y ≠ .eq := fun h => e (by simpa using h)
    simp [this, e]

theorem lt_of2 {a b : Nat} {x y : Int} (h : Is a x) (k : Is b y) : (FloatKind.f64.format.order a b == some .lt) = decide (x < y) := by
  have : FloatKind.f64.format.order a b = some (compare x y) := is_order h k
  rw [this]
  rcases Int.lt_trichotomy x y with h | h | h
  · rw [show compare x y = .lt by simp [compare, compareOfLessAndEq, h]]; simp [h]
  · subst h; simp
  · rw [show compare x y = .gt by simp [compare, compareOfLessAndEq, show ¬ x < y by omega, show ¬ x = y by omega]]; simp; omega

set_option maxHeartbeats 2000000 in
set_option maxRecDepth 100000 in
theorem mayBe_no (b : Nat) (w : World) (hb : b < 2 ^ 64) (h1 : (FloatKind.f64.format.order (b % 2 ^ 63) 5057542381537067008 == some .lt) = false) : Calls Tryz.prog 54 #[.float .f64 b] w fun e w' => e = .returned (.bool false) ∧ w' = w := by
  generalize hA : b % 2 ^ 63 = A at *
  have HA : Hid (∀ W, Calls Tryz.prog 70 #[.float .f64 b] W fun e w' => e = .returned (.float .f64 A) ∧ w' = W) := fun W => by rw [← hA]; exact abs_any b W hb
  clear hA hb
  go_enter Tryz.func54, Tryz.ntmps54
  go_wp2_with (go_at_call 70; refine (HA.out _).mono ?_; rintro e w' ⟨rfl, rfl⟩)
  go_ret
  exact ⟨rfl, rfl⟩

set_option maxHeartbeats 2000000 in
set_option maxRecDepth 100000 in
theorem mayBe_yes (b r t : Nat) (q : Bool) (w : World) (hb : b < 2 ^ 64) (h1 : (FloatKind.f64.format.order (b % 2 ^ 63) 5057542381537067008 == some .lt) = true) (h2 : floatBits .mul .f64 b 5057542381537067008 = some r)
    (h3 : ∀ W, Calls Tryz.prog 71 #[.float .f64 r] W fun e w' => e = .returned (.float .f64 t) ∧ w' = W) (h4 : (FloatKind.f64.format.order r t == some .eq) = q) : Calls Tryz.prog 54 #[.float .f64 b] w fun e w' => e = .returned (.bool q) ∧ w' = w := by
  generalize hA : b % 2 ^ 63 = A at *
  have HA : Hid (∀ W, Calls Tryz.prog 70 #[.float .f64 b] W fun e w' => e = .returned (.float .f64 A) ∧ w' = W) := fun W => by rw [← hA]; exact abs_any b W hb
  have H3 : Hid (∀ W, Calls Tryz.prog 71 #[.float .f64 r] W fun e w' => e = .returned (.float .f64 t) ∧ w' = W) := h3
  have r1 := fun W => run_float_arith (P := Tryz.prog) W .mul 74 .f64 _ _ _ h2
  clear hA hb h3 h2
  go_enter Tryz.func54, Tryz.ntmps54
  go_wp2_with (first | (go_at_call 70; refine (HA.out _).mono ?_; rintro e w' ⟨rfl, rfl⟩) | (go_at_call 71; refine (H3.out _).mono ?_; rintro e w' ⟨rfl, rfl⟩))
  go_ret
  exact ⟨rfl, rfl⟩

end Go.Proofs.YtbjjkfmdkmbcfaaGreat
