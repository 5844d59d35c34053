import Derived.Test.YtbjjkfmdkmbcfaaMw
namespace Go.Proofs.Ytbjjkfmdkmbcfaa
open Go.RowKit
open PlRd
open Ieee (double signed)

theorem cast_pow2 (n : Nat) : ((2 ^ n : Nat) : Int) = 2 ^ n := by rw [Int.natCast_pow]; rfl

theorem dvd_scale (a b : Nat) (x : Int) : ((2 : Int) ^ (a + b) ∣ x * 2 ^ b) ↔ ((2 : Int) ^ a ∣ x) := by
  have hp := two_pow_pos b
  rw [Int.pow_add]
  constructor
  · rintro ⟨c, hc⟩
    refine ⟨c, Int.eq_of_mul_eq_mul_right (a := 2 ^ b) (by omega) ?_⟩
    rw [hc, Int.mul_assoc, Int.mul_assoc, Int.mul_comm (2 ^ b)]
  · rintro ⟨c, hc⟩
    exact ⟨c, by rw [hc, Int.mul_assoc, Int.mul_assoc, Int.mul_comm c]⟩

/-- 'Trunc' of a number that is whole. -/
theorem is_trunc_up {b : Nat} {s : Bool} {m : Nat} {p : Int} (_h : double.read b = .number s m p) (hp : 0 ≤ p) (h53 : m < 2 ^ 53) (hlim : m * 2 ^ (p + 1074).toNat < LIM) : Is (double.write ((Ieee.Datum.number s m p).integral .zero)) (signed s m (p + 1074).toNat) := by
  show Is (double.nearest s (Ieee.Toward.cut .zero s (m <<< p.toNat) (-p).toNat) 0) _
  have ecut : Ieee.Toward.cut .zero s (m <<< p.toNat) (-p).toNat = m * 2 ^ p.toNat := by
    rw [show (-p).toNat = 0 by omega, Nat.shiftLeft_eq]
    unfold Ieee.Toward.cut
    simp
  rw [ecut]
  obtain ⟨U, hU⟩ : ∃ U, U = (p + 1074).toNat := ⟨_, rfl⟩
  rw [← hU] at hlim ⊢
  have hsc : Sc ((m * 2 ^ p.toNat : Nat) : Int) 0 ((m * 2 ^ U : Nat) : Int) := by
    have a2 : (-((0 : Int) + 1074)).toNat = 0 := by decide
    unfold Sc
    rw [cast_two_pow, cast_two_pow, a2, Int.pow_zero, Int.mul_one, Int.mul_assoc, ← Int.pow_add]
    congr 2
    omega
  have hn := is_nearest s (m * 2 ^ p.toNat) 0 (m * 2 ^ U) hsc hlim
  have hf : rndN (m * 2 ^ U) = m * 2 ^ U := by
    have hFl : Fl ((m * 2 ^ U : Nat) : Int) := by
      rw [cast_two_pow]
      exact ⟨(m : Int), U, rfl, by simp; omega⟩
    have := rnd_fl hFl
    rw [rnd_natAbs, if_neg (by omega), Int.natAbs_natCast] at this
    exact Int.ofNat_inj.1 this
  rw [hf] at hn
  have e : signed s m U = if s then -((m * 2 ^ U : Nat) : Int) else ((m * 2 ^ U : Nat) : Int) := by
    rw [signed_eq, cast_two_pow]
    split <;> simp [Int.neg_mul]
  rw [e]
  exact hn

/-- Of a number that is read: is it whole? By 'Trunc'. -/
theorem trunc_eq {r : Nat} {V : Int} (h : Is r V) (hV : V.natAbs < LIM) : ∃ t, (∀ W, Calls Try.prog 50 #[.float .f64 r] W fun e w' => e = .returned (.float .f64 t) ∧ w' = W) ∧ (FloatKind.f64.format.order r t == some .eq) = decide ((2 : Int) ^ 1074 ∣ V) := by
  obtain ⟨s, m, p, hr, p1, p2, h53, e⟩ := h
  refine ⟨_, fun W => trunc_any r _ W s m p hr rfl, ?_⟩
  have hI : Is r V := ⟨s, m, p, hr, p1, p2, h53, e⟩
  by_cases hp : 0 ≤ p
  · have hl : m * 2 ^ (p + 1074).toNat < LIM := by
      have := congrArg Int.natAbs e
      rw [signed_eq, Int.natAbs_mul, natAbs_two_pow] at this
      have h3 : (if s then -(m : Int) else (m : Int)).natAbs = m := by cases s <;> simp
      rw [h3] at this
      rw [this]; exact hV
    have hT := is_trunc_up hr hp h53 hl
    rw [e] at hT
    rw [eq_of hI hT]
    have hd : (2 : Int) ^ 1074 ∣ V := by
      rw [← e, signed_eq]
      exact Int.dvd_mul_of_dvd_right (pow_dvd (by omega))
    exact (decide_eq_true rfl).trans (decide_eq_true hd).symm
  · have hT := is_trunc hr (by omega) h53 1074 rfl
    rw [eq_of hI hT]
    have h1 := eq_trunc s m (p + 1074).toNat 1074 (-p).toNat (by omega)
    have h2 := dvd_signed s m 1074 (p + 1074).toNat (by omega)
    rw [show 1074 - (p + 1074).toNat = (-p).toNat by omega] at h2
    rw [e] at h1 h2
    rw [decide_eq_decide, h1, h2]

theorem two_pow_add (a b c : Nat) (h : a = b + c) (x : Int) : x * 2 ^ a = x * 2 ^ b * 2 ^ c := by
  rw [h, Int.pow_add, Int.mul_assoc]

theorem natAbs_scale (x : Int) (b c d : Nat) (h : x.natAbs < 2 ^ b) (hd : d = b + c) : (x * 2 ^ c).natAbs < 2 ^ d := by
  rw [Int.natAbs_mul, natAbs_two_pow, hd, Nat.pow_add]
  exact Nat.mul_lt_mul_of_pos_right h (Nat.two_pow_pos c)

theorem lt_lim {n d : Nat} (h : n < 2 ^ d) (hd : d ≤ 2090) : n < LIM := by
  unfold LIM
  exact Nat.lt_of_lt_of_le h (Nat.pow_le_pow_right (by decide) (by unfold LIME; omega))

theorem fl_up {x : Int} (h : Fl x) (k : Nat) : Fl (x * 2 ^ k) := by
  obtain ⟨m, e, rfl, hm⟩ := h
  exact ⟨m, e + k, by rw [Int.pow_add, Int.mul_assoc], hm⟩

theorem mayBe_any (b : Nat) (w : World) (hb : b < 2 ^ 64) : Calls Try.prog 37 #[.float .f64 b] w fun e w' => e = .returned (.bool (mayB b)) ∧ w' = w := by
  have hC : ∃ s m p, double.read 5057542381537067008 = .number s m p := ⟨_, _, _, (by decide : double.read 5057542381537067008 = .number false (2 ^ 52) 48)⟩
  obtain ⟨s0, m0, p0, hC⟩ := hC
  cases hr : double.read b with
  | nan s t =>
    have hm : mayB b = false := by unfold mayB; rw [hr]
    obtain ⟨t', ht⟩ := read_abs_nan hr
    rw [hm]
    refine mayBe_no b w hb ?_
    show (double.order _ _ == _) = false
    unfold Ieee.Format.order
    rw [ht]
    rfl
  | infinity s =>
    have hm : mayB b = false := by unfold mayB; rw [hr]
    rw [hm]
    refine mayBe_no b w hb ?_
    show (double.order _ _ == _) = false
    unfold Ieee.Format.order
    rw [read_abs_inf hr, hC]
    rfl
  | number s m p =>
    obtain ⟨X, hXe⟩ : ∃ X, X = signed s m (p + 1074).toNat := ⟨_, rfl⟩
    have hX := is_of_read hr
    have hA := Is.nonneg_abs hr
    have hm : mayB b = (decide (X.natAbs < 2 ^ 1174) && decide ((2 : Int) ^ 974 ∣ X)) := by unfold mayB; rw [hr, hXe]
    rw [← hXe] at hX hA
    have h1 := lt_of2 hA is_bound
    have hiff : ((X.natAbs : Int) < 2 ^ 1174) ↔ X.natAbs < 2 ^ 1174 := by
      have := cast_pow2 1174
      rw [← this]; exact Int.ofNat_lt
    by_cases hlt : X.natAbs < 2 ^ 1174
    · have hV := natAbs_scale X 1174 100 1274 hlt rfl
      obtain ⟨r, e1, i1⟩ := is_mul hX is_bound (two_pow_add 1174 100 1074 rfl X) (lt_lim hV (by decide))
      rw [rnd_fl (fl_up hX.fl 100)] at i1
      obtain ⟨t, hT, hE⟩ := trunc_eq i1 (lt_lim hV (by decide))
      have hq : mayB b = decide ((2 : Int) ^ 1074 ∣ X * 2 ^ 100) := by
        rw [hm]
        have := dvd_scale 974 100 X
        simp only [hlt, decide_true, Bool.true_and]
        exact decide_eq_decide.2 this.symm
      rw [hq]
      refine mayBe_yes b r t _ w hb ?_ e1 hT hE
      rw [h1]; exact decide_eq_true (hiff.2 hlt)
    · have hm' : mayB b = false := by rw [hm, decide_eq_false hlt, Bool.false_and]
      rw [hm']
      refine mayBe_no b w hb ?_
      rw [h1]; exact decide_eq_false (fun h => hlt (hiff.1 h))

/-- A coordinate that may be. -/
theorem co_of_mayB {b : Nat} (h : mayB b = true) : ∃ X, Is b X ∧ (2 : Int) ^ 974 ∣ X ∧ X.natAbs < 2 ^ 1174 := by
  unfold mayB at h
  cases hr : double.read b with
  | nan s t => rw [hr] at h; cases h
  | infinity s => rw [hr] at h; cases h
  | number s m p =>
    rw [hr] at h
    simp only [Bool.and_eq_true, decide_eq_true_eq] at h
    exact ⟨_, is_of_read hr, h.2, h.1⟩

end Go.Proofs.Ytbjjkfmdkmbcfaa
