import Derived.Test.YtbjjkfmdkmbcfaaCd
namespace Go.Proofs.Ytbjjkfmdkmbcfaa
open Go.RowKit
open PlRd
open Ieee (double signed)

attribute [local go_sem ↓] Go.wp_at_zero Go.wp_at_succ

/-- The bits of the whole number n, times 2 to the power p. -/
structure Bt (b : Nat) (n p : Int) : Prop where
  lt : b < 2 ^ 64
  may : mayB b = true
  val : crd b = n * 2 ^ (p + 100).toNat

theorem read_bits {b M E : Nat} {ng : Bool} (hb : b + 4503599627370496 = (if ng then 9223372036854775808 else 0) + E * 4503599627370496 + M) (h1 : 4503599627370496 ≤ M) (h2 : M < 9007199254740992) (hE : 1 ≤ E) (hE2 : E ≤ 2046) :
    b < 2 ^ 64 ∧ double.read b = .number ng M (-1074 + ((E - 1 : Nat) : Int)) := by
  have hlt : b < 2 ^ 64 := by cases ng <;> simp at hb <;> omega
  refine ⟨hlt, ?_⟩
  have h := (read_parts b E (M - 4503599627370496) ng hlt (by cases ng <;> simp at hb <;> omega) (by cases ng <;> simp at hb <;> omega) (by
    cases ng
    · simp at hb
      symm
      rw [decide_eq_false_iff_not]
      omega
    · simp at hb
      symm
      rw [decide_eq_true_eq]
      omega)).2.1 (by omega) (by omega)
  rw [show 4503599627370496 + (M - 4503599627370496) = M by omega] at h
  exact h

theorem lt_scale {a Q c d N : Nat} (h : a * 2 ^ Q < 2 ^ c) (hN : N = d + c) : a * 2 ^ (d + Q) < 2 ^ N := by
  rw [hN, Nat.pow_add, Nat.mul_left_comm, Nat.pow_add]
  exact Nat.mul_lt_mul_of_pos_left h (Nat.two_pow_pos _)

theorem dvd_up (a d Q : Nat) : 2 ^ d ∣ a * 2 ^ (d + Q) := by
  rw [Nat.pow_add, Nat.mul_left_comm]
  exact Nat.dvd_mul_right _ _

theorem cast_up (a d Q : Nat) : ((a * 2 ^ (d + Q) : Nat) : Int) = (a : Int) * 2 ^ Q * 2 ^ d := by
  rw [Nat.pow_add, Int.natCast_mul, Int.natCast_mul, cast_pow2, cast_pow2, Int.mul_assoc, Int.mul_comm (2 ^ Q)]

theorem bt_of {b a k E Q : Nat} {ng : Bool} {p : Int} (hb : b + 4503599627370496 = (if ng then 9223372036854775808 else 0) + E * 4503599627370496 + a * 2 ^ k) (h1 : 4503599627370496 ≤ a * 2 ^ k) (h2 : a * 2 ^ k < 9007199254740992) (hE : (E : Int) = 1075 + p - k) (hp : -100 ≤ p) (hk : k ≤ 52) (hE2 : E ≤ 2046) (hQ : Q = (p + 100).toNat) (hs : a * 2 ^ Q < 2 ^ 200) :
    Bt b (if ng then -(a : Int) else (a : Int)) p := by
  obtain ⟨hlt, hr⟩ := read_bits hb h1 h2 (by omega) hE2
  have hV : a * 2 ^ (974 + Q) = a * 2 ^ k * 2 ^ (E - 1) := by
    rw [Nat.mul_assoc, ← Nat.pow_add]
    congr 2
    omega
  obtain ⟨hm, hv⟩ := mayB_mag hr (k := E - 1) (by omega) hV
  have hlow : a * 2 ^ (974 + Q) < 2 ^ 1174 := lt_scale (a := a) (Q := Q) (c := 200) (d := 974) (N := 1174) hs (by decide)
  have hdv : 2 ^ 974 ∣ a * 2 ^ (974 + Q) := dvd_up a 974 Q
  have hmay : mayB b = true := by rw [hm, decide_eq_true hlow, decide_eq_true hdv]; rfl
  refine ⟨hlt, hmay, ?_⟩
  have h3 := valB_crd hmay
  rw [hv] at h3
  have hc : ((a * 2 ^ (974 + Q) : Nat) : Int) = (a : Int) * 2 ^ Q * 2 ^ 974 := cast_up a 974 Q
  rw [hc] at h3
  have hp974 := two_pow_pos 974
  rw [← hQ]
  generalize (2 : Int) ^ 974 = E9 at *
  refine Int.eq_of_mul_eq_mul_right (show E9 ≠ 0 by omega) ?_
  rw [← h3]
  cases ng
  · rfl
  · simp only [if_true]
    rw [Int.neg_mul, Int.neg_mul]

/-- .. and of 1 they are known. -/
def Btx (b : Nat) (n p : Int) : Prop := Bt b n p ∧ (n = 1 → (b : Int) = (1023 + p) * 4503599627370496)

theorem wrapU (x : Int) (h0 : 0 ≤ x) (h1 : x < 18446744073709551616) : IntKind.u64.wrap x = x := by
  simp [IntKind.wrap, IntKind.bits, IntKind.signed]
  omega

set_option maxHeartbeats 4000000 in
set_option maxRecDepth 100000 in
theorem bits_walk (n p : Int) (w : World) (hn : n ≠ 0) (ha : n.natAbs < 9007199254740992) (hp : -100 ≤ p) (hp2 : p ≤ 900) (hs : n.natAbs * 2 ^ (p + 100).toNat < 2 ^ 200) :
    Calls Try.prog 20 #[.int .i64 n, .int .i64 p] w fun e w' => w' = w ∧ ∃ b, e = .returned (.int .u64 (b : Nat)) ∧ Btx b n p := by
  obtain ⟨a, haa⟩ : ∃ a, a = n.natAbs := ⟨_, rfl⟩
  obtain ⟨ng, hng⟩ : ∃ ng, ng = decide (n < 0) := ⟨_, rfl⟩
  obtain ⟨sg, hsg⟩ : ∃ sg : Nat, sg = if ng then 9223372036854775808 else 0 := ⟨_, rfl⟩
  have HEND : Hid (∀ (b k E : Nat), b + 4503599627370496 = sg + E * 4503599627370496 + a * 2 ^ k → 4503599627370496 ≤ a * 2 ^ k → a * 2 ^ k < 9007199254740992 → (E : Int) = 1075 + p - k → k ≤ 52 → Btx b n p) := by
    intro b k E h1 h2 h3 h4 h5
    refine ⟨?_, fun hn1 => ?_⟩
    rotate_left
    · have ha1 : a = 1 := by rw [haa, hn1]; rfl
      have hs0 : sg = 0 := by rw [hsg, hng, hn1]; rfl
      have e51 : (2 : Nat) ^ 51 = 2251799813685248 := by decide
      have e52 : (2 : Nat) ^ 52 = 4503599627370496 := by decide
      have hk : k = 52 := by
        rcases Nat.lt_or_ge k 52 with h | h
        · have h9 := Nat.pow_le_pow_right (n := 2) (by omega) (show k ≤ 51 by omega)
          rw [ha1, Nat.one_mul] at h2
          omega
        · omega
      subst hk
      rw [ha1, hs0, e52] at h1
      omega
    have := bt_of (ng := ng) (p := p) (Q := (p + 100).toNat) (by rw [← hsg]; exact h1) h2 h3 h4 hp h5 (by omega) rfl (by rw [haa]; exact hs)
    rw [show n = if ng then -(a : Int) else (a : Int) by rw [hng, haa]; by_cases h : n < 0 <;> simp [h] <;> omega]
    exact this
  have h0 : 0 < a := by omega
  rw [← haa] at ha
  clear hs
  by_cases hneg : n < 0
  · have hsg' : sg = 9223372036854775808 := by rw [hsg, hng]; simp [hneg]
    have hna : -n = (a : Int) := by omega
    have hw1 : IntKind.u64.wrap (a : Int) = (a : Int) := wrapU _ (by omega) (by omega)
    have hw2 : IntKind.i64.wrap (a : Int) = (a : Int) := by rw [IntKind.wrap_i64]; omega
    have hw3 : IntKind.i64.wrap (1075 + p) = 1075 + p := by rw [IntKind.wrap_i64]; omega
    clear hsg hng haa
    go_enter Try.func20, Try.ntmps20
    go_wp2
    go_loopg [6, 7] 53 (fun g s6 s7 wr => ∃ k M E : Nat, s6 = .int .u64 (M : Int) ∧ s7 = .int .i64 (E : Int) ∧ Hid (M = a * 2 ^ k) ∧ Hid ((E : Int) = 1075 + p - k) ∧ k ≤ 52 ∧ M < 9007199254740992 ∧ E ≤ 2046 ∧ 53 - k ≤ g ∧ wr = w)
    case atStart => exact ⟨0, a, (1075 + p).toNat, rfl, by rw [Int.toNat_of_nonneg (by omega)], show _ = _ by simp, show _ = _ by rw [Int.toNat_of_nonneg (by omega)]; simp, by omega, ha, by omega, by omega, rfl⟩
    case round =>
      obtain ⟨k, M, E, rfl, rfl, HM, HE, hk, hM, hE2, hg, rfl⟩ := hrel
      have hE1 : 1 ≤ E := by have := HE.out; omega
      by_cases hlt : M < 4503599627370496
      · have hk2 : k < 52 := by
          rw [← Nat.not_le]
          intro hle
          have h9 := HM.out
          have h8 := Nat.pow_le_pow_right (n := 2) (by omega) hle
          have h7 := Nat.mul_le_mul (show 1 ≤ a from h0) h8
          omega
        have hlt' : (M : Int) < 4503599627370496 := by omega
        have q1 : IntKind.u64.wrap (2 * (M : Int)) = 2 * (M : Int) := wrapU _ (by omega) (by omega)
        have q2 : IntKind.i64.wrap ((E : Int) - 1) = (E : Int) - 1 := by rw [IntKind.wrap_i64]; omega
        go_wp2
        go_roundg (53 - (k + 1))
        case measure => omega
        case rel => exact ⟨k + 1, 2 * M, E - 1, by simp, by rw [Int.natCast_sub hE1]; rfl, show _ = _ by rw [HM.out, Nat.pow_succ, Nat.mul_left_comm, Nat.mul_comm 2], show _ = _ by have := HE.out; omega, by omega, by omega, by omega, Nat.le_refl _, rfl⟩
      · have hlt' : ¬ (M : Int) < 4503599627370496 := by omega
        have hlt'' : (4503599627370496 : Int) ≤ (M : Int) := by omega
        have hle : 4503599627370496 ≤ sg + E * 4503599627370496 + M := by omega
        obtain ⟨b, hb0⟩ := Nat.exists_eq_add_of_le hle
        have hb : b + 4503599627370496 = sg + E * 4503599627370496 + M := by rw [Nat.add_comm]; exact hb0.symm
        clear hle hb0
        have HBt : Hid (Btx b n p) := by
          have h9 := HEND.out b k E
          rw [← HM.out] at h9
          exact h9 hb (by omega) hM HE.out hk
        have HBv : Hid (9223372036854775808 + (E : Int) * 4503599627370496 + (M : Int) - 4503599627370496 = (b : Int)) := show _ = _ by omega
        clear hb HEND HM HE hsg'
        have q1 : IntKind.u64.wrap (E : Int) = (E : Int) := wrapU _ (by omega) (by omega)
        have q2 : IntKind.u64.wrap ((E : Int) * 4503599627370496) = (E : Int) * 4503599627370496 := wrapU _ (by omega) (by omega)
        have q3 : IntKind.u64.wrap (9223372036854775808 + (E : Int) * 4503599627370496) = 9223372036854775808 + (E : Int) * 4503599627370496 := wrapU _ (by omega) (by omega)
        have q4 : IntKind.u64.wrap (9223372036854775808 + (E : Int) * 4503599627370496 + (M : Int)) = 9223372036854775808 + (E : Int) * 4503599627370496 + (M : Int) := wrapU _ (by omega) (by omega)
        have q5 : IntKind.u64.wrap (9223372036854775808 + (E : Int) * 4503599627370496 + (M : Int) - 4503599627370496) = 9223372036854775808 + (E : Int) * 4503599627370496 + (M : Int) - 4503599627370496 := wrapU _ (by omega) (by omega)
        go_wp2
        go_ret
        rw [HBv.out]
        exact ⟨rfl, b, rfl, HBt.out⟩
  · have hsg' : sg = 0 := by rw [hsg, hng]; simp [hneg]
    have hna : n = (a : Int) := by omega
    have hw1 : IntKind.u64.wrap (a : Int) = (a : Int) := wrapU _ (by omega) (by omega)
    have hw3 : IntKind.i64.wrap (1075 + p) = 1075 + p := by rw [IntKind.wrap_i64]; omega
    have hn' : ¬ (a : Int) = 0 := by omega
    have hnn : ¬ (a : Int) < 0 := by omega
    clear hsg hng haa
    subst hna
    go_enter Try.func20, Try.ntmps20
    go_wp2
    go_loopg [6, 7] 53 (fun g s6 s7 wr => ∃ k M E : Nat, s6 = .int .u64 (M : Int) ∧ s7 = .int .i64 (E : Int) ∧ Hid (M = a * 2 ^ k) ∧ Hid ((E : Int) = 1075 + p - k) ∧ k ≤ 52 ∧ M < 9007199254740992 ∧ E ≤ 2046 ∧ 53 - k ≤ g ∧ wr = w)
    case atStart => exact ⟨0, a, (1075 + p).toNat, rfl, by rw [Int.toNat_of_nonneg (by omega)], show _ = _ by simp, show _ = _ by rw [Int.toNat_of_nonneg (by omega)]; simp, by omega, ha, by omega, by omega, rfl⟩
    case round =>
      obtain ⟨k, M, E, rfl, rfl, HM, HE, hk, hM, hE2, hg, rfl⟩ := hrel
      have hE1 : 1 ≤ E := by have := HE.out; omega
      by_cases hlt : M < 4503599627370496
      · have hk2 : k < 52 := by
          rw [← Nat.not_le]
          intro hle
          have h9 := HM.out
          have h8 := Nat.pow_le_pow_right (n := 2) (by omega) hle
          have h7 := Nat.mul_le_mul (show 1 ≤ a from h0) h8
          omega
        have hlt' : (M : Int) < 4503599627370496 := by omega
        have q1 : IntKind.u64.wrap (2 * (M : Int)) = 2 * (M : Int) := wrapU _ (by omega) (by omega)
        have q2 : IntKind.i64.wrap ((E : Int) - 1) = (E : Int) - 1 := by rw [IntKind.wrap_i64]; omega
        go_wp2
        go_roundg (53 - (k + 1))
        case measure => omega
        case rel => exact ⟨k + 1, 2 * M, E - 1, by simp, by rw [Int.natCast_sub hE1]; rfl, show _ = _ by rw [HM.out, Nat.pow_succ, Nat.mul_left_comm, Nat.mul_comm 2], show _ = _ by have := HE.out; omega, by omega, by omega, by omega, Nat.le_refl _, rfl⟩
      · have hlt' : ¬ (M : Int) < 4503599627370496 := by omega
        have hlt'' : (4503599627370496 : Int) ≤ (M : Int) := by omega
        have hle : 4503599627370496 ≤ sg + E * 4503599627370496 + M := by omega
        obtain ⟨b, hb0⟩ := Nat.exists_eq_add_of_le hle
        have hb : b + 4503599627370496 = sg + E * 4503599627370496 + M := by rw [Nat.add_comm]; exact hb0.symm
        clear hle hb0
        have HBt : Hid (Btx b (a : Int) p) := by
          have h9 := HEND.out b k E
          rw [← HM.out] at h9
          exact h9 hb (by omega) hM HE.out hk
        have HBv : Hid ((E : Int) * 4503599627370496 + (M : Int) - 4503599627370496 = (b : Int)) := show _ = _ by omega
        clear hb HEND HM HE hsg'
        have q1 : IntKind.u64.wrap (E : Int) = (E : Int) := wrapU _ (by omega) (by omega)
        have q2 : IntKind.u64.wrap ((E : Int) * 4503599627370496) = (E : Int) * 4503599627370496 := wrapU _ (by omega) (by omega)
        have q3 : IntKind.u64.wrap ((E : Int) * 4503599627370496) = (E : Int) * 4503599627370496 := wrapU _ (by omega) (by omega)
        have q4 : IntKind.u64.wrap ((E : Int) * 4503599627370496 + (M : Int)) = (E : Int) * 4503599627370496 + (M : Int) := wrapU _ (by omega) (by omega)
        have q5 : IntKind.u64.wrap ((E : Int) * 4503599627370496 + (M : Int) - 4503599627370496) = (E : Int) * 4503599627370496 + (M : Int) - 4503599627370496 := wrapU _ (by omega) (by omega)
        go_wp2
        go_ret
        rw [HBv.out]
        exact ⟨rfl, b, rfl, HBt.out⟩

end Go.Proofs.Ytbjjkfmdkmbcfaa
