import Derived.Test.YtbjjkfmdkmbcfaaKx
namespace Go.Proofs.Ytbjjkfmdkmbcfaa
open Go.RowKit
open PlRd (sgn)

theorem fit_of {n k : Int} {a b : Nat} (h : n.natAbs < 2 ^ a) (hk : -100 ≤ k ∧ k ≤ 900) (hb : (k + 100).toNat ≤ b) (h1 : a ≤ 53) (h2 : a + b ≤ 200) : Fit n k := by
  refine ⟨?_, hk.1, hk.2, ?_⟩
  · exact Nat.lt_of_lt_of_le h (Nat.le_trans (Nat.pow_le_pow_right (by omega) h1) (by decide))
  · have h3 : 2 ^ (k + 100).toNat ≤ 2 ^ b := Nat.pow_le_pow_right (by omega) hb
    have h4 : (2 : Nat) ^ a * 2 ^ b ≤ 2 ^ 200 := by rw [← Nat.pow_add]; exact Nat.pow_le_pow_right (by omega) h2
    exact Nat.lt_of_lt_of_le (Nat.lt_of_le_of_lt (Nat.mul_le_mul_left _ h3) (Nat.mul_lt_mul_of_pos_right h (Nat.two_pow_pos _))) h4

theorem fit25 {n : Int} (h : -33554432 < n ∧ n < 33554432) : Fit n 20 ∧ Fit n 0 :=
  ⟨fit_of (a := 25) (b := 120) (by omega) (by omega) (by omega) (by omega) (by omega), fit_of (a := 25) (b := 100) (by omega) (by omega) (by omega) (by omega) (by omega)⟩

theorem bits_lit (p b : Int) (hp : -100 ≤ p) (hp2 : p ≤ 2) (hb : b = (1023 + p) * 4503599627370496) : BcR 1 p b := by
  constructor
  intro V
  refine (bits_walk 1 p V (by omega) (by decide) (by omega) (by omega) ?_).mono ?_
  · have h1 : (p + 100).toNat ≤ 199 := by omega
    have h2 := Nat.pow_le_pow_right (n := 2) (by omega) h1
    have h3 : (2 : Nat) ^ 199 < 2 ^ 200 := by decide
    have h4 : Int.natAbs 1 = 1 := rfl
    rw [h4, Nat.one_mul]
    exact Nat.lt_of_le_of_lt h2 h3
  · rintro e w' ⟨rfl, b', rfl, h⟩
    refine ⟨?_, rfl⟩
    rw [h.2 rfl, hb]

theorem hair_bt (b E Q : Nat) (p : Int) (ng : Bool) (hb : b + 4503599627370496 = (if ng then 9223372036854775808 else 0) + E * 4503599627370496 + 1 * 2 ^ 52) (hE : (E : Int) = 1075 + p - (52 : Nat)) (hp : -100 ≤ p) (hE2 : E ≤ 2046) (hQ : Q = (p + 100).toNat) (hs : 1 * 2 ^ Q < 2 ^ 200) : Bt b (if ng then -((1 : Nat) : Int) else ((1 : Nat) : Int)) p :=
  bt_of (a := 1) (k := 52) hb (by decide) (by decide) hE hp (by decide) hE2 hQ hs

theorem hairA : Hr 4156822456062967808 1 (-100) := ⟨4156822456062967808, rfl, hair_bt 4156822456062967808 923 0 (-100) false (by decide) (by decide) (by decide) (by decide) (by decide) (by decide), .inl rfl⟩
theorem hairB : Hr 4336966441157787648 1 (-60) := ⟨4336966441157787648, rfl, hair_bt 4336966441157787648 963 40 (-60) false (by decide) (by decide) (by decide) (by decide) (by decide) (by decide), .inl rfl⟩
theorem hairC : Hr 13380194492917743616 (-1) (-100) := ⟨13380194492917743616, rfl, hair_bt 13380194492917743616 923 0 (-100) true (by decide) (by decide) (by decide) (by decide) (by decide) (by decide), .inr rfl⟩
theorem hairD : Hr 13560338478012563456 (-1) (-60) := ⟨13560338478012563456, rfl, hair_bt 13560338478012563456 963 40 (-60) true (by decide) (by decide) (by decide) (by decide) (by decide) (by decide), .inr rfl⟩

theorem pk_r {c : Int} (h : I64 c) : PkR c 4000 (pickI c 4000) := ⟨fun V => pick_any c 4000 V h (by omega) (by omega)⟩

theorem hair_any (a0 a1 b0 b1 n m : Int) (down fine : Bool) (w : World) (h1 : I64 a0) (h2 : I64 a1) (h3 : I64 b0) (h4 : I64 b1) (h5 : I64 n) (h6 : I64 m) :
    Calls Try.prog 6 #[.agg #[.int .i64 a0, .int .i64 a1], .agg #[.int .i64 b0, .int .i64 b1], .int .i64 n, .int .i64 m, .bool down, .bool fine] w fun e w' => e = .returned (.bool true) ∧ Below w.heap.size w w' := by
  have r1 := bentI_range a0
  have r2 := bentI_range a1
  have r3 := pickI_range b0 4000 (by omega)
  have r4 := bentI_range b1
  have r5 := pickI_range n 4000 (by omega)
  have r6 := pickI_range m 4000 (by omega)
  have ha := at_r h1 h2
  have k1 := pk_r h3
  have k2 : BeR b1 (bentI b1) := ⟨fun V => bent_any b1 V h4⟩
  have k3 := pk_r h5
  have k4 := pk_r h6
  generalize bentI a0 = PX at *
  generalize bentI a1 = PY at *
  generalize pickI b0 4000 = g at *
  generalize bentI b1 = WY at *
  generalize pickI n 4000 = h at *
  generalize pickI m 4000 = j at *
  obtain ⟨WX, e1⟩ : ∃ z, 1 + g = z := ⟨_, rfl⟩
  obtain ⟨K, e2⟩ : ∃ z, 1 + h = z := ⟨_, rfl⟩
  obtain ⟨K1, e3⟩ : ∃ z, K + 1 = z := ⟨_, rfl⟩
  obtain ⟨J, e4⟩ : ∃ z, K1 + j = z := ⟨_, rfl⟩
  have b1' := pr_bound (x := J) (y := WX) (m := 8000) (n := 4000) (by omega) (by omega)
  have b2' := pr_bound (x := J) (y := WY) (m := 8000) (n := 4000) (by omega) (by omega)
  have b3' := pr_bound (x := K) (y := WX) (m := 8000) (n := 4000) (by omega) (by omega)
  have b4' := pr_bound (x := K) (y := WY) (m := 8000) (n := 4000) (by omega) (by omega)
  have hpos : 0 < J * WX := Int.mul_pos (by omega) (by omega)
  have hT : turnW (PX, PY) (PX + J * WX, PY + J * WY) (PX + K * WX, PY + K * WY) = 0 := by
    unfold turnW
    grind
  obtain ⟨JX, e5⟩ : ∃ z, J * WX = z := ⟨_, rfl⟩
  obtain ⟨JY, e7⟩ : ∃ z, J * WY = z := ⟨_, rfl⟩
  obtain ⟨KX, e9⟩ : ∃ z, K * WX = z := ⟨_, rfl⟩
  obtain ⟨KY, e11⟩ : ∃ z, K * WY = z := ⟨_, rfl⟩
  rw [e5] at b1' hpos hT
  rw [e7] at b2' hT
  rw [e9] at b3' hT
  rw [e11] at b4' hT
  obtain ⟨QX, e6⟩ : ∃ z, PX + JX = z := ⟨_, rfl⟩
  obtain ⟨QY, e8⟩ : ∃ z, PY + JY = z := ⟨_, rfl⟩
  obtain ⟨RX, e10⟩ : ∃ z, PX + KX = z := ⟨_, rfl⟩
  obtain ⟨RY, e12⟩ : ∃ z, PY + KY = z := ⟨_, rfl⟩
  rw [e6, e8, e10, e12] at hT
  have hPQ : PX < QX := by omega
  have fP := fit25 (n := PX) (by omega)
  have fP' := fit25 (n := PY) (by omega)
  have fQ := fit25 (n := QX) (by omega)
  have fQ' := fit25 (n := QY) (by omega)
  have fR := fit25 (n := RX) (by omega)
  have fR' := fit25 (n := RY) (by omega)
  have q1 : F64 WX := ⟨by omega, by omega⟩
  have q2 : F64 K := ⟨by omega, by omega⟩
  have q3 : F64 K1 := ⟨by omega, by omega⟩
  have q4 : F64 J := ⟨by omega, by omega⟩
  have q5 : F64 JX := ⟨by omega, by omega⟩
  have q6 : F64 QX := ⟨by omega, by omega⟩
  have q7 : F64 JY := ⟨by omega, by omega⟩
  have q8 : F64 QY := ⟨by omega, by omega⟩
  have q9 : F64 KX := ⟨by omega, by omega⟩
  have q10 : F64 RX := ⟨by omega, by omega⟩
  have q11 : F64 KY := ⟨by omega, by omega⟩
  have q12 : F64 RY := ⟨by omega, by omega⟩
  exact hair_walk a0 a1 b0 b1 n m PX PY g WX WY h K K1 j J JX JY QX QY KX KY RX RY down fine w ha k1 k2 k3 k4
    (bits_lit (-100) _ (by omega) (by omega) (by decide)) (bits_lit (-60) _ (by omega) (by omega) (by decide)) hairA hairB hairC hairD
    (bits_any _ _ fP.1) (bits_any _ _ fQ.1) (bits_any _ _ fR.1) (bits_any _ _ fP.2) (bits_any _ _ fP'.2) (bits_any _ _ fQ.2) (bits_any _ _ fQ'.2) (bits_any _ _ fR.2) (bits_any _ _ fR'.2)
    hPQ hT e1 e2 e3 e4 e5 e6 e7 e8 e9 e10 e11 e12 q1.wrap q2.wrap q3.wrap q4.wrap q5.wrap q6.wrap q7.wrap q8.wrap q9.wrap q10.wrap q11.wrap q12.wrap

end Go.Proofs.Ytbjjkfmdkmbcfaa
