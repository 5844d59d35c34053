import Derived.Test.YtbjjkfmdkmbcfaaTw
namespace Go.Proofs.Ytbjjkfmdkmbcfaa
open Go.RowKit
open PlRd

/-- Parts: multiples of 2 ^ d, at most 2 ^ k of them, none above 2 ^ e. -/
structure Pa (ps : List Int) (d k e : Nat) : Prop where
  fl : ∀ p ∈ ps, Fl p
  dvd : ∀ p ∈ ps, (2 : Int) ^ d ∣ p
  len : ps.length ≤ 2 ^ k
  le : ∀ p ∈ ps, p.natAbs ≤ 2 ^ e

/-- A number: such parts, which do not reach into one another. -/
structure Nm (xs : List Int) (d k e : Nat) : Prop extends Pa xs d k e where
  no : NO xs

theorem absSum_le (ps : List Int) (M : Nat) (h : ∀ p ∈ ps, p.natAbs ≤ M) : absSum ps ≤ ps.length * M := by
  induction ps with
  | nil => simp [absSum]
  | cons p ps ih =>
    have h1 := h p (by simp)
    have h2 := ih (fun x hx => h x (by simp [hx]))
    rw [absSum_cons, List.length_cons, Nat.add_mul]
    omega

theorem Pa.abs {ps : List Int} {d k e : Nat} (h : Pa ps d k e) : absSum ps ≤ 2 ^ (k + e) := by
  refine Nat.le_trans (absSum_le ps _ h.le) ?_
  rw [Nat.pow_add]
  exact Nat.mul_le_mul_right _ h.len

theorem Pa.sum {ps : List Int} {d k e : Nat} (h : Pa ps d k e) : Nm (sumAll ps) d k (k + e + 1) := by
  have hE := sumAll_ex ps h.fl
  refine ⟨⟨hE.2, sumAll_dvd ps h.dvd, Nat.le_trans (sumAll_length ps) h.len, fun p hp => ?_⟩, hE.1⟩
  have h1 := sumAll_le ps h.fl p hp
  have h2 := h.abs
  rw [Nat.pow_succ]
  omega

theorem Pa.append {ps qs : List Int} {d k e : Nat} (h : Pa ps d k e) (h2 : Pa qs d k e) : Pa (ps ++ qs) d (k + 1) e := by
  refine ⟨fun p hp => ?_, fun p hp => ?_, ?_, fun p hp => ?_⟩
  · rcases List.mem_append.1 hp with hp | hp
    · exact h.fl p hp
    · exact h2.fl p hp
  · rcases List.mem_append.1 hp with hp | hp
    · exact h.dvd p hp
    · exact h2.dvd p hp
  · have := h.len
    have := h2.len
    rw [List.length_append, Nat.pow_succ]; omega
  · rcases List.mem_append.1 hp with hp | hp
    · exact h.le p hp
    · exact h2.le p hp

theorem Pa.neg {ps : List Int} {d k e : Nat} (h : Pa ps d k e) : Pa (ps.map (- ·)) d k e := by
  refine ⟨fun p hp => ?_, fun p hp => ?_, by simpa using h.len, fun p hp => ?_⟩
  · obtain ⟨q, hq, rfl⟩ := List.mem_map.1 hp
    exact fl_neg (h.fl q hq)
  · obtain ⟨q, hq, rfl⟩ := List.mem_map.1 hp
    exact Int.dvd_neg.2 (h.dvd q hq)
  · obtain ⟨q, hq, rfl⟩ := List.mem_map.1 hp
    have := h.le q hq
    simpa using this

theorem sum_neg (ps : List Int) : (ps.map (- ·)).sum = -ps.sum := by
  induction ps with
  | nil => simp
  | cons p ps ih => rw [List.map_cons, List.sum_cons, List.sum_cons, ih]; omega

theorem mem_prodParts {xs ys : List Int} {p : Int} (h : p ∈ prodParts xs ys) : ∃ x ∈ xs, ∃ y ∈ ys, p = mulU x y - rnd (mulU x y) ∨ p = rnd (mulU x y) := by
  unfold prodParts at h
  obtain ⟨x, hx, h⟩ := List.mem_flatMap.1 h
  unfold rowParts at h
  obtain ⟨y, hy, h⟩ := List.mem_flatMap.1 h
  exact ⟨x, hx, y, hy, by simpa using h⟩

theorem pow_split (e f u : Nat) (h : u ≤ e + f) : 2 ^ e * 2 ^ f = 2 ^ (e + f - u) * 2 ^ u := by rw [← Nat.pow_add, ← Nat.pow_add, Nat.sub_add_cancel h]

theorem mulU_le {x y : Int} {a b e f : Nat} (hx : (2 : Int) ^ a ∣ x) (hy : (2 : Int) ^ b ∣ y) (hab : 1074 ≤ a + b) (h1 : x.natAbs ≤ 2 ^ e) (h2 : y.natAbs ≤ 2 ^ f) (hef : 1074 ≤ e + f) : (mulU x y).natAbs ≤ 2 ^ (e + f - 1074) := by
  have h := congrArg Int.natAbs (mulU_eq hx hy hab)
  rw [Int.natAbs_mul, Int.natAbs_mul, natAbs_two_pow] at h
  have h3 : x.natAbs * y.natAbs ≤ 2 ^ e * 2 ^ f := Nat.mul_le_mul h1 h2
  have e1 := pow_split e f 1074 hef
  have hp := Nat.two_pow_pos 1074
  rw [h, e1] at h3
  generalize 2 ^ 1074 = E at *
  exact Nat.le_of_mul_le_mul_right h3 hp

theorem Nm.prod {xs ys : List Int} {d1 k1 e1 d2 k2 e2 : Nat} (h : Nm xs d1 k1 e1) (h2 : Nm ys d2 k2 e2) (hd : 1074 ≤ d1 + d2) (he : 1074 ≤ e1 + e2) : Pa (prodParts xs ys) (d1 + d2 - 1074) (k1 + k2 + 1) (e1 + e2 - 1074 + 1) := by
  refine ⟨fun p hp => ?_, fun p hp => ?_, ?_, fun p hp => ?_⟩
  · obtain ⟨x, hx, y, hy, rfl | rfl⟩ := mem_prodParts hp
    · exact two_product (h.fl x hx) (h2.fl y hy) (mulU_eq (h.dvd x hx) (h2.dvd y hy) hd)
    · exact fl_rnd _
  · obtain ⟨x, hx, y, hy, rfl | rfl⟩ := mem_prodParts hp
    · have := mulU_dvd (h.dvd x hx) (h2.dvd y hy) hd
      exact Int.dvd_sub this (dvd_rnd this)
    · exact dvd_rnd (mulU_dvd (h.dvd x hx) (h2.dvd y hy) hd)
  · rw [prodParts_length, Nat.pow_succ, Nat.pow_add]
    have := Nat.mul_le_mul h.len h2.len
    rw [Nat.mul_assoc]
    omega
  · obtain ⟨x, hx, y, hy, rfl | rfl⟩ := mem_prodParts hp
    · have h3 := mulU_le (h.dvd x hx) (h2.dvd y hy) hd (h.le x hx) (h2.le y hy) he
      have h4 := rnd_err (mulU x y)
      rw [Nat.pow_succ]
      omega
    · have h3 := mulU_le (h.dvd x hx) (h2.dvd y hy) hd (h.le x hx) (h2.le y hy) he
      have h4 := nrnd h3
      rw [Nat.pow_succ]
      omega

theorem rowParts_sum {x : Int} {ys : List Int} {a b : Nat} (hx : (2 : Int) ^ a ∣ x) (hy : ∀ y ∈ ys, (2 : Int) ^ b ∣ y) (hab : 1074 ≤ a + b) : (rowParts x ys).sum * 2 ^ 1074 = x * ys.sum := by
  induction ys with
  | nil => show (0 : Int) * _ = x * 0; rw [Int.zero_mul, Int.mul_zero]
  | cons y ys ih =>
    have e : rowParts x (y :: ys) = [mulU x y - rnd (mulU x y), rnd (mulU x y)] ++ rowParts x ys := by simp [rowParts]
    have hi := ih (fun z hz => hy z (by simp [hz]))
    have hm := mulU_eq hx (hy y (by simp)) hab
    generalize (2 : Int) ^ 1074 = E at *
    rw [e, List.sum_append, List.sum_cons, List.sum_cons, List.sum_cons, List.sum_nil, Int.mul_add, hm, ← hi, Int.add_mul]
    congr 2
    omega

theorem prodParts_sum {xs ys : List Int} {a b : Nat} (hx : ∀ x ∈ xs, (2 : Int) ^ a ∣ x) (hy : ∀ y ∈ ys, (2 : Int) ^ b ∣ y) (hab : 1074 ≤ a + b) : (prodParts xs ys).sum * 2 ^ 1074 = xs.sum * ys.sum := by
  induction xs with
  | nil => show (0 : Int) * _ = 0 * _; rw [Int.zero_mul, Int.zero_mul]
  | cons x xs ih =>
    have e : prodParts (x :: xs) ys = rowParts x ys ++ prodParts xs ys := by simp [prodParts]
    have hi := ih (fun z hz => hx z (by simp [hz]))
    have hr := rowParts_sum (hx x (by simp)) hy hab
    generalize (2 : Int) ^ 1074 = E at *
    rw [e, List.sum_append, List.sum_cons, Int.add_mul, Int.add_mul, hi, hr]

theorem lim_gen {n e u v : Nat} (h : n ≤ 2 ^ e) (he : e ≤ u) (huv : u + 12 ≤ v) : 2048 * n < 2 ^ v := by
  have h1 : 2 ^ e ≤ 2 ^ u := Nat.pow_le_pow_right (by decide) he
  have h2 : 2 ^ (u + 12) ≤ 2 ^ v := Nat.pow_le_pow_right (by decide) huv
  have h3 : 2 ^ (u + 12) = 2 ^ u * 4096 := Nat.pow_add ..
  have h4 := Nat.two_pow_pos u
  omega

theorem lim_of {n e : Nat} (h : n ≤ 2 ^ e) (he : e ≤ 2080) : 2048 * n < LIM := by
  unfold LIM
  exact lim_gen h he (by decide)

theorem len_of {n k : Nat} (h : n ≤ 2 ^ k) (hk : k ≤ 9) : n ≤ 512 := Nat.le_trans h (Nat.pow_le_pow_right (by decide) hk)

/-- 'Sum' of parts. -/
theorem sum_nm (v : Value) (base : Nat) (bs : List Nat) (xs : List Int) (d k e : Nat) (w : World) (hv : Num w base v bs) (his : IsL bs xs) (h : Pa xs d k e) (hk : k ≤ 9) (he : k + e ≤ 2080) :
    Calls Try.prog 38 #[v] w fun e' w' => ∃ v' cs, e' = .returned v' ∧ NumS w' w.heap.size v' cs ∧ IsL cs (sumAll xs) ∧ Below w.heap.size w w' := by
  have hl := len_of h.len hk
  rw [← his.length] at hl
  exact sum_any v base bs xs _ w hv (by omega) his (Nat.le_refl _) (lim_of h.abs he)

theorem product_nm (v v2 : Value) (base base2 : Nat) (bs cs : List Nat) (xs ys : List Int) (d1 k1 e1 d2 k2 e2 : Nat) (w : World) (hv : NumS w base v bs) (hv2 : NumS w base2 v2 cs) (his : IsL bs xs) (his2 : IsL cs ys)
    (h : Nm xs d1 k1 e1) (h2 : Nm ys d2 k2 e2) (hk : k1 + k2 ≤ 8) (hd : 1074 ≤ d1 + d2) (he : 1074 ≤ e1 + e2) (he2 : k1 + k2 + e1 + e2 ≤ 3000) :
    Calls Try.prog 28 #[v, v2] w fun e w' => ∃ v' ds, e = .returned v' ∧ NumS w' w.heap.size v' ds ∧ IsL ds (sumAll (prodParts xs ys)) ∧ Below w.heap.size w w' := by
  have hl := len_of h.len (by omega)
  have hl2 := len_of h2.len (by omega)
  rw [← his.length] at hl
  rw [← his2.length] at hl2
  have hp := h.prod h2 hd he
  refine product_any v v2 base base2 bs cs xs ys d1 d2 _ w hv hv2 (by omega) (by omega) ?_ his his2 h.dvd h2.dvd hd (fun x hx y hy => ?_) (Nat.le_refl _) (lim_of hp.abs (by omega))
  · have : bs.length * cs.length ≤ 512 * 512 := Nat.mul_le_mul hl hl2
    rw [Nat.mul_assoc]; omega
  · have h3 := mulU_le (h.dvd x hx) (h2.dvd y hy) hd (h.le x hx) (h2.le y hy) he
    have h4 := lim_of h3 (by omega)
    omega

theorem square_nm (v : Value) (base : Nat) (bs : List Nat) (xs : List Int) (d1 k1 e1 : Nat) (w : World) (hv : NumS w base v bs) (his : IsL bs xs)
    (h : Nm xs d1 k1 e1) (hk : k1 ≤ 4) (hd : 1074 ≤ d1 + d1) (he : 1074 ≤ e1 + e1) (he2 : e1 ≤ 1400) :
    Calls Try.prog 40 #[v] w fun e w' => ∃ v' ds, e = .returned v' ∧ NumS w' w.heap.size v' ds ∧ IsL ds (sumAll (prodParts xs xs)) ∧ Below w.heap.size w w' := by
  have hl : xs.length ≤ 2 ^ 4 := Nat.le_trans h.len (Nat.pow_le_pow_right (by decide) hk)
  rw [← his.length] at hl
  have hp := h.prod h hd he
  refine square_any v base bs xs d1 _ w hv (by omega) his h.dvd hd (fun x hx y hy => ?_) (Nat.le_refl _) (lim_of hp.abs (by omega))
  have h3 := mulU_le (h.dvd x hx) (h.dvd y hy) hd (h.le x hx) (h.le y hy) he
  have h4 := lim_of h3 (by omega)
  omega

end Go.Proofs.Ytbjjkfmdkmbcfaa
