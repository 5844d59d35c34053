import Derived.Test.YtbjjkfmdkmbcfaaGreatMUv
namespace Go.Proofs.YtbjjkfmdkmbcfaaGreat
open Go.RowKit
open PlRd

/-- What a number is multiplied by at level l: each product takes one step. -/
def UU (l : Nat) : Int := 2 ^ (1074 * l)

theorem UU_pos (l : Nat) : 0 < UU l := two_pow_pos _
theorem UU_zero : UU 0 = 1 := rfl
theorem UU_mul (a b : Nat) : UU (a + b + 1) = 2 ^ 1074 * (UU a * UU b) := by
  unfold UU
  rw [show 1074 * (a + b + 1) = 1074 + (1074 * a + 1074 * b) by omega, Int.pow_add, Int.pow_add]

/-- The slice v holds parts whose sum is x (at level l). -/
def Pv (w : World) (v : Value) (l : Nat) (x : Int) (d k e : Nat) : Prop := ∃ bs xs, NumS w 0 v bs ∧ IsL bs xs ∧ Pa xs d k e ∧ xs.sum * UU l = x

/-- The same, and the parts do not reach into one another. -/
def Nv (w : World) (v : Value) (l : Nat) (x : Int) (d k e : Nat) : Prop := ∃ bs xs, NumS w 0 v bs ∧ IsL bs xs ∧ Nm xs d k e ∧ xs.sum * UU l = x

theorem Nv.toPv {w : World} {v : Value} {l : Nat} {x : Int} {d k e : Nat} (h : Nv w v l x d k e) : Pv w v l x d k e := by
  obtain ⟨bs, xs, h1, h2, h3, h4⟩ := h
  exact ⟨bs, xs, h1, h2, h3.toPa, h4⟩

theorem Nv.kept {w w' : World} {v : Value} {l : Nat} {x : Int} {d k e : Nat} (h : Nv w v l x d k e) (hb : Below w.heap.size w w') : Nv w' v l x d k e := by
  obtain ⟨bs, xs, h1, h2, h3, h4⟩ := h
  exact ⟨bs, xs, h1.kept hb, h2, h3, h4⟩

theorem Pv.kept {w w' : World} {v : Value} {l : Nat} {x : Int} {d k e : Nat} (h : Pv w v l x d k e) (hb : Below w.heap.size w w') : Pv w' v l x d k e := by
  obtain ⟨bs, xs, h1, h2, h3, h4⟩ := h
  exact ⟨bs, xs, h1.kept hb, h2, h3, h4⟩

theorem Nv.form {w : World} {v : Value} {l : Nat} {x : Int} {d k e : Nat} (h : Nv w v l x d k e) : ∃ g n c, v = .slice (some ⟨g, 0, none⟩) n c := by
  obtain ⟨bs, xs, h1, _⟩ := h
  obtain ⟨g, c, rfl, _⟩ := h1.cases
  exact ⟨g, _, c, rfl⟩

theorem Pv.form {w : World} {v : Value} {l : Nat} {x : Int} {d k e : Nat} (h : Pv w v l x d k e) : ∃ g n c, v = .slice (some ⟨g, 0, none⟩) n c := by
  obtain ⟨bs, xs, h1, _⟩ := h
  obtain ⟨g, c, rfl, _⟩ := h1.cases
  exact ⟨g, _, c, rfl⟩

theorem Pa.weaken {ps : List Int} {d k e k2 : Nat} (h : Pa ps d k e) (hk : k ≤ k2) : Pa ps d k2 e :=
  ⟨h.fl, h.dvd, Nat.le_trans h.len (Nat.pow_le_pow_right (by decide) hk), h.le⟩

/-- 'Sum(x, y)' of two coordinates. -/
theorem sum2_nv (g x y : Nat) (X Y : Int) (w : World) (hc0 : w.cell? ⟨g, 0, none⟩ = some (.float .f64 x)) (hc1 : w.cell? ⟨g, 1, none⟩ = some (.float .f64 y)) (hg : g < w.heap.size) (hx : Co x X) (hy : Co y Y) :
    Calls Tryz.prog 56 #[.slice (some ⟨g, 0, none⟩) 2 2] w fun e w' => ∃ v', e = .returned v' ∧ Nv w' v' 0 (X + Y) 974 1 1176 ∧ Below w.heap.size w w' := by
  refine (sum2 g x y X Y w hc0 hc1 hg hx hy).mono ?_
  rintro e w' ⟨v', cs, rfl, h1, h2, h3⟩
  refine ⟨v', rfl, ⟨cs, _, h1.base (Nat.zero_le _), h2, nm_two hx hy, ?_⟩, h3⟩
  rw [sumAll_sum, UU_zero]; simp

theorem mul_sum {xs ys : List Int} {x y : Int} {l m a b : Nat} (hx : ∀ t ∈ xs, (2 : Int) ^ a ∣ t) (hy : ∀ t ∈ ys, (2 : Int) ^ b ∣ t) (hab : 1074 ≤ a + b) (h : xs.sum * UU l = x) (h2 : ys.sum * UU m = y) : (sumAll (prodParts xs ys)).sum * UU (l + m + 1) = x * y := by
  have h3 := prodParts_sum hx hy hab
  rw [sumAll_sum, UU_mul, ← Int.mul_assoc, h3, ← h, ← h2]
  generalize UU l = p
  generalize UU m = q
  generalize xs.sum = s
  generalize ys.sum = t
  rw [Int.mul_assoc, Int.mul_assoc]
  congr 1
  rw [← Int.mul_assoc, Int.mul_comm t p, Int.mul_assoc]

theorem product_nv (v v2 : Value) (l l2 : Nat) (x y : Int) (d1 k1 e1 d2 k2 e2 : Nat) (w : World) (hv : Nv w v l x d1 k1 e1) (hv2 : Nv w v2 l2 y d2 k2 e2) (hk : k1 + k2 ≤ 8) (hd : 1074 ≤ d1 + d2) (he : 1074 ≤ e1 + e2) (he2 : k1 + k2 + e1 + e2 ≤ 3000) :
    Calls Tryz.prog 42 #[v, v2] w fun e w' => ∃ v', e = .returned v' ∧ Nv w' v' (l + l2 + 1) (x * y) (d1 + d2 - 1074) (k1 + k2 + 1) (k1 + k2 + 1 + (e1 + e2 - 1074 + 1) + 1) ∧ Below w.heap.size w w' := by
  obtain ⟨bs, xs, h1, h2, h3, h4⟩ := hv
  obtain ⟨cs, ys, g1, g2, g3, g4⟩ := hv2
  refine (product_nm v v2 0 0 bs cs xs ys d1 k1 e1 d2 k2 e2 w h1 g1 h2 g2 h3 g3 hk hd he he2).mono ?_
  rintro e w' ⟨v', ds, rfl, q1, q2, q3⟩
  exact ⟨v', rfl, ⟨ds, _, q1.base (Nat.zero_le _), q2, (h3.prod g3 hd he).sum, mul_sum h3.dvd g3.dvd hd h4 g4⟩, q3⟩

theorem square_nv (v : Value) (l : Nat) (x : Int) (d1 k1 e1 : Nat) (w : World) (hv : Nv w v l x d1 k1 e1) (hk : k1 ≤ 4) (hd : 1074 ≤ d1 + d1) (he : 1074 ≤ e1 + e1) (he2 : e1 ≤ 1400) :
    Calls Tryz.prog 55 #[v] w fun e w' => ∃ v', e = .returned v' ∧ Nv w' v' (l + l + 1) (x * x) (d1 + d1 - 1074) (k1 + k1 + 1) (k1 + k1 + 1 + (e1 + e1 - 1074 + 1) + 1) ∧ Below w.heap.size w w' := by
  obtain ⟨bs, xs, h1, h2, h3, h4⟩ := hv
  refine (square_nm v 0 bs xs d1 k1 e1 w h1 h2 h3 hk hd he he2).mono ?_
  rintro e w' ⟨v', ds, rfl, q1, q2, q3⟩
  exact ⟨v', rfl, ⟨ds, _, q1.base (Nat.zero_le _), q2, (h3.prod h3 hd he).sum, mul_sum h3.dvd h3.dvd hd h4 h4⟩, q3⟩

theorem negative_nv (v : Value) (l : Nat) (x : Int) (d k e : Nat) (w : World) (hv : Nv w v l x d k e) (hk : k ≤ 9) :
    Calls Tryz.prog 40 #[v] w fun e' w' => ∃ v', e' = .returned v' ∧ Pv w' v' l (-x) d k e ∧ Below w.heap.size w w' := by
  obtain ⟨bs, xs, h1, h2, h3, h4⟩ := hv
  have hl := len_of h3.len hk
  rw [← h2.length] at hl
  refine (negative_any v 0 bs w h1.1 (by omega)).mono ?_
  rintro e w' ⟨v', rfl, q1, q2⟩
  exact ⟨v', rfl, ⟨_, _, q1.base (Nat.zero_le _), negs_is h2, h3.toPa.neg, by rw [sum_neg, Int.neg_mul, h4]⟩, q2⟩

theorem total2_nv (v1 v2 : Value) (l : Nat) (x y : Int) (d k e : Nat) (w : World) (t : TypeId) (h1 : Pv w v1 l x d k e) (h2 : Pv w v2 l y d k e) (hk : k ≤ 8) (he : k + 1 + e ≤ 2080) :
    Calls Tryz.prog 39 #[.slice (some ⟨w.heap.size, 0, none⟩) 2 2] (w.alloc (.cells #[v1, v2] t)) fun e' w' => ∃ v', e' = .returned v' ∧ Nv w' v' l (x + y) d (k + 1) (k + 1 + e + 1) ∧ Below w.heap.size w w' := by
  obtain ⟨bs, xs, h11, h12, h13, h14⟩ := h1
  obtain ⟨cs, ys, h21, h22, h23, h24⟩ := h2
  refine (total2 v1 v2 bs cs xs ys d k e w t h11 h21 h12 h22 h13 h23 hk he).mono ?_
  rintro e' w' ⟨v', ds, rfl, q1, q2, q3⟩
  refine ⟨v', rfl, ⟨ds, _, q1, q2, (h13.append h23).sum, ?_⟩, q3⟩
  rw [sumAll_sum, List.sum_append, Int.add_mul, h14, h24]

theorem terms3 {w : World} {v1 v2 v3 : Value} {bs cs ds : List Nat} {xs ys zs : List Int} (hn1 : NumS w 0 v1 bs) (hn2 : NumS w 0 v2 cs) (hn3 : NumS w 0 v3 ds) (h1 : IsL bs xs) (h2 : IsL cs ys) (h3 : IsL ds zs) (t : TypeId) : Terms (w.alloc (.cells #[v1, v2, v3] t)) w.heap.size 3 [v1, v2, v3] [bs, cs, ds] [xs, ys, zs] := by
  refine ⟨rfl, rfl, rfl, by simp, fun i hi => ?_, fun i hi => ?_, fun i hi => ?_⟩
  all_goals
    match i, hi with
    | 0, _ => first | exact hn1.alloc _ | exact h1 | simp [go_sem]
    | 1, _ => first | exact hn2.alloc _ | exact h2 | simp [go_sem]
    | 2, _ => first | exact hn3.alloc _ | exact h3 | simp [go_sem]

theorem total3_nv (v1 v2 v3 : Value) (l : Nat) (x y z : Int) (d k e : Nat) (w : World) (t : TypeId) (h1 : Pv w v1 l x d k e) (h2 : Pv w v2 l y d k e) (h3 : Pv w v3 l z d k e) (hk : k ≤ 9) (he : k + 2 + e ≤ 2080) :
    Calls Tryz.prog 39 #[.slice (some ⟨w.heap.size, 0, none⟩) 3 3] (w.alloc (.cells #[v1, v2, v3] t)) fun e' w' => ∃ v', e' = .returned v' ∧ Nv w' v' l (x + y + z) d (k + 2) (k + 2 + e + 1) ∧ Below w.heap.size w w' := by
  obtain ⟨bs, xs, h11, h12, h13, h14⟩ := h1
  obtain ⟨cs, ys, h21, h22, h23, h24⟩ := h2
  obtain ⟨ds, zs, h31, h32, h33, h34⟩ := h3
  have ef : [xs, ys, zs].flatten = (xs ++ ys) ++ zs := by simp
  have hp := (h13.append h23).append (h33.weaken (Nat.le_succ k))
  have l1 := len_of h13.len (by omega)
  have l2 := len_of h23.len (by omega)
  have l3 := len_of h33.len (by omega)
  rw [← h12.length] at l1
  rw [← h22.length] at l2
  rw [← h32.length] at l3
  refine (total_any w.heap.size 3 3 [v1, v2, v3] [bs, cs, ds] [xs, ys, zs] _ (w.alloc (.cells #[v1, v2, v3] t)) (by decide) (terms3 h11 h21 h31 h12 h22 h32 t) (by simp; omega) (Nat.le_refl _) (by rw [ef]; exact lim_of hp.abs (by omega))).mono ?_
  rintro e' w' ⟨v', qs, rfl, q1, q2, q3⟩
  rw [ef] at q2
  refine ⟨v', rfl, ⟨qs, _, q1.base (Nat.zero_le _), q2, hp.sum, ?_⟩, ((Below.refl _ w).alloc (Nat.le_refl _) _).trans (q3.mono (by simp))⟩
  rw [sumAll_sum, List.sum_append, List.sum_append, Int.add_mul, Int.add_mul, h14, h24, h34]

theorem sgn_UU {x y : Int} {l : Nat} (h : x * UU l = y) : sgn x = sgn y := by
  rw [← h]
  unfold sgn
  have hc := UU_pos l
  generalize UU l = c at *
  have h1 : (0 < x * c) ↔ 0 < x := by
    have := Int.mul_lt_mul_right (a := c) (b := 0) (c := x) hc
    rw [Int.zero_mul] at this
    exact this
  have h2 : (x * c < 0) ↔ x < 0 := by
    have := Int.mul_lt_mul_right (a := c) (b := x) (c := 0) hc
    rw [Int.zero_mul] at this
    exact this
  simp only [h1, h2]

theorem sign_nv (v : Value) (l : Nat) (x : Int) (d k e : Nat) (w : World) (hv : Nv w v l x d k e) (hk : k ≤ 12) :
    Calls Tryz.prog 41 #[v] w fun e' w' => e' = .returned (.int .i64 (sgn x)) ∧ w' = w := by
  obtain ⟨bs, xs, h1, h2, h3, h4⟩ := hv
  have hl : xs.length ≤ 2 ^ 12 := Nat.le_trans h3.len (Nat.pow_le_pow_right (by decide) hk)
  rw [← h2.length] at hl
  rw [← sgn_UU h4]
  exact sign_any v 0 bs xs w h1.1 (by omega) h2 h3.no

end Go.Proofs.YtbjjkfmdkmbcfaaGreat
