import Derived.Test.YtbjjkfmdkmbcfaaJc
import Derived.Test.YtbjjkfmdkmbcfaaHj
namespace Go.Proofs.Ytbjjkfmdkmbcfaa
open PlRd (sgn)
open HL (Pt cr lx Btw Edge Ring)

theorem sgn_pos {x : Int} : 0 < sgn x ↔ 0 < x := by unfold PlRd.sgn; (repeat split) <;> omega
theorem sgn_le {x : Int} : sgn x ≤ 0 ↔ x ≤ 0 := by unfold PlRd.sgn; (repeat split) <;> omega
theorem sgn_eq0 {x : Int} : sgn x = 0 ↔ x = 0 := by unfold PlRd.sgn; (repeat split) <;> omega
theorem sgn_mul_le {x y : Int} (h : (x ≤ 0 ∧ 0 ≤ y) ∨ (0 ≤ x ∧ y ≤ 0)) : sgn x * sgn y ≤ 0 := by
  have px := sgn_pos (x := x)
  have py := sgn_pos (x := y)
  have nx := sgn_le (x := x)
  have ny := sgn_le (x := y)
  have zx := sgn_eq0 (x := x)
  have zy := sgn_eq0 (x := y)
  rcases h with h | h
  · have := Int.mul_nonneg (a := -sgn x) (b := sgn y) (by omega) (by omega)
    rw [Int.neg_mul] at this
    omega
  · have := Int.mul_nonneg (a := sgn x) (b := -sgn y) (by omega) (by omega)
    rw [Int.mul_neg] at this
    omega

/-- What lies on the line and between lies between in both coordinates. -/
theorem btw_both {a b q : Pt} (h0 : cr a b q = 0) (h : Btw a b q) : ((a.1 ≤ q.1 ∧ q.1 ≤ b.1) ∨ (b.1 ≤ q.1 ∧ q.1 ≤ a.1)) ∧ ((a.2 ≤ q.2 ∧ q.2 ≤ b.2) ∨ (b.2 ≤ q.2 ∧ q.2 ≤ a.2)) := by
  obtain ⟨a1, a2⟩ := a
  obtain ⟨b1, b2⟩ := b
  obtain ⟨q1, q2⟩ := q
  unfold cr at h0
  unfold Btw lx at h
  simp only at h0 h ⊢
  have e1 : (b1 - a1) * (q2 - a2) = (b2 - a2) * (q1 - a1) := by omega
  have e2 : (b1 - a1) * (b2 - q2) = (b2 - a2) * (b1 - q1) := by grind
  refine ⟨by omega, ?_⟩
  by_cases hx : a1 = b1
  · omega
  · rcases Int.lt_or_gt_of_ne hx with hx | hx
    · have hq : a1 ≤ q1 ∧ q1 ≤ b1 := by omega
      rcases Int.le_total a2 b2 with hy | hy
      · have n1 := Int.mul_nonneg (a := b2 - a2) (b := q1 - a1) (by omega) (by omega)
        have n2 := Int.mul_nonneg (a := b2 - a2) (b := b1 - q1) (by omega) (by omega)
        rw [← e1] at n1
        rw [← e2] at n2
        have := Int.nonneg_of_mul_nonneg_right n1 (by omega)
        have := Int.nonneg_of_mul_nonneg_right n2 (by omega)
        omega
      · have n1 := Int.mul_nonneg (a := a2 - b2) (b := q1 - a1) (by omega) (by omega)
        have n2 := Int.mul_nonneg (a := a2 - b2) (b := b1 - q1) (by omega) (by omega)
        rw [show (a2 - b2) * (q1 - a1) = (b1 - a1) * (a2 - q2) by grind] at n1
        rw [show (a2 - b2) * (b1 - q1) = (b1 - a1) * (q2 - b2) by grind] at n2
        have := Int.nonneg_of_mul_nonneg_right n1 (by omega)
        have := Int.nonneg_of_mul_nonneg_right n2 (by omega)
        omega
    · have hq : b1 ≤ q1 ∧ q1 ≤ a1 := by omega
      rcases Int.le_total a2 b2 with hy | hy
      · have n1 := Int.mul_nonneg (a := b2 - a2) (b := a1 - q1) (by omega) (by omega)
        have n2 := Int.mul_nonneg (a := b2 - a2) (b := q1 - b1) (by omega) (by omega)
        rw [show (b2 - a2) * (a1 - q1) = (a1 - b1) * (q2 - a2) by grind] at n1
        rw [show (b2 - a2) * (q1 - b1) = (a1 - b1) * (b2 - q2) by grind] at n2
        have := Int.nonneg_of_mul_nonneg_right n1 (by omega)
        have := Int.nonneg_of_mul_nonneg_right n2 (by omega)
        omega
      · have n1 := Int.mul_nonneg (a := a2 - b2) (b := a1 - q1) (by omega) (by omega)
        have n2 := Int.mul_nonneg (a := a2 - b2) (b := q1 - b1) (by omega) (by omega)
        rw [show (a2 - b2) * (a1 - q1) = (a1 - b1) * (a2 - q2) by grind] at n1
        rw [show (a2 - b2) * (q1 - b1) = (a1 - b1) * (q2 - b2) by grind] at n2
        have := Int.nonneg_of_mul_nonneg_right n1 (by omega)
        have := Int.nonneg_of_mul_nonneg_right n2 (by omega)
        omega

theorem on_of {a b q : Pt} (h0 : cr a b q = 0) (h : Btw a b q) : onP a.1 a.2 b.1 b.2 q.1 q.2 = true := by
  obtain ⟨h1, h2⟩ := btw_both h0 h
  unfold onP
  unfold cr at h0
  simp only [Bool.and_eq_true, decide_eq_true_eq]
  exact ⟨⟨sgn_eq0.2 h0, sgn_mul_le (by omega)⟩, sgn_mul_le (by omega)⟩

/-- A ring of corners, and a point that lies nowhere right of it. -/
structure Rg (R : Nat → Pt) (n : Nat) : Prop where
  edge : ∀ i, i < n → ∀ j, j < n → 0 ≤ cr (R i) (R ((i + 1) % n)) (R j) ∧ (cr (R i) (R ((i + 1) % n)) (R j) = 0 → Btw (R i) (R ((i + 1) % n)) (R j))
  apart : ∀ i, i < n → ∀ j, j < n → i ≠ j → R i ≠ R j

def Lf (R : Nat → Pt) (n : Nat) (p : Pt) : Prop := ∀ i, i < n → 0 ≤ cr (R i) (R ((i + 1) % n)) p ∧ (cr (R i) (R ((i + 1) % n)) p = 0 → Btw (R i) (R ((i + 1) % n)) p)

theorem Rg.lf {R : Nat → Pt} {n : Nat} (h : Rg R n) {j : Nat} (hj : j < n) : Lf R n (R j) := fun i hi => h.edge i hi j hj

/-- At a corner between two others it turns left. -/
theorem Rg.left {R : Nat → Pt} {n : Nat} (h : Rg R n) (hn : 2 < n) {i : Nat} (hi : i < n) : 0 < cr (R i) (R ((i + 1) % n)) (R ((i + 2) % n)) := by
  have hm1 : (i + 1) % n < n := Nat.mod_lt _ (by omega)
  have hm2 : (i + 2) % n < n := Nat.mod_lt _ (by omega)
  have e2 : ((i + 1) % n + 1) % n = (i + 2) % n := by rw [Nat.mod_add_mod]
  have n02 : i ≠ (i + 2) % n := by
    intro e
    by_cases hc : i + 2 < n
    · rw [Nat.mod_eq_of_lt hc] at e; omega
    · rw [Nat.mod_eq_sub_mod (by omega), Nat.mod_eq_of_lt (by omega)] at e; omega
  have h1 := h.edge i hi _ hm2
  have h2 := h.edge _ hm1 i hi
  rw [e2] at h2
  rcases Int.lt_or_eq_of_le h1.1 with g | g
  · exact g
  · exfalso
    have g := g.symm
    have b1 := btw_both g (h1.2 g)
    have g2 : cr (R ((i + 1) % n)) (R ((i + 2) % n)) (R i) = 0 := by rw [HL.cr_round]; exact g
    have b2 := btw_both g2 (h2.2 g2)
    refine h.apart i hi _ hm2 n02 (Prod.ext ?_ ?_)
    · omega
    · omega

theorem cr_cone (u v w p : Pt) : cr u v w * (p.2 - v.2) = cr v w p * (u.2 - v.2) + cr u v p * (w.2 - v.2) := by
  unfold cr
  grind

theorem least (n : Nat) (f : Nat → Int) (h : 0 < n) : ∃ i, i < n ∧ ∀ j, j < n → f i ≤ f j := by
  induction n with
  | zero => omega
  | succ n ih =>
    by_cases h0 : n = 0
    · subst h0; exact ⟨0, by omega, fun j hj => by rw [show j = 0 by omega]; exact Int.le_refl _⟩
    · obtain ⟨i, hi, H⟩ := ih (by omega)
      by_cases hc : f i ≤ f n
      · refine ⟨i, by omega, fun j hj => ?_⟩
        by_cases hjn : j = n
        · rw [hjn]; exact hc
        · exact H j (by omega)
      · refine ⟨n, by omega, fun j hj => ?_⟩
        by_cases hjn : j = n
        · rw [hjn]; exact Int.le_refl _
        · have := H j (by omega); omega

theorem two_on {R : Nat → Pt} {p : Pt} (hp : Lf R 2 p) : onP (R 0).1 (R 0).2 (R 1).1 (R 1).2 p.1 p.2 = true := by
  have h0 := hp 0 (by omega)
  have h1 := hp 1 (by omega)
  simp only [Nat.zero_add, show (1 : Nat) % 2 = 1 by rfl, show (1 + 1) % 2 = 0 by rfl] at h0 h1
  have e : cr (R 1) (R 0) p = - cr (R 0) (R 1) p := by unfold cr; grind
  have g : cr (R 0) (R 1) p = 0 := by omega
  exact on_of g (h0.2 g)

/-- Some corner lies higher than the point, some other does not. -/
theorem above {R : Nat → Pt} {n : Nat} {p : Pt} (h : Rg R n) (hn : 2 < n) (hp : Lf R n p) (hoff : ∀ j, j < n → edgeOn R n p j = false) : (∃ i, i < n ∧ (R i).2 ≤ p.2) ∧ ∃ i, i < n ∧ p.2 < (R i).2 := by
  have pre : ∀ i, i < n → ∃ k, k < n ∧ (k + 1) % n = i ∧ (k + 2) % n = (i + 1) % n := fun i hi => by
    refine ⟨preI n i, preI_lt i (by omega), preI_next hi, ?_⟩
    rw [← preI_next hi, Nat.mod_add_mod, preI_next hi]
  have pos : ∀ k, k < n → 0 < cr (R k) (R ((k + 1) % n)) p := fun k hk => by
    rcases Int.lt_or_eq_of_le (hp k hk).1 with g | g
    · exact g
    · have h9 := on_of g.symm ((hp k hk).2 g.symm)
      have h8 := hoff k hk
      unfold edgeOn at h8
      rw [h8] at h9
      cases h9
  constructor
  · obtain ⟨i, hi, hl⟩ := least n (fun j => (R j).2) (by omega)
    by_cases hc : (R i).2 ≤ p.2
    · exact ⟨i, hi, hc⟩
    · exfalso
      obtain ⟨k, hk, e1, e2⟩ := pre i hi
      have l := h.left hn hk
      have c := cr_cone (R k) (R i) (R ((i + 1) % n)) p
      have p1 := pos k hk
      have p2 := pos i hi
      rw [e1, e2] at l
      rw [e1] at p1
      have y1 := hl k hk
      have y2 := hl ((i + 1) % n) (Nat.mod_lt _ (by omega))
      have t1 := Int.mul_nonneg (Int.le_of_lt p2) (by omega : 0 ≤ (R k).2 - (R i).2)
      have t2 := Int.mul_nonneg (Int.le_of_lt p1) (by omega : 0 ≤ (R ((i + 1) % n)).2 - (R i).2)
      have t3 := Int.mul_neg_of_pos_of_neg l (by omega : p.2 - (R i).2 < 0)
      omega
  · obtain ⟨i, hi, hl⟩ := least n (fun j => -(R j).2) (by omega)
    by_cases hc : p.2 < (R i).2
    · exact ⟨i, hi, hc⟩
    · exfalso
      obtain ⟨k, hk, e1, e2⟩ := pre i hi
      have l := h.left hn hk
      have c := cr_cone (R k) (R i) (R ((i + 1) % n)) p
      have p1 := pos k hk
      have p2 := pos i hi
      rw [e1, e2] at l
      rw [e1] at p1
      have y1 := hl k hk
      have y2 := hl ((i + 1) % n) (Nat.mod_lt _ (by omega))
      have t3 := Int.mul_nonneg (Int.le_of_lt l) (by omega : 0 ≤ p.2 - (R i).2)
      have l0 : cr (R k) (R i) (R ((i + 1) % n)) = ((R i).1 - (R k).1) * ((R ((i + 1) % n)).2 - (R i).2) - ((R i).2 - (R k).2) * ((R ((i + 1) % n)).1 - (R i).1) := by unfold cr; grind
      by_cases z1 : (R k).2 = (R i).2
      · by_cases z2 : (R ((i + 1) % n)).2 = (R i).2
        · rw [l0, z1, z2] at l
          simp at l
        · have t2 := Int.mul_neg_of_pos_of_neg p1 (by omega : (R ((i + 1) % n)).2 - (R i).2 < 0)
          rw [z1, Int.sub_self, Int.mul_zero] at c
          omega
      · have t1 := Int.mul_neg_of_pos_of_neg p2 (by omega : (R k).2 - (R i).2 < 0)
        have t2 := Int.mul_nonneg (Int.le_of_lt p1) (by omega : 0 ≤ (R i).2 - (R ((i + 1) % n)).2)
        have t4 : cr (R k) (R i) p * ((R i).2 - (R ((i + 1) % n)).2) = -(cr (R k) (R i) p * ((R ((i + 1) % n)).2 - (R i).2)) := by grind
        omega

/-- Going round from a low corner one comes to an edge that rises past the height. -/
theorem rise {n : Nat} (f : Nat → Int) (c : Int) {i j : Nat} (hi : i < n) (hj : j < n) (h1 : f i ≤ c) (h2 : c < f j) : ∃ k, k < n ∧ f k ≤ c ∧ c < f ((k + 1) % n) := by
  have hn : 0 < n := by omega
  apply Classical.byContradiction
  intro hno
  have H : ∀ t, f ((i + t) % n) ≤ c := by
    intro t
    induction t with
    | zero => rw [Nat.add_zero, Nat.mod_eq_of_lt hi]; exact h1
    | succ t ih =>
      have hlt := Nat.mod_lt (i + t) hn
      rw [← Int.not_lt]
      intro hc
      refine hno ⟨(i + t) % n, hlt, ih, ?_⟩
      rw [Nat.mod_add_mod]
      exact hc
  have h3 := H (n - i + j)
  rw [show i + (n - i + j) = j + n by omega, Nat.add_mod_right, Nat.mod_eq_of_lt hj] at h3
  omega

theorem cr_two (u v u' v' : Pt) (h : Int) : ((v'.2 - h) * cr u v u' + (h - u'.2) * cr u v v') + ((v.2 - h) * cr u' v' u + (h - u.2) * cr u' v' v) = 0 := by
  unfold cr
  grind

theorem rise_one {R : Nat → Pt} {n : Nat} {h : Int} (H : Rg R n) {i j : Nat} (hi : i < n) (hj : j < n) (a1 : (R i).2 ≤ h) (a2 : h < (R ((i + 1) % n)).2) (b1 : (R j).2 ≤ h) (b2 : h < (R ((j + 1) % n)).2) : i = j := by
  apply Classical.byContradiction
  intro hne
  have hi1 : (i + 1) % n < n := Nat.mod_lt _ (by omega)
  have hj1 : (j + 1) % n < n := Nat.mod_lt _ (by omega)
  have c := cr_two (R i) (R ((i + 1) % n)) (R j) (R ((j + 1) % n)) h
  have u1 := H.edge i hi j hj
  have u2 := H.edge i hi _ hj1
  have w1 := H.edge j hj i hi
  have w2 := H.edge j hj _ hi1
  have t2 := Int.mul_nonneg (by omega : 0 ≤ h - (R j).2) u2.1
  have t4 := Int.mul_nonneg (by omega : 0 ≤ h - (R i).2) w2.1
  have t1 := Int.mul_nonneg (by omega : 0 ≤ (R ((j + 1) % n)).2 - h) u1.1
  have t3 := Int.mul_nonneg (by omega : 0 ≤ (R ((i + 1) % n)).2 - h) w1.1
  have z1 : cr (R i) (R ((i + 1) % n)) (R j) = 0 := by
    rcases Int.lt_or_eq_of_le u1.1 with g | g
    · have := Int.mul_pos (by omega : 0 < (R ((j + 1) % n)).2 - h) g
      omega
    · exact g.symm
  have z2 : cr (R j) (R ((j + 1) % n)) (R i) = 0 := by
    rcases Int.lt_or_eq_of_le w1.1 with g | g
    · have := Int.mul_pos (by omega : 0 < (R ((i + 1) % n)).2 - h) g
      omega
    · exact g.symm
  have k1 := (btw_both z1 (u1.2 z1)).2
  have k2 := (btw_both z2 (w1.2 z2)).2
  have y : (R i).2 = (R j).2 := by omega
  refine H.apart i hi j hj hne (Prod.ext ?_ y)
  unfold cr at z1
  rw [← y, Int.sub_self, Int.mul_zero, Int.zero_sub, Int.neg_eq_zero] at z1
  rcases Int.mul_eq_zero.1 z1 with g | g <;> omega

theorem crs_pos {u v p : Pt} (h : 0 ≤ cr u v p) (hon : onP u.1 u.2 v.1 v.2 p.1 p.2 = false) (hb : cr u v p = 0 → Btw u v p) : (0 < crsT u.1 u.2 v.1 v.2 p.1 p.2) ↔ (u.2 ≤ p.2 ∧ p.2 < v.2) := by
  have h0 : 0 < cr u v p := by
    rcases Int.lt_or_eq_of_le h with g | g
    · exact g
    · rw [on_of g.symm (hb g.symm)] at hon; cases hon
  have e1 : trnS u.1 u.2 v.1 v.2 p.1 p.2 = sgn (cr u v p) := rfl
  have e2 : trnS v.1 v.2 u.1 u.2 p.1 p.2 = sgn (-cr u v p) := by unfold trnS cr; congr 1; grind
  unfold crsT crsC
  rw [e1, e2]
  have a := sgn_pos (x := v.2 - p.2)
  have b := sgn_le (x := u.2 - p.2)
  have c := sgn_pos (x := u.2 - p.2)
  have d := sgn_pos (x := cr u v p)
  have f := sgn_pos (x := -cr u v p)
  split
  · rename_i g
    have := a.1 g.1
    have := b.1 g.2
    rw [d]
    omega
  · rename_i g
    have g2 : ¬ (u.2 ≤ p.2 ∧ p.2 < v.2) := fun k => g ⟨a.2 (by omega), b.2 (by omega)⟩
    split
    · rw [f]; omega
    · omega

theorem crsN_one {R : Nat → Pt} {n : Nat} {p : Pt} {k : Nat} (H : ∀ i, i < n → ((0 < crsT (R i).1 (R i).2 (R ((i + 1) % n)).1 (R ((i + 1) % n)).2 p.1 p.2) ↔ i = k)) : ∀ m, m ≤ n → crsN R n p m = if k < m then 1 else 0 := by
  intro m
  induction m with
  | zero => intro _; rfl
  | succ m ih =>
    intro hm
    have h := H m (by omega)
    rw [crsN, ih (by omega)]
    by_cases e : m = k
    · rw [if_pos (h.2 e), if_neg (by omega), if_pos (by omega)]
    · rw [if_neg (fun g => e (h.1 g))]
      by_cases g : k < m
      · rw [if_pos g, if_pos (by omega)]
      · rw [if_neg g, if_neg (by omega)]

/-- A point that lies nowhere right of the ring lies inside or on it. -/
theorem ins_ring {R : Nat → Pt} {n : Nat} {p : Pt} (h : Rg R n) (hn : 2 ≤ n) (hp : Lf R n p) : 0 ≤ insV R n p := by
  by_cases hoff : ∀ j, j < n → edgeOn R n p j = false
  · rw [ins_off hoff]
    by_cases h2 : n = 2
    · subst h2
      have h9 := two_on hp
      have h8 := hoff 0 (by omega)
      unfold edgeOn at h8
      rw [show (0 + 1) % 2 = 1 from rfl, h9] at h8
      cases h8
    · obtain ⟨⟨i, hi, a⟩, ⟨j, hj, b⟩⟩ := above h (by omega) hp hoff
      obtain ⟨k, hk, k1, k2⟩ := rise (fun t => (R t).2) p.2 hi hj a b
      have H : ∀ i, i < n → ((0 < crsT (R i).1 (R i).2 (R ((i + 1) % n)).1 (R ((i + 1) % n)).2 p.1 p.2) ↔ i = k) := by
        intro i hi
        have e := hoff i hi
        unfold edgeOn at e
        rw [crs_pos (hp i hi).1 e (hp i hi).2]
        constructor
        · rintro ⟨c1, c2⟩
          exact rise_one h hi hk c1 c2 k1 k2
        · rintro rfl
          exact ⟨k1, k2⟩
      rw [crsN_one H n (Nat.le_refl _), if_pos hk]
      decide
  · have ⟨j, hj⟩ := Classical.not_forall.1 hoff
    have ⟨hj, hj2⟩ := Classical.not_imp.1 hj
    rw [ins_on hj (by simpa using hj2)]
    exact Int.le_refl _

end Go.Proofs.Ytbjjkfmdkmbcfaa
