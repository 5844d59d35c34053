import Derived.Test.YtbjjkfmdkmbcfaaNm
import Derived.Deep.RegionHeld3
import Derived.Deep.DeepCutAuto
import Derived.Deep.DrawnRows
namespace Go.Proofs.Ytbjjkfmdkmbcfaa
open Go.RowKit
open PlRd

attribute [local go_sem ↓] Go.wp_at_zero Go.wp_at_succ

/-- A coordinate that may be, in units. -/
def Co (b : Nat) (x : Int) : Prop := Is b x ∧ (2 : Int) ^ 974 ∣ x ∧ x.natAbs ≤ 2 ^ 1174

theorem Co.neg {b : Nat} {x : Int} (h : Co b x) : Co (b ^^^ 9223372036854775808) (-x) :=
  ⟨is_neg h.1, Int.dvd_neg.2 h.2.1, by rw [Int.natAbs_neg]; exact h.2.2⟩

theorem pa_two {a b : Nat} {x y : Int} (h : Co a x) (h2 : Co b y) : Pa [x, y] 974 1 1174 := by
  refine ⟨?_, ?_, by simp, ?_⟩
  · intro p hp; simp at hp; rcases hp with rfl | rfl
    · exact h.1.fl
    · exact h2.1.fl
  · intro p hp; simp at hp; rcases hp with rfl | rfl
    · exact h.2.1
    · exact h2.2.1
  · intro p hp; simp at hp; rcases hp with rfl | rfl
    · exact h.2.2
    · exact h2.2.2

/-- 'Sum(x, y)' of two coordinates. -/
theorem sum2 (g x y : Nat) (X Y : Int) (w : World) (hc0 : w.cell? ⟨g, 0, none⟩ = some (.float .f64 x)) (hc1 : w.cell? ⟨g, 1, none⟩ = some (.float .f64 y)) (hg : g < w.heap.size) (hx : Co x X) (hy : Co y Y) :
    Calls Try.prog 38 #[.slice (some ⟨g, 0, none⟩) 2 2] w fun e w' => ∃ v' cs, e = .returned v' ∧ NumS w' w.heap.size v' cs ∧ IsL cs (sumAll [X, Y]) ∧ Below w.heap.size w w' := by
  refine sum_walk g 2 2 [x, y] [X, Y] _ w rfl (by decide) (fun t ht => ?_) hg ⟨hx.1, hy.1, trivial⟩ (Nat.le_refl _) (lim_of (pa_two hx hy).abs (by decide))
  match t, ht with
  | 0, _ => exact hc0
  | 1, _ => exact hc1

theorem nm_two {a b : Nat} {x y : Int} (h : Co a x) (h2 : Co b y) : Nm (sumAll [x, y]) 974 1 1176 := (pa_two h h2).sum

/-- The product of two differences. -/
theorem prod2 (v v2 : Value) (base base2 : Nat) (bs cs : List Nat) (xs ys : List Int) (w : World) (hv : NumS w base v bs) (hv2 : NumS w base2 v2 cs) (his : IsL bs xs) (his2 : IsL cs ys) (h : Nm xs 974 1 1176) (h2 : Nm ys 974 1 1176) :
    Calls Try.prog 28 #[v, v2] w fun e w' => ∃ v' ds, e = .returned v' ∧ NumS w' w.heap.size v' ds ∧ IsL ds (sumAll (prodParts xs ys)) ∧ Below w.heap.size w w' :=
  product_nm v v2 base base2 bs cs xs ys 974 1 1176 974 1 1176 w hv hv2 his his2 h h2 (by decide) (by decide) (by decide) (by decide)

theorem bcell {W w1 : World} (hb : Below W.heap.size W w1) : (∀ b o, b < W.heap.size → w1.cell? ⟨b, o, none⟩ = W.cell? ⟨b, o, none⟩) ∧ (∀ b o, b < W.heap.size → w1.frozen? ⟨b, o, none⟩ = W.frozen? ⟨b, o, none⟩) :=
  ⟨fun b o h => hb.cell (p := ⟨b, o, none⟩) h, fun b o h => hb.frozen (p := ⟨b, o, none⟩) h⟩

theorem below_step {W X w1 : World} (hb : Below X.heap.size X w1) (h : Below W.heap.size W X) : Below W.heap.size W w1 := h.trans (hb.mono h.size)

theorem kept_alloc {W w2 : World} {o : Obj} {base : Nat} {v : Value} {bs : List Nat} (h : NumS W base v bs) (hb : Below (W.alloc o).heap.size (W.alloc o) w2) : NumS w2 base v bs :=
  h.kept (((Below.refl _ W).alloc (Nat.le_refl _) o).trans (hb.mono (by simp)))

theorem NumS.alloc {w : World} {b : Nat} {v : Value} {bs : List Nat} (h : NumS w b v bs) (o : Obj) : NumS (w.alloc o) b v bs := h.kept ((Below.refl _ w).alloc (Nat.le_refl _) o)

theorem terms2 {w : World} {v1 v2 : Value} {bs cs : List Nat} {xs ys : List Int} (hn1 : NumS w 0 v1 bs) (hn2 : NumS w 0 v2 cs) (h1 : IsL bs xs) (h2 : IsL cs ys) (t : TypeId) : Terms (w.alloc (.cells #[v1, v2] t)) w.heap.size 2 [v1, v2] [bs, cs] [xs, ys] := by
  refine ⟨rfl, rfl, rfl, by simp, fun i hi => ?_, fun i hi => ?_, fun i hi => ?_⟩
  all_goals
    match i, hi with
    | 0, _ => first | exact hn1.alloc _ | exact h1 | simp [go_sem]
    | 1, _ => first | exact hn2.alloc _ | exact h2 | simp [go_sem]

/-- 'Total(m, n)'. -/
theorem total2a (v1 v2 : Value) (bs cs : List Nat) (xs ys : List Int) (d k e : Nat) (w : World) (t : TypeId) (hn1 : NumS w 0 v1 bs) (hn2 : NumS w 0 v2 cs) (h1 : IsL bs xs) (h2 : IsL cs ys) (p1 : Pa xs d k e) (p2 : Pa ys d k e) (hk : k ≤ 8) (he : k + 1 + e ≤ 2080) :
    Calls Try.prog 27 #[.slice (some ⟨w.heap.size, 0, none⟩) 2 2] (w.alloc (.cells #[v1, v2] t)) fun e' w' => ∃ v' ds, e' = .returned v' ∧ NumS w' 0 v' ds ∧ IsL ds (sumAll (xs ++ ys)) ∧ Below (w.alloc (.cells #[v1, v2] t)).heap.size (w.alloc (.cells #[v1, v2] t)) w' := by
  have ef : [xs, ys].flatten = xs ++ ys := by simp
  have hp := p1.append p2
  have l1 := len_of p1.len (by omega)
  have l2 := len_of p2.len (by omega)
  rw [← h1.length] at l1
  rw [← h2.length] at l2
  have := total_any w.heap.size 2 2 [v1, v2] [bs, cs] [xs, ys] _ (w.alloc (.cells #[v1, v2] t)) (by decide) (terms2 hn1 hn2 h1 h2 t) (by simp; omega) (Nat.le_refl _) (by rw [ef]; exact lim_of hp.abs he)
  refine this.mono ?_
  rintro e' w' ⟨v', ds, rfl, hn, hi, hb⟩
  rw [ef] at hi
  exact ⟨v', ds, rfl, hn.base (Nat.zero_le _), hi, hb⟩

theorem total2 (v1 v2 : Value) (bs cs : List Nat) (xs ys : List Int) (d k e : Nat) (w : World) (t : TypeId) (hn1 : NumS w 0 v1 bs) (hn2 : NumS w 0 v2 cs) (h1 : IsL bs xs) (h2 : IsL cs ys) (p1 : Pa xs d k e) (p2 : Pa ys d k e) (hk : k ≤ 8) (he : k + 1 + e ≤ 2080) :
    Calls Try.prog 27 #[.slice (some ⟨w.heap.size, 0, none⟩) 2 2] (w.alloc (.cells #[v1, v2] t)) fun e' w' => ∃ v' ds, e' = .returned v' ∧ NumS w' 0 v' ds ∧ IsL ds (sumAll (xs ++ ys)) ∧ Below w.heap.size w w' := by
  refine (total2a v1 v2 bs cs xs ys d k e w t hn1 hn2 h1 h2 p1 p2 hk he).mono ?_
  rintro e' w' ⟨v', ds, rfl, hn, hi, hb⟩
  exact ⟨v', ds, rfl, hn, hi, ((Below.refl _ w).alloc (Nat.le_refl _) _).trans (hb.mono (by simp))⟩

end Go.Proofs.Ytbjjkfmdkmbcfaa
