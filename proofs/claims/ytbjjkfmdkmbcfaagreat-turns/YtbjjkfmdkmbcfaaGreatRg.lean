import Derived.Test.YtbjjkfmdkmbcfaaGreatRf
namespace Go.Proofs.YtbjjkfmdkmbcfaaGreat
open Go.RowKit
open PlLv

attribute [local go_sem ↓] Go.wp_at_zero Go.wp_at_succ

theorem lv_set (os : List Nat) (t d : Nat) (h : t < os.length) : lv (os.set t d) + P t * os.getD t 0 = lv os + P t * d := by
  induction os generalizing t with
  | nil => simp at h
  | cons o os ih =>
    cases t with
    | zero => simp [lv, P_zero]; omega
    | succ t =>
      have := ih t (by simpa using h)
      simp only [List.set_cons_succ, lv, List.getD_cons_succ, P_succ]
      have e1 : 4294967296 * P t * os.getD t 0 = 4294967296 * (P t * os.getD t 0) := Nat.mul_assoc ..
      have e2 : 4294967296 * P t * d = 4294967296 * (P t * d) := Nat.mul_assoc ..
      rw [e1, e2]
      omega

theorem lims_set (os : List Nat) (t d : Nat) : (lims os).set t (.int .u32 (d : Int)) = lims (os.set t d) := by
  unfold lims; rw [List.map_set]

theorem getD_set (os : List Nat) (t d u : Nat) (h : t ≠ u) : (os.set t d).getD u 0 = os.getD u 0 := by
  rw [List.getD_eq_getElem?_getD, List.getD_eq_getElem?_getD, List.getElem?_set_ne h]

theorem ok_set {os : List Nat} (h : Ok os) (t d : Nat) (hd : d < 4294967296) : Ok (os.set t d) := fun l hl => by
  rcases List.mem_or_eq_of_mem_set hl with h1 | h1
  · exact h l h1
  · rw [h1]; exact hd

/-- What stands ahead of the k-th step of the i-th row of 'Times'. -/
structure TRel (W wr : World) (la lb os : List Nat) (n m i k cr : Nat) : Prop where
  len : os.length = n + m
  ok : Ok os
  own : wr.ownsRow W.heap.size 105 1 (.slice (some ⟨W.heap.size, 0, none⟩) (n + m) (n + m)) (n + m) (lims os)
  below : Below W.heap.size W wr
  crl : cr < 4294967296
  zero : ∀ t, i + m ≤ t → os.getD t 0 = 0
  eq : lv os + P (i + k) * cr = lv (la.take i) * lv lb + P i * (la.getD i 0 * lv (lb.take k))

theorem TRel.step {W wr wr' : World} {la lb os : List Nat} {n m i k cr : Nat} {A B o x : Nat} {X : Int} (R : TRel W wr la lb os n m i k cr) (hi : i < n) (hk : k < m) (hA : A = la.getD i 0) (hB : B = lb.getD k 0) (ho : o = os.getD (i + k) 0) (hAl : A < 4294967296) (hBl : B < 4294967296)
    (hx : x = A * B + o + cr) (hX : X = ((x % 4294967296 : Nat) : Int)) (hs : wr'.ownsRow W.heap.size 105 1 (.slice (some ⟨W.heap.size, 0, none⟩) (n + m) (n + m)) (n + m) ((lims os).set (i + k) (.int .u32 X))) (hb : Below W.heap.size W wr') :
    TRel W wr' la lb (os.set (i + k) (x % 4294967296)) n m i (k + 1) (x / 4294967296) := by
  have hol : o < 4294967296 := by rw [ho]; exact R.ok.at _
  have hcl := R.crl
  have hAB : A * B ≤ 4294967295 * 4294967295 := Nat.mul_le_mul (by omega) (by omega)
  refine ⟨by rw [List.length_set]; exact R.len, ok_set R.ok _ _ (by omega), ?_, hb, by omega, fun t ht => ?_, ?_⟩
  · rw [← lims_set, ← hX]; exact hs
  · rw [getD_set _ _ _ _ (by omega)]; exact R.zero t ht
  · have h1 := lv_set os (i + k) (x % 4294967296) (by rw [R.len]; omega)
    have h2 := R.eq
    rw [← ho] at h1
    have h3 : lv (lb.take (k + 1)) = lv (lb.take k) + P k * B := by rw [lv_take_succ, hB]
    have hdm := Nat.div_add_mod x 4294967296
    have e1 : P (i + (k + 1)) * (x / 4294967296) = P (i + k) * (4294967296 * (x / 4294967296)) := by rw [← Nat.add_assoc, P_succ, Nat.mul_comm 4294967296, Nat.mul_assoc]
    have e2 : P (i + k) * (4294967296 * (x / 4294967296)) + P (i + k) * (x % 4294967296) = P (i + k) * (A * B) + P (i + k) * o + P (i + k) * cr := by
      rw [← Nat.mul_add, hdm, hx, Nat.mul_add, Nat.mul_add]
    have e3 : P i * (la.getD i 0 * (lv (lb.take k) + P k * B)) = P i * (la.getD i 0 * lv (lb.take k)) + P (i + k) * (A * B) := by
      rw [Nat.mul_add, Nat.mul_add, ← hA, P_add]
      congr 1
      rw [Nat.mul_assoc, Nat.mul_left_comm A]
    rw [e1, h3, e3]
    omega

theorem TRel.row {W wr wr' : World} {la lb os : List Nat} {n m i cr : Nat} {X : Int} (R : TRel W wr la lb os n m i m cr) (hi : i < n) (hlb : lb.length = m) (hX : X = (cr : Int)) (hs : wr'.ownsRow W.heap.size 105 1 (.slice (some ⟨W.heap.size, 0, none⟩) (n + m) (n + m)) (n + m) ((lims os).set (i + m) (.int .u32 X))) (hb : Below W.heap.size W wr') :
    TRel W wr' la lb (os.set (i + m) cr) n m (i + 1) 0 0 := by
  refine ⟨by rw [List.length_set]; exact R.len, ok_set R.ok _ _ R.crl, ?_, hb, by omega, fun t ht => ?_, ?_⟩
  · rw [← lims_set, ← hX]; exact hs
  · rw [getD_set _ _ _ _ (by omega)]; exact R.zero t (by omega)
  · have h1 := lv_set os (i + m) cr (by rw [R.len]; omega)
    have h2 := R.eq
    rw [R.zero (i + m) (Nat.le_refl _), Nat.mul_zero] at h1
    rw [List.take_of_length_le (show lb.length ≤ m by omega)] at h2
    have g1 : lv (lb.take 0) = 0 := rfl
    rw [g1, Nat.mul_zero, Nat.mul_zero, Nat.mul_zero, Nat.add_zero, Nat.add_zero, lv_take_succ, Nat.add_mul, Nat.mul_assoc]
    generalize P i * (la.getD i 0 * lv lb) = u1 at *
    generalize P (i + m) * cr = u2 at *
    generalize lv (la.take i) * lv lb = u3 at *
    omega

theorem sv_mul {na nb : Bool} {la lb ks : List Nat} {x y : Int} (hx : x = sv na la) (hy : y = sv nb lb) (he : lv ks = lv la * lv lb) (_ht : Tr ks) : x * y = sv ((na != nb) && decide (0 < ks.length)) ks := by
  have hz : ks.length = 0 → lv ks = 0 := fun h => by rw [List.eq_nil_of_length_eq_zero h]; rfl
  have hc : ((lv ks : Nat) : Int) = (lv la : Int) * (lv lb : Int) := by rw [he]; exact Int.natCast_mul ..
  unfold sv at *
  by_cases h0 : 0 < ks.length
  · cases na <;> cases nb <;> simp [h0] at * <;> rw [hx, hy, hc] <;> simp [Int.neg_mul, Int.mul_neg]
  · have h1 := hz (by omega)
    rw [h1] at hc
    have h2 : (lv la : Int) * (lv lb : Int) = 0 := by rw [← hc]; rfl
    cases na <;> cases nb <;> simp [h0] at * <;> rw [hx, hy] <;> simp [Int.neg_mul, Int.mul_neg, h2, h1]

end Go.Proofs.YtbjjkfmdkmbcfaaGreat
