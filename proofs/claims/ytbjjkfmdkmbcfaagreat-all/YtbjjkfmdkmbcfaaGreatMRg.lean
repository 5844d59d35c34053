import Derived.Test.YtbjjkfmdkmbcfaaGreatMRe
namespace Go.Proofs.YtbjjkfmdkmbcfaaGreat
open Go.RowKit
open PlLv

attribute [local go_sem ↓] Go.wp_at_zero Go.wp_at_succ

theorem Bg.store2 {w : World} {neg : Bool} {v : Value} {ls : List Nat} {x : Int} (h : Bg w neg v ls x) {r o o' : Nat} {u u' : Value} (hr : ∀ cur, w.heap[r]? ≠ some (.cells cur 105 (0, 0))) : Bg ((w.setCell ⟨r, o, none⟩ u).setCell ⟨r, o', none⟩ u') neg v ls x :=
  ⟨h.lim.store2 hr, h.tr, h.eq, h.pos⟩

theorem Bg.opp {w : World} {neg : Bool} {v : Value} {ls : List Nat} {x : Int} (h : Bg w neg v ls x) : Bg w (!neg && decide (0 < ls.length)) v ls (-x) := by
  have he := h.eq
  refine ⟨h.lim, h.tr, ?_, fun hn => ?_⟩
  · unfold sv at *
    cases neg
    · by_cases h0 : 0 < ls.length
      · simp [h0] at he ⊢; omega
      · have : ls = [] := List.eq_nil_of_length_eq_zero (by omega)
        subst this
        simp [lv] at he ⊢; omega
    · simp at he ⊢; omega
  · intro h0
    rw [h0] at hn
    simp at hn

theorem small_neg {x : Int} (h : Small x) : Small (-x) := by unfold Small at *; rwa [Int.natAbs_neg]

set_option maxHeartbeats 1000000 in
set_option maxRecDepth 100000 in
theorem less_walk (na nb nb' : Bool) (ao bo : Option Addr) (n m c d : Nat) (la lb : List Nat) (x y : Int) (w : World) (ha : Bg w na (.slice ao n c) la x) (hb : Bg w nb' (.slice bo m d) lb (-y)) (hsa : Small x) (hsb : Small y)
    (hm : m ≤ 200) (hnb : (nb = true ∧ nb' = false) ∨ (nb = false ∧ decide (0 < m) = true ∧ nb' = true) ∨ (nb = false ∧ m = 0 ∧ nb' = false)) :
    Calls Tryz.prog 23 #[.agg #[.bool na, .slice ao n c], .agg #[.bool nb, .slice bo m d]] w fun e w' => ∃ nc vc lc, e = .returned (.agg #[.bool nc, vc]) ∧ Bg w' nc vc lc (x - y) ∧ Below w.heap.size w w' := by
  have HS : Hid (∀ W, Below w.heap.size w W → Calls Tryz.prog 46 #[.agg #[.bool na, .slice ao n c], .agg #[.bool nb', .slice bo m d]] W fun e w' => ∃ nc vc lc, e = .returned (.agg #[.bool nc, vc]) ∧ Bg w' nc vc lc (x - y) ∧ Below W.heap.size W w') :=
    fun W h => by rw [Int.sub_eq_add_neg]; exact sum_bg na nb' _ _ la lb x (-y) W (ha.kept h) (hb.kept h) hsa (small_neg hsb)
  have HW : Hid (∀ o1 o2 o3, Below w.heap.size w (((w.alloc o1).alloc o2).alloc o3)) := fun o1 o2 o3 => ((((Below.refl _ w).alloc (Nat.le_refl _) _).alloc (by simp) _).alloc (by simp; omega) _)
  have HR : Hid (∀ (o1 o2 : Obj) (W : World), Below (((w.alloc o1).alloc o2).alloc (.cells #[.bool false, .slice none 0 0] 53)).heap.size (((w.alloc o1).alloc o2).alloc (.cells #[.bool false, .slice none 0 0] 53)) W → (W.cell? ⟨w.heap.size + 1 + 1, 0, none⟩ = some (.bool false) ∧ W.cell? ⟨w.heap.size + 1 + 1, 1, none⟩ = some (.slice none 0 0) ∧ W.frozen? ⟨w.heap.size + 1 + 1, 0, none⟩ = false ∧ W.frozen? ⟨w.heap.size + 1 + 1, 1, none⟩ = false) ∧ (∀ cur, W.heap[w.heap.size + 1 + 1]? ≠ some (.cells cur 105 (0, 0)))) := by
    intro o1 o2 W hb
    obtain ⟨hc, hf⟩ := bcell hb
    rw [hc _ _ (by simp), hc _ _ (by simp), hf _ _ (by simp), hf _ _ (by simp), hb.block _ (by simp)]
    refine ⟨by simp [go_sem], fun cur h => ?_⟩
    rw [show w.heap.size + 1 + 1 = ((w.alloc o1).alloc o2).heap.size by simp, heap_alloc_new] at h
    simp at h
  clear ha hb hsa hsb
  rcases hnb with ⟨rfl, rfl⟩ | ⟨rfl, hm0, rfl⟩ | ⟨rfl, rfl, rfl⟩
  all_goals
    go_enter Tryz.func23, Tryz.ntmps23
    go_wp2_with (go_at_call 46; refine (HS.out _ (HW.out _ _ _)).mono ?_; rintro e w1 ⟨nc, vc, lc, rfl, hb1, hbel⟩; obtain ⟨a1, c1, hv1⟩ := bg_form hb1; subst hv1; obtain ⟨⟨r0, r1, f0, f1⟩, hrow⟩ := HR.out _ _ _ hbel)
    refine bodyPost_ret (v := .agg #[.bool nc, .slice a1 lc.length c1]) (by simp [results, Tryz.results23, go_sem, r0, r1]) rfl ⟨nc, _, lc, rfl, hb1.store2 hrow, ?_⟩
    have hbw := below_step hbel (HW.out _ _ _)
    exact (hbw.setCell (by simp; omega) _).setCell (by simp; omega) _

/-- 'Less'. -/
theorem less_bg (na nb : Bool) (va vb : Value) (la lb : List Nat) (x y : Int) (w : World) (ha : Bg w na va la x) (hb : Bg w nb vb lb y) (hsa : Small x) (hsb : Small y) :
    Calls Tryz.prog 23 #[.agg #[.bool na, va], .agg #[.bool nb, vb]] w fun e w' => ∃ nc vc lc, e = .returned (.agg #[.bool nc, vc]) ∧ Bg w' nc vc lc (x - y) ∧ Below w.heap.size w w' := by
  obtain ⟨ao, c, rfl⟩ := bg_form ha
  obtain ⟨bo, d, rfl⟩ := bg_form hb
  have hl := hb.len hsb
  refine less_walk na nb _ ao bo _ _ c d la lb x y w ha hb.opp hsa hsb hl ?_
  cases nb
  · by_cases h0 : 0 < lb.length
    · exact .inr (.inl ⟨rfl, by simpa using h0, by simp [h0]⟩)
    · exact .inr (.inr ⟨rfl, by omega, by simp [h0]⟩)
  · exact .inl ⟨rfl, rfl⟩

end Go.Proofs.YtbjjkfmdkmbcfaaGreat

namespace Go.Proofs.YtbjjkfmdkmbcfaaGreat
open Go.RowKit
open PlLv

attribute [local go_sem ↓] Go.wp_at_zero Go.wp_at_succ

theorem lv_set (os : List Nat) (t d : Nat) (h : t < os.length) : lv (os.set t d) + P t * os.getD t 0 = lv os + P t * d := by
  induction os generalizing t with
  | nil => simp at h
  | cons o os ih =>
    cases t with
    | zero => simp [lv, P_zero]; omega
    | succ t =>
      have := ih t (by simpa using h)
      simp only [List.set_cons_succ, lv, List.getD_cons_succ, P_succ]
      have e1 : 4294967296 * P t * os.getD t 0 = 4294967296 * (P t * os.getD t 0) := Nat.mul_assoc ..
      have e2 : 4294967296 * P t * d = 4294967296 * (P t * d) := Nat.mul_assoc ..
      rw [e1, e2]
      omega

theorem lims_set (os : List Nat) (t d : Nat) : (lims os).set t (.int .u32 (d : Int)) = lims (os.set t d) := by
  unfold lims; rw [List.map_set]

theorem getD_set (os : List Nat) (t d u : Nat) (h : t ≠ u) : (os.set t d).getD u 0 = os.getD u 0 := by
  rw [List.getD_eq_getElem?_getD, List.getD_eq_getElem?_getD, List.getElem?_set_ne h]

theorem ok_set {os : List Nat} (h : Ok os) (t d : Nat) (hd : d < 4294967296) : Ok (os.set t d) := fun l hl => by
  rcases List.mem_or_eq_of_mem_set hl with h1 | h1
  · exact h l h1
  · rw [h1]; exact hd

/-- What stands ahead of the k-th step of the i-th row of 'Times'. -/
structure TRel (W wr : World) (la lb os : List Nat) (n m i k cr : Nat) : Prop where
  len : os.length = n + m
  ok : Ok os
  own : wr.ownsRow W.heap.size 105 1 (.slice (some ⟨W.heap.size, 0, none⟩) (n + m) (n + m)) (n + m) (lims os)
  below : Below W.heap.size W wr
  crl : cr < 4294967296
  zero : ∀ t, i + m ≤ t → os.getD t 0 = 0
  eq : lv os + P (i + k) * cr = lv (la.take i) * lv lb + P i * (la.getD i 0 * lv (lb.take k))

theorem TRel.step {W wr wr' : World} {la lb os : List Nat} {n m i k cr : Nat} {A B o x : Nat} {X : Int} (R : TRel W wr la lb os n m i k cr) (hi : i < n) (hk : k < m) (hA : A = la.getD i 0) (hB : B = lb.getD k 0) (ho : o = os.getD (i + k) 0) (hAl : A < 4294967296) (hBl : B < 4294967296)
    (hx : x = A * B + o + cr) (hX : X = ((x % 4294967296 : Nat) : Int)) (hs : wr'.ownsRow W.heap.size 105 1 (.slice (some ⟨W.heap.size, 0, none⟩) (n + m) (n + m)) (n + m) ((lims os).set (i + k) (.int .u32 X))) (hb : Below W.heap.size W wr') :
    TRel W wr' la lb (os.set (i + k) (x % 4294967296)) n m i (k + 1) (x / 4294967296) := by
  have hol : o < 4294967296 := by rw [ho]; exact R.ok.at _
  have hcl := R.crl
  have hAB : A * B ≤ 4294967295 * 4294967295 := Nat.mul_le_mul (by omega) (by omega)
  refine ⟨by rw [List.length_set]; exact R.len, ok_set R.ok _ _ (by omega), ?_, hb, by omega, fun t ht => ?_, ?_⟩
  · rw [← lims_set, ← hX]; exact hs
  · rw [getD_set _ _ _ _ (by omega)]; exact R.zero t ht
  · have h1 := lv_set os (i + k) (x % 4294967296) (by rw [R.len]; omega)
    have h2 := R.eq
    rw [← ho] at h1
    have h3 : lv (lb.take (k + 1)) = lv (lb.take k) + P k * B := by rw [lv_take_succ, hB]
    have hdm := Nat.div_add_mod x 4294967296
    have e1 : P (i + (k + 1)) * (x / 4294967296) = P (i + k) * (4294967296 * (x / 4294967296)) := by rw [← Nat.add_assoc, P_succ, Nat.mul_comm 4294967296, Nat.mul_assoc]
    have e2 : P (i + k) * (4294967296 * (x / 4294967296)) + P (i + k) * (x % 4294967296) = P (i + k) * (A * B) + P (i + k) * o + P (i + k) * cr := by
      rw [← Nat.mul_add, hdm, hx, Nat.mul_add, Nat.mul_add]
    have e3 : P i * (la.getD i 0 * (lv (lb.take k) + P k * B)) = P i * (la.getD i 0 * lv (lb.take k)) + P (i + k) * (A * B) := by
      rw [Nat.mul_add, Nat.mul_add, ← hA, P_add]
      congr 1
      rw [Nat.mul_assoc, Nat.mul_left_comm A]
    rw [e1, h3, e3]
    omega

theorem TRel.row {W wr wr' : World} {la lb os : List Nat} {n m i cr : Nat} {X : Int} (R : TRel W wr la lb os n m i m cr) (hi : i < n) (hlb : lb.length = m) (hX : X = (cr : Int)) (hs : wr'.ownsRow W.heap.size 105 1 (.slice (some ⟨W.heap.size, 0, none⟩) (n + m) (n + m)) (n + m) ((lims os).set (i + m) (.int .u32 X))) (hb : Below W.heap.size W wr') :
    TRel W wr' la lb (os.set (i + m) cr) n m (i + 1) 0 0 := by
  refine ⟨by rw [List.length_set]; exact R.len, ok_set R.ok _ _ R.crl, ?_, hb, by omega, fun t ht => ?_, ?_⟩
  · rw [← lims_set, ← hX]; exact hs
  · rw [getD_set _ _ _ _ (by omega)]; exact R.zero t (by omega)
  · have h1 := lv_set os (i + m) cr (by rw [R.len]; omega)
    have h2 := R.eq
    rw [R.zero (i + m) (Nat.le_refl _), Nat.mul_zero] at h1
    rw [List.take_of_length_le (show lb.length ≤ m by omega)] at h2
    have g1 : lv (lb.take 0) = 0 := rfl
    rw [g1, Nat.mul_zero, Nat.mul_zero, Nat.mul_zero, Nat.add_zero, Nat.add_zero, lv_take_succ, Nat.add_mul, Nat.mul_assoc]
    generalize P i * (la.getD i 0 * lv lb) = u1 at *
    generalize P (i + m) * cr = u2 at *
    generalize lv (la.take i) * lv lb = u3 at *
    omega

theorem sv_mul {na nb : Bool} {la lb ks : List Nat} {x y : Int} (hx : x = sv na la) (hy : y = sv nb lb) (he : lv ks = lv la * lv lb) (_ht : Tr ks) : x * y = sv ((na != nb) && decide (0 < ks.length)) ks := by
  have hz : ks.length = 0 → lv ks = 0 := fun h => by rw [List.eq_nil_of_length_eq_zero h]; rfl
  have hc : ((lv ks : Nat) : Int) = (lv la : Int) * (lv lb : Int) := by rw [he]; exact Int.natCast_mul ..
  unfold sv at *
  by_cases h0 : 0 < ks.length
  · cases na <;> cases nb <;> simp [h0] at * <;> rw [hx, hy, hc] <;> simp [Int.neg_mul, Int.mul_neg]
  · have h1 := hz (by omega)
    rw [h1] at hc
    have h2 : (lv la : Int) * (lv lb : Int) = 0 := by rw [← hc]; rfl
    cases na <;> cases nb <;> simp [h0] at * <;> rw [hx, hy] <;> simp [Int.neg_mul, Int.mul_neg, h2, h1]

end Go.Proofs.YtbjjkfmdkmbcfaaGreat
