import Derived.Test.YtbjjkfmdkmbcfaaBits
/-! Sums of many parts: what stands at each step, and how great it is. -/
namespace PlRd

/-- The rounded sum behind the parts l; what was left over on the way. -/
def gq : Int → List Int → Int
  | q, [] => q
  | q, e :: es => gq (rnd (q + e)) es

def gh : Int → List Int → List Int
  | _, [] => []
  | q, e :: es => if q + e - rnd (q + e) = 0 then gh (rnd (q + e)) es else (q + e - rnd (q + e)) :: gh (rnd (q + e)) es

theorem grow_eq (l : List Int) : ∀ q, grow q l = gh q l ++ (if gq q l = 0 then [] else [gq q l]) := by
  induction l with
  | nil => intro q; unfold grow gh gq; split <;> rfl
  | cons e es ih =>
    intro q
    unfold grow gh gq
    split
    · exact ih _
    · rw [ih]; simp

theorem gq_snoc (l : List Int) (e : Int) : ∀ q, gq q (l ++ [e]) = rnd (gq q l + e) := by
  induction l with
  | nil => intro q; simp [gq]
  | cons x xs ih => intro q; exact ih _

theorem gh_snoc (l : List Int) (e : Int) : ∀ q, gh q (l ++ [e]) = gh q l ++ (if gq q l + e - rnd (gq q l + e) = 0 then [] else [gq q l + e - rnd (gq q l + e)]) := by
  induction l with
  | nil => intro q; show gh q [e] = [] ++ _; unfold gh gq; split <;> simp [gh]
  | cons x xs ih =>
    intro q
    show gh q (x :: (xs ++ [e])) = _
    unfold gh
    rw [ih]
    split
    · rfl
    · rw [List.cons_append]; rfl

theorem gh_length (l : List Int) : ∀ q, (gh q l).length ≤ l.length := by
  induction l with
  | nil => intro q; simp [gh]
  | cons x xs ih =>
    intro q
    have := ih (rnd (q + x))
    unfold gh
    split <;> simp <;> omega

theorem gq_fl (l : List Int) : ∀ q, Fl q → Fl (gq q l) := by
  induction l with
  | nil => intro q h; exact h
  | cons x xs ih => intro q _; exact ih _ (fl_rnd _)

theorem gh_sum (l : List Int) : ∀ q, gq q l + (gh q l).sum = q + l.sum := by
  induction l with
  | nil => intro q; simp [gh, gq]
  | cons e es ih =>
    intro q
    have := ih (rnd (q + e))
    unfold gh gq
    split
    · rw [this, List.sum_cons]; omega
    · rw [List.sum_cons, List.sum_cons]; omega

theorem no_left (l m : List Int) (h : NO (l ++ m)) : NO l := by
  induction l with
  | nil => trivial
  | cons x xs ih =>
    obtain ⟨h1, ⟨k, h2, h3⟩, h4⟩ := h
    exact ⟨h1, ⟨k, h2, fun y hy => h3 y (by simp [hy])⟩, ih h4⟩

theorem gh_no (l : List Int) (q : Int) (hq : Fl q) (h : NO l) : NO (gh q l) := by
  have := grow_no l q hq h
  rw [grow_eq] at this
  exact no_left _ _ this

theorem gh_le (M : Nat) (l : List Int) : ∀ q, Fl q → (∀ e ∈ l, e.natAbs ≤ M) → ∀ y ∈ gh q l, y.natAbs ≤ M := by
  induction l with
  | nil => intro q _ _ y hy; simp [gh] at hy
  | cons e es ih =>
    intro q hq hl y hy
    have hi := ih (rnd (q + e)) (fl_rnd _) (fun x hx => hl x (by simp [hx]))
    have hn := rnd_near (q + e) q hq
    have he := hl e (by simp)
    unfold gh at hy
    split at hy
    · exact hi y hy
    · rcases List.mem_cons.1 hy with rfl | h
      · omega
      · exact hi y h

/-- How great the rounded sum can be. -/
theorem gq_le (T : Nat) (l : List Int) (q : Int) (hq : Fl q) (hno : NO l) (hqT : q.natAbs ≤ T) (hl : ∀ e ∈ l, e.natAbs ≤ 2 * T) : (gq q l).natAbs ≤ 9 * T := by
  have h1 := gh_sum l q
  have h2 := no_sum_le l hno _ hl
  have h3 := no_sum_le _ (gh_no l q hq hno) _ (gh_le _ l q hq hl)
  omega

/-- What is left over is small. -/
theorem gh_small (B : Nat) (l : List Int) : ∀ q, (∀ i, i < l.length → (gq q (l.take i)).natAbs + (l.getD i 0).natAbs ≤ B) → ∀ y ∈ gh q l, y.natAbs * 2 ^ 53 ≤ B := by
  induction l with
  | nil => intro q _ y hy; simp [gh] at hy
  | cons e es ih =>
    intro q hl y hy
    have h0 := hl 0 (by simp)
    simp only [List.take_zero, gq, List.getD_cons_zero] at h0
    have he := rnd_err (q + e)
    have hi := ih (rnd (q + e)) (fun i hi => by
      have := hl (i + 1) (by simp; omega)
      simpa [gq] using this)
    unfold gh at hy
    split at hy
    · exact hi y hy
    · rcases List.mem_cons.1 hy with rfl | h
      · omega
      · exact hi y h

theorem no_take (l : List Int) (h : NO l) (i : Nat) : NO (l.take i) := by
  have := List.take_append_drop i l
  rw [← this] at h
  exact no_left _ _ h

theorem getD_mem (l : List Int) (i : Nat) (h : i < l.length) : l.getD i 0 ∈ l := by
  rw [List.getD_eq_getElem?_getD, List.getElem?_eq_getElem h]; exact List.getElem_mem h

/-- The parts behind one more step are no greater than twice the bound of all sums. -/
theorem grow_le (T : Nat) (l : List Int) (q : Int) (hq : Fl q) (hno : NO l) (hqT : q.natAbs ≤ T) (hl : ∀ e ∈ l, e.natAbs ≤ 2 * T) (hs : (q + l.sum).natAbs ≤ T) : ∀ y ∈ grow q l, y.natAbs ≤ 2 * T := by
  have h1 := gh_sum l q
  have hle := gh_le _ l q hq hl
  have hsm := gh_small (11 * T) l q (fun i hi => by
    have h4 := gq_le T (l.take i) q hq (no_take l hno i) hqT (fun e he => hl e (List.mem_of_mem_take he))
    have h5 := hl _ (getD_mem l i hi)
    omega)
  have h6 := no_sum_le _ (gh_no l q hq hno) (T / 4) (fun y hy => by
    have := hsm y hy
    omega)
  intro y hy
  rw [grow_eq] at hy
  rcases List.mem_append.1 hy with h | h
  · exact hle y h
  · split at h
    · simp at h
    · simp at h
      subst h
      omega

/-- The sum of many parts. -/
def sumAll (ps : List Int) : List Int := ps.foldl (fun acc p => grow p acc) []

/-- A number's parts: they do not reach into one another, each has at most 53 digits. -/
def Ex (l : List Int) : Prop := NO l ∧ ∀ y ∈ l, Fl y

def absSum (l : List Int) : Nat := (l.map Int.natAbs).sum

theorem absSum_cons (x : Int) (l : List Int) : absSum (x :: l) = x.natAbs + absSum l := by simp [absSum]
theorem absSum_append (l m : List Int) : absSum (l ++ m) = absSum l + absSum m := by simp [absSum]

theorem sum_le_absSum (l : List Int) : l.sum.natAbs ≤ absSum l := by
  induction l with
  | nil => simp [absSum]
  | cons x xs ih => rw [List.sum_cons, absSum_cons]; omega

theorem sumAll_snoc (ps : List Int) (p : Int) : sumAll (ps ++ [p]) = grow p (sumAll ps) := by simp [sumAll]

theorem foldl_sum (ps : List Int) : ∀ acc : List Int, (ps.foldl (fun acc p => grow p acc) acc).sum = acc.sum + ps.sum := by
  induction ps with
  | nil => intro acc; simp
  | cons p ps ih => intro acc; rw [List.foldl_cons, ih, grow_sum, List.sum_cons]; omega

theorem sumAll_sum (ps : List Int) : (sumAll ps).sum = ps.sum := by
  rw [sumAll, foldl_sum]; simp

theorem foldl_ex (ps : List Int) : ∀ acc : List Int, Ex acc → (∀ p ∈ ps, Fl p) → Ex (ps.foldl (fun acc p => grow p acc) acc) := by
  induction ps with
  | nil => intro acc h _; exact h
  | cons p ps ih =>
    intro acc h hp
    exact ih _ ⟨grow_no acc p (hp p (by simp)) h.1, grow_fl acc p (hp p (by simp)) h.2⟩ (fun x hx => hp x (by simp [hx]))

theorem sumAll_ex (ps : List Int) (h : ∀ p ∈ ps, Fl p) : Ex (sumAll ps) := foldl_ex ps [] ⟨trivial, by simp⟩ h

theorem foldl_dvd {j : Nat} (ps : List Int) : ∀ acc : List Int, (∀ y ∈ acc, (2 : Int) ^ j ∣ y) → (∀ p ∈ ps, (2 : Int) ^ j ∣ p) → ∀ y ∈ ps.foldl (fun acc p => grow p acc) acc, (2 : Int) ^ j ∣ y := by
  induction ps with
  | nil => intro acc h _; exact h
  | cons p ps ih =>
    intro acc h hp
    exact ih _ (grow_dvd acc p (hp p (by simp)) h) (fun x hx => hp x (by simp [hx]))

theorem sumAll_dvd {j : Nat} (ps : List Int) (h : ∀ p ∈ ps, (2 : Int) ^ j ∣ p) : ∀ y ∈ sumAll ps, (2 : Int) ^ j ∣ y := foldl_dvd ps [] (by simp) h

theorem foldl_le (T : Nat) (ps : List Int) : ∀ acc : List Int, Ex acc → (∀ p ∈ ps, Fl p) → (∀ y ∈ acc, y.natAbs ≤ 2 * T) → acc.sum.natAbs + absSum ps ≤ T →
    ∀ y ∈ ps.foldl (fun acc p => grow p acc) acc, y.natAbs ≤ 2 * T := by
  induction ps with
  | nil => intro acc _ _ h _; exact h
  | cons p ps ih =>
    intro acc h hp hl hT
    rw [absSum_cons] at hT
    have hf := hp p (by simp)
    refine ih (grow p acc) ⟨grow_no acc p hf h.1, grow_fl acc p hf h.2⟩ (fun x hx => hp x (by simp [hx])) (grow_le T acc p hf h.1 (by omega) hl (by omega)) ?_
    rw [grow_sum]
    omega

theorem sumAll_le (ps : List Int) (h : ∀ p ∈ ps, Fl p) : ∀ y ∈ sumAll ps, y.natAbs ≤ 2 * absSum ps :=
  foldl_le _ ps [] ⟨trivial, by simp⟩ h (by simp) (by simp)

theorem sumAll_length (ps : List Int) : (sumAll ps).length ≤ ps.length := by
  have : ∀ (ps acc : List Int), (ps.foldl (fun acc p => grow p acc) acc).length ≤ acc.length + ps.length := by
    intro ps
    induction ps with
    | nil => intro acc; simp
    | cons p ps ih =>
      intro acc
      have h1 := ih (grow p acc)
      have h2 := grow_length acc p
      simp only [List.foldl_cons, List.length_cons]
      omega
  have h := this ps []
  simpa [sumAll] using h

/-- Bits that stand for numbers, one for one. -/
def IsL : List Nat → List Int → Prop
  | [], [] => True
  | b :: bs, x :: xs => Is b x ∧ IsL bs xs
  | _, _ => False

theorem IsL.length : ∀ {bs : List Nat} {xs : List Int}, IsL bs xs → bs.length = xs.length
  | [], [], _ => rfl
  | _ :: _, _ :: _, h => by simp [h.2.length]
  | [], _ :: _, h => by cases h
  | _ :: _, [], h => by cases h

theorem IsL.append : ∀ {bs : List Nat} {xs : List Int} {cs : List Nat} {ys : List Int}, IsL bs xs → IsL cs ys → IsL (bs ++ cs) (xs ++ ys)
  | [], [], _, _, _, h => h
  | _ :: _, _ :: _, _, _, h, k => ⟨h.1, h.2.append k⟩
  | [], _ :: _, _, _, h, _ => by cases h
  | _ :: _, [], _, _, h, _ => by cases h

theorem IsL.at : ∀ {bs : List Nat} {xs : List Int}, IsL bs xs → ∀ i, i < bs.length → Is (bs.getD i 0) (xs.getD i 0)
  | [], [], _, i, hi => by simp at hi
  | _ :: _, _ :: _, h, 0, _ => h.1
  | _ :: bs, _ :: xs, h, i + 1, hi => by simpa using h.2.at i (by simpa using hi)
  | [], _ :: _, h, _, _ => by cases h
  | _ :: _, [], h, _, _ => by cases h

theorem IsL.fl : ∀ {bs : List Nat} {xs : List Int}, IsL bs xs → ∀ x ∈ xs, Fl x
  | [], [], _, x, hx => by simp at hx
  | _ :: _, _ :: _, h, x, hx => by
    rcases List.mem_cons.1 hx with rfl | hx
    · exact h.1.fl
    · exact h.2.fl x hx
  | [], _ :: _, h, _, _ => by cases h
  | _ :: _, [], h, _, _ => by cases h

theorem IsL.take : ∀ {bs : List Nat} {xs : List Int}, IsL bs xs → ∀ i, IsL (bs.take i) (xs.take i)
  | _, _, _, 0 => by simp [IsL]
  | [], [], _, _ + 1 => by simp [IsL]
  | _ :: _, _ :: _, h, i + 1 => ⟨h.1, h.2.take i⟩
  | [], _ :: _, h, _ + 1 => by cases h
  | _ :: _, [], h, _ + 1 => by cases h

theorem take_snoc {α : Type} (l : List α) (i : Nat) (h : i < l.length) : l.take (i + 1) = l.take i ++ [l[i]] := List.take_succ_eq_append_getElem h

end PlRd
