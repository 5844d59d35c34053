import Derived.Test.YtbjjkfmdkmbcfaaHi
namespace Go.Proofs.Ytbjjkfmdkmbcfaa
open Go.Shelf Go.RowKit Go.Lib Go.Sort
open HL (cr lx)

theorem pt_eq {a b : Int × Int} : a = b ↔ a.1 = b.1 ∧ a.2 = b.2 := Prod.ext_iff

/-- The order from the left, of the same point from the lowest number. -/
theorem lexI_neg (X : Nat → Int × Int) (i j : Nat) : lexI X i j < 0 ↔ lx (X i) (X j) ∨ (X i = X j ∧ i < j) := by
  rw [pt_eq]
  unfold lexI orI cmpI lx
  repeat' split
  all_goals omega

theorem lexI_tot (X : Nat → Int × Int) {i j : Nat} (h1 : ¬ lexI X i j < 0) (h2 : ¬ lexI X j i < 0) : i = j := by
  rw [lexI_neg, pt_eq] at h1 h2
  unfold lx at *
  omega

theorem lexI_trans (X : Nat → Int × Int) {i j k : Nat} (h1 : lexI X i j < 0) (h2 : lexI X j k < 0) : lexI X i k < 0 := by
  rw [lexI_neg, pt_eq] at *
  unfold lx at *
  omega

theorem lexI_irr (X : Nat → Int × Int) (i : Nat) : ¬ lexI X i i < 0 := by
  rw [lexI_neg]
  unfold lx
  omega

def encF {n : Nat} (x : Fin n) : Value := .int .i64 (x.val : Int)
def cfX (X : Nat → Int × Int) {n : Nat} (x y : Fin n) : Int := lexI X x.val y.val

theorem cfX_swo (X : Nat → Int × Int) {n : Nat} : SWO (ltOf (cfX X (n := n))) where
  irrefl x := by unfold ltOf cfX; exact decide_eq_false (lexI_irr X _)
  trans x y z h1 h2 := by
    unfold ltOf cfX at *
    exact decide_eq_true (lexI_trans X (of_decide_eq_true h1) (of_decide_eq_true h2))
  ntrans x y z h1 h2 := by
    unfold ltOf cfX at *
    have h1' := of_decide_eq_false h1
    have h2' := of_decide_eq_false h2
    refine decide_eq_false fun h => ?_
    rw [lexI_neg, pt_eq] at *
    unfold lx at *
    omega

theorem cfX_tot (X : Nat → Int × Int) {n : Nat} (x y : Fin n) (h1 : ltOf (cfX X) x y = false) (h2 : ltOf (cfX X) y x = false) : x = y := by
  unfold ltOf cfX at *
  exact Fin.ext (lexI_tot X (of_decide_eq_false h1) (of_decide_eq_false h2))

/-- The numbers of the list from the left. -/
structure Srt (X : Nat → Int × Int) (n : Nat) (o : List Nat) : Prop where
  perm : o.Perm (List.range n)
  sorted : o.Pairwise fun i j => lexI X i j < 0

theorem Srt.unique {X : Nat → Int × Int} {n : Nat} {o o' : List Nat} (h : Srt X n o) (h' : Srt X n o') : o = o' :=
  List.Perm.eq_of_pairwise (le := fun i j => lexI X i j < 0) (fun a _ _ _ h1 h2 => absurd (lexI_trans X h1 h2) (lexI_irr X a)) h.sorted h'.sorted (h.perm.trans h'.perm.symm)

/-- What the sort leaves behind. -/
theorem sort_srt (X : Nat → Int × Int) (n : Nat) : Srt X n (((List.finRange n).mergeSort fun x y => !ltOf (cfX X) y x).map Fin.val) := by
  have hp := List.mergeSort_perm (List.finRange n) (fun x y => !ltOf (cfX X) y x)
  have hr : (List.finRange n).map Fin.val = List.range n := by
    apply List.ext_getElem
    · simp
    · intro i h1 h2
      simp
  have hs := List.pairwise_mergeSort (le := fun x y => !ltOf (cfX X (n := n)) y x) (fun a b c h1 h2 => by
    simp only [Bool.not_eq_true'] at *
    exact (cfX_swo X).ntrans _ _ _ h2 h1) (fun a b => by
    cases h1 : ltOf (cfX X) b a
    · simp
    · cases h2 : ltOf (cfX X) a b
      · simp
      · have := (cfX_swo X).trans _ _ _ h1 h2
        rw [(cfX_swo X).irrefl] at this
        cases this) (List.finRange n)
  refine ⟨?_, ?_⟩
  · rw [← hr]
    exact hp.map _
  · rw [List.pairwise_map]
    have hn : ((List.finRange n).mergeSort fun x y => !ltOf (cfX X) y x).Nodup := hp.nodup_iff.2 (List.nodup_finRange n)
    refine (hs.and hn).imp ?_
    rintro a b ⟨h1, h2⟩
    simp only [Bool.not_eq_true'] at h1
    have h3 : ¬ cfX X b a < 0 := of_decide_eq_false h1
    rw [← Decidable.not_not (p := lexI X a.val b.val < 0)]
    intro h4
    exact h2 (Fin.ext (lexI_tot X h4 h3))

/-- Of several that are one point the lowest number alone, from the left. -/
structure Ord (X : Nat → Int × Int) (n : Nat) (o : List Nat) : Prop where
  sorted : o.Pairwise fun i j => lx (X i) (X j)
  mem : ∀ q ∈ o, q < n
  low : ∀ q ∈ o, ∀ i, i < n → X i = X q → q ≤ i
  all : ∀ i, i < n → ∃ q ∈ o, X q = X i

structure OI (X : Nat → Int × Int) (d : Array Nat) (m : Nat) : Prop where
  src : ∀ q ∈ cpt (eqX X) d m, ∃ j, j < m ∧ d[j]! = q
  sorted : (cpt (eqX X) d m).Pairwise fun i j => lx (X i) (X j)
  all : ∀ j, j < m → ∃ q ∈ cpt (eqX X) d m, X q = X d[j]!
  low : ∀ q ∈ cpt (eqX X) d m, ∀ j, j < m → X d[j]! = X q → q ≤ d[j]!

theorem cpt_ord {X : Nat → Int × Int} {d : Array Nat} (hs : ∀ i j, i < j → j < d.size → lexI X d[i]! d[j]! < 0) : ∀ m, m ≤ d.size → OI X d m := by
  have le : ∀ i j, i ≤ j → j < d.size → lx (X d[i]!) (X d[j]!) ∨ (X d[i]! = X d[j]! ∧ d[i]! ≤ d[j]!) := fun i j h1 h2 => by
    by_cases e : i = j
    · subst e; exact Or.inr ⟨rfl, Nat.le_refl _⟩
    · have := (lexI_neg X _ _).1 (hs i j (by omega) h2)
      rcases this with h | h
      · exact Or.inl h
      · exact Or.inr ⟨h.1, by omega⟩
  intro m
  induction m with
  | zero => exact fun _ => ⟨fun q hq => by simp [cpt] at hq, by simp [cpt], fun j hj => by omega, fun q hq => by simp [cpt] at hq⟩
  | succ m ih =>
    intro hm
    obtain ⟨h1, h2, h3, h4⟩ := ih (by omega)
    cases hk : kp (eqX X) d m
    · have e : cpt (eqX X) d (m + 1) = cpt (eqX X) d m := by rw [cpt, if_neg (by simp [hk])]
      have hm0 : m ≠ 0 := by
        intro e
        subst e
        cases hk
      have hx : X d[m]! = X d[m - 1]! := by
        unfold kp eqX at hk
        simp only [Bool.or_eq_false_iff, Bool.not_eq_false', decide_eq_true_eq] at hk
        exact hk.2
      have hle : d[m - 1]! ≤ d[m]! := by
        rcases le (m - 1) m (by omega) (by omega) with h | h
        · rw [hx] at h; exact absurd h (HL.lx_irr _)
        · exact h.2
      rw [show OI X d (m + 1) ↔ _ from ⟨fun h => (⟨h.src, h.sorted, h.all, h.low⟩ : OI X d (m + 1)), id⟩]
      refine ⟨?_, ?_, ?_, ?_⟩
      · rw [e]; intro q hq
        obtain ⟨j, hj, ej⟩ := h1 q hq
        exact ⟨j, by omega, ej⟩
      · rw [e]; exact h2
      · rw [e]; intro j hj
        by_cases ej : j = m
        · subst ej
          rw [hx]
          exact h3 (j - 1) (by omega)
        · exact h3 j (by omega)
      · rw [e]; intro q hq j hj hjq
        by_cases ej : j = m
        · subst ej
          rw [hx] at hjq
          exact Nat.le_trans (h4 q hq (j - 1) (by omega) hjq) hle
        · exact h4 q hq j (by omega) hjq
    · have e : cpt (eqX X) d (m + 1) = cpt (eqX X) d m ++ [d[m]!] := by rw [cpt, if_pos hk]
      have hlx : ∀ j, j < m → lx (X d[j]!) (X d[m]!) := by
        intro j hj
        have hm0 : m ≠ 0 := by omega
        have hx : X d[m]! ≠ X d[m - 1]! := by
          unfold kp eqX at hk
          simp only [Bool.or_eq_true, beq_iff_eq, Bool.not_eq_true', decide_eq_false_iff_not] at hk
          rcases hk with h | h
          · exact absurd h hm0
          · exact h
        have h5 : lx (X d[m - 1]!) (X d[m]!) := by
          rcases le (m - 1) m (by omega) (by omega) with h | h
          · exact h
          · exact absurd h.1.symm hx
        rcases le j (m - 1) (by omega) (by omega) with h | h
        · exact HL.lx_trans h h5
        · rw [h.1]; exact h5
      refine ⟨?_, ?_, ?_, ?_⟩
      · rw [e]; intro q hq
        rcases List.mem_append.1 hq with h | h
        · obtain ⟨j, hj, ej⟩ := h1 q h
          exact ⟨j, by omega, ej⟩
        · exact ⟨m, by omega, (List.mem_singleton.1 h).symm⟩
      · rw [e, List.pairwise_append]
        refine ⟨h2, List.pairwise_singleton .., fun a ha b hb => ?_⟩
        obtain ⟨j, hj, ej⟩ := h1 a ha
        rw [List.mem_singleton.1 hb, ← ej]
        exact hlx j hj
      · rw [e]; intro j hj
        by_cases ej : j = m
        · subst ej; exact ⟨_, by simp, rfl⟩
        · obtain ⟨q, hq, eq⟩ := h3 j (by omega)
          exact ⟨q, by simp [hq], eq⟩
      · rw [e]; intro q hq j hj hjq
        rcases List.mem_append.1 hq with h | h
        · by_cases ej : j = m
          · subst ej
            obtain ⟨i, hi, ei⟩ := h1 q h
            have := hlx i hi
            rw [ei, hjq] at this
            exact absurd this (HL.lx_irr _)
          · exact h4 q h j (by omega) hjq
        · rw [List.mem_singleton.1 h] at hjq ⊢
          by_cases ej : j = m
          · subst ej; exact Nat.le_refl _
          · have := hlx j (by omega)
            rw [hjq] at this
            exact absurd this (HL.lx_irr _)

/-- The numbers that are told, from the left. -/
def ordL (X : Nat → Int × Int) (o : List Nat) : List Nat := cpt (eqX X) o.toArray o.length

theorem Srt.length {X : Nat → Int × Int} {n : Nat} {o : List Nat} (h : Srt X n o) : o.length = n := by rw [h.perm.length_eq, List.length_range]

theorem get_at {o : List Nat} {i : Nat} (h : i < o.length) : o.toArray[i]! = o[i] := by simp [h]

theorem Srt.ord {X : Nat → Int × Int} {n : Nat} {o : List Nat} (h : Srt X n o) : Ord X n (ordL X o) := by
  have hl := h.length
  have hs : ∀ i j, i < j → j < o.toArray.size → lexI X o.toArray[i]! o.toArray[j]! < 0 := by
    intro i j hij hj
    have hj' : j < o.length := by simpa using hj
    rw [get_at (by omega), get_at hj']
    exact List.pairwise_iff_getElem.1 h.sorted i j (by omega) hj' hij
  obtain ⟨h1, h2, h3, h4⟩ := cpt_ord hs o.length (by simp)
  have hmem : ∀ j, j < o.length → o.toArray[j]! < n := fun j hj => by
    rw [get_at hj]
    exact List.mem_range.1 (h.perm.mem_iff.1 (List.getElem_mem hj))
  have hhit : ∀ i, i < n → ∃ j, j < o.length ∧ o.toArray[j]! = i := fun i hi => by
    obtain ⟨j, hj, e⟩ := List.getElem_of_mem (h.perm.mem_iff.2 (List.mem_range.2 hi))
    exact ⟨j, hj, by rw [get_at hj]; exact e⟩
  refine ⟨h2, fun q hq => ?_, fun q hq i hi e => ?_, fun i hi => ?_⟩
  · obtain ⟨j, hj, e⟩ := h1 q hq
    rw [← e]
    exact hmem j hj
  · obtain ⟨j, hj, e2⟩ := hhit i hi
    rw [← e2] at e ⊢
    exact h4 q hq j hj e
  · obtain ⟨j, hj, e2⟩ := hhit i hi
    rw [← e2]
    exact h3 j hj

end Go.Proofs.Ytbjjkfmdkmbcfaa
