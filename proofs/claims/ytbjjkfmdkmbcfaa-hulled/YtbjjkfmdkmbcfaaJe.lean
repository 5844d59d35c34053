import Derived.Test.YtbjjkfmdkmbcfaaJd
import Derived.Test.YtbjjkfmdkmbcfaaKn
import Derived.Test.YtbjjkfmdkmbcfaaHr
namespace Go.Proofs.Ytbjjkfmdkmbcfaa
open Go.Shelf Go.RowKit Go.Lib Go.Sort
open PlRd (sgn)
open HL (Pt cr lx popW chainR hullL)

theorem infoPt : (Try.prog.info? 24).map (fun i => (i.zero, i.size, i.bytes)) = some (some (.agg #[.int .u64 0, .int .u64 0]), 2, 16) := by kernel_rfl

/-- Points as cells. -/
def ptCells (ps : List (Nat × Nat)) : List Value := ps.flatMap fun p => [.int .u64 p.1, .int .u64 p.2]

theorem ptCells_snoc (ps : List (Nat × Nat)) (p : Nat × Nat) : ptCells (ps ++ [p]) = ptCells ps ++ [.int .u64 p.1, .int .u64 p.2] := by simp [ptCells]

theorem ptCells_length (ps : List (Nat × Nat)) : (ptCells ps).length = ps.length * 2 := by
  induction ps with
  | nil => rfl
  | cons p ps ih => simp [ptCells] at ih ⊢; omega

theorem ptCells_at (ps : List (Nat × Nat)) : ∀ t, t < ps.length → (ptCells ps)[t * 2]? = some (.int .u64 (ps.getD t (0, 0)).1) ∧ (ptCells ps)[t * 2 + 1]? = some (.int .u64 (ps.getD t (0, 0)).2) := by
  induction ps with
  | nil => intro t ht; simp at ht
  | cons p ps ih =>
    intro t ht
    have e : ptCells (p :: ps) = .int .u64 p.1 :: .int .u64 p.2 :: ptCells ps := by simp [ptCells]
    rw [e]
    cases t with
    | zero => simp
    | succ t =>
      have h := ih t (by simpa using ht)
      rw [show (t + 1) * 2 = t * 2 + 1 + 1 by omega]
      simpa using h

/-- A row of points that is the call's own. -/
def PV (w : World) (base : Nat) (v : Value) (ps : List (Nat × Nat)) : Prop := w.ownsRow base 24 2 v ps.length (ptCells ps)

theorem PV.form {w : World} {base : Nat} {v : Value} {ps : List (Nat × Nat)} (h : PV w base v ps) : ∃ p c, v = .slice p ps.length c := by
  rcases h.2 with ⟨h1, h2⟩ | ⟨g, cap, cur, h1, _⟩
  · exact ⟨none, 0, by rw [h1, h2]⟩
  · exact ⟨_, cap, h1⟩

theorem PV.nil (w : World) (base : Nat) : PV w base (.slice none 0 0) [] := World.ownsRow_nil _ _ _ _

theorem PV.cells {w : World} {base : Nat} {v : Value} {ps : List (Nat × Nat)} (h : PV w base v ps) (hne : ps.length ≠ 0) : ∃ g c, v = .slice (some ⟨g, 0, none⟩) ps.length c ∧ base ≤ g ∧ g < w.heap.size ∧ PtsAt w g 0 ps := by
  have h0 := h
  obtain ⟨hl, h⟩ := h
  rcases h with ⟨h1, h2⟩ | ⟨g, cap, cur, h1, hb, hg, hc, hm, hs, ht⟩
  · exact absurd h2 hne
  · subst h1
    refine ⟨g, cap, rfl, hb, ?_, fun t ht => ?_⟩
    · rw [← Nat.not_le]
      intro hle
      rw [Array.getElem?_eq_none hle] at hg
      cases hg
    · have h2 := ptCells_at ps t ht
      have hc := ptCells_length ps
      rw [Nat.zero_add]
      exact ⟨(World.ownsRow.cellAt h0 (t * 2) (by omega)).trans h2.1, (World.ownsRow.cellAt h0 (t * 2 + 1) (by omega)).trans h2.2⟩

theorem PV.sl {w : World} {base : Nat} {v : Value} {ps : List (Nat × Nat)} (h : PV w base v ps) : SlAt w v ps.length ps := by
  by_cases h0 : ps.length = 0
  · obtain ⟨hl, h⟩ := h
    rcases h with ⟨h1, h2⟩ | ⟨g, cap, cur, h1, hb, hg, _⟩
    · exact .inl ⟨h1, h2⟩
    · refine .inr ⟨g, cap, h1, ?_, fun t ht => by omega⟩
      rw [← Nat.not_le]
      intro hle
      rw [Array.getElem?_eq_none hle] at hg
      cases hg
  · obtain ⟨g, c, h1, _, h2, h3⟩ := h.cells h0
    exact .inr ⟨g, c, h1, h2, h3⟩

theorem PV.kept {w w' : World} {base : Nat} {v : Value} {ps : List (Nat × Nat)} (h : PV w base v ps) (hb : Below w.heap.size w w') : PV w' base v ps := by
  obtain ⟨hl, h⟩ := h
  refine ⟨hl, ?_⟩
  rcases h with h | ⟨g, cap, cur, h1, hbg, hg, h2, h3, h4, h5⟩
  · exact .inl h
  · refine .inr ⟨g, cap, cur, h1, hbg, ?_, h2, h3, h4, h5⟩
    have hlt : g < w.heap.size := by
      rw [← Nat.not_le]
      intro hle
      rw [Array.getElem?_eq_none hle] at hg
      cases hg
    rw [hb.block g hlt]
    exact hg

theorem PV.push {w : World} {base k : Nat} {v wr w1 v'} {ps : List (Nat × Nat)} {x y : Nat} (hl : ps.length = k) (h0 : PV wr base v ps) (h1 : w1.ownsRow base 24 2 v' (k + 1) (ptCells ps ++ [.int .u64 x, .int .u64 y])) (h2 : World.grownBy wr w1 v.ownBlock) (hb : Below base w wr) (hs : base ≤ wr.heap.size) : PV w1 base v' (ps ++ [(x, y)]) ∧ Below base w w1 := by
  refine ⟨?_, hb.grown h2 hs fun g hg => (World.ownsRow.lt h0 g hg).1⟩
  unfold PV
  rw [ptCells_snoc, List.length_append, hl]
  exact h1

theorem PV.ofLen {w : World} {base m : Nat} {v : Value} {ps : List (Nat × Nat)} (hm : ps.length = m) (h : PV w base v ps) : w.ownsRow base 24 2 v m (ptCells ps) := by
  subst hm
  exact h

/-- The spots that came in. -/
def SsAt (w : World) (va : Option Addr) (n : Nat) (ss : List (Int × Int)) : Prop := n = 0 ∨ ∃ sb so, va = some ⟨sb, so, none⟩ ∧ sb < w.heap.size ∧ ∀ t, t < n → w.cell? ⟨sb, so + t * 2, none⟩ = some (.int .i64 (ss.getD t (0, 0)).1) ∧ w.cell? ⟨sb, so + t * 2 + 1, none⟩ = some (.int .i64 (ss.getD t (0, 0)).2)

/-- The bits of spots times a power of 2. -/
def BtL (ss : List (Int × Int)) (p : Int) (ps : List (Nat × Nat)) : Prop := ∀ t, t < ps.length → Bt (ps.getD t (0, 0)).1 (bentI (ss.getD t (0, 0)).1) p ∧ Bt (ps.getD t (0, 0)).2 (bentI (ss.getD t (0, 0)).2) p

theorem BtL.snoc {ss : List (Int × Int)} {p : Int} {ps : List (Nat × Nat)} {x y : Nat} (h : BtL ss p ps) (hx : Bt x (bentI (ss.getD ps.length (0, 0)).1) p) (hy : Bt y (bentI (ss.getD ps.length (0, 0)).2) p) : BtL ss p (ps ++ [(x, y)]) := by
  intro t ht
  by_cases e : t < ps.length
  · have h1 := h t e
    rw [List.getD_eq_getElem?_getD] at h1
    rw [List.getD_eq_getElem?_getD, List.getElem?_append_left e]
    exact h1
  · have e2 : t = ps.length := by simp at ht; omega
    subst e2
    rw [List.getD_eq_getElem?_getD (l := ps ++ [(x, y)])]
    simp only [List.getElem?_concat_length, Option.getD_some]
    exact ⟨hx, hy⟩

theorem mem_getD {ps : List (Nat × Nat)} {p : Nat × Nat} (h : p ∈ ps) : ∃ t, t < ps.length ∧ ps.getD t (0, 0) = p := by
  obtain ⟨t, ht, e⟩ := List.getElem_of_mem h
  exact ⟨t, ht, by rw [List.getD_eq_getElem?_getD, List.getElem?_eq_getElem ht, Option.getD_some, e]⟩

theorem BtL.lt {ss : List (Int × Int)} {p : Int} {ps : List (Nat × Nat)} (h : BtL ss p ps) : ∀ q ∈ ps, q.1 < 2 ^ 64 ∧ q.2 < 2 ^ 64 := by
  intro q hq
  obtain ⟨t, ht, rfl⟩ := mem_getD hq
  exact ⟨(h t ht).1.lt, (h t ht).2.lt⟩

theorem BtL.ok {ss : List (Int × Int)} {p : Int} {ps : List (Nat × Nat)} (h : BtL ss p ps) : okPts ps = true := by
  unfold okPts
  rw [List.all_eq_true]
  intro q hq
  obtain ⟨t, ht, rfl⟩ := mem_getD hq
  rw [(h t ht).1.may, (h t ht).2.may]
  rfl

end Go.Proofs.Ytbjjkfmdkmbcfaa
