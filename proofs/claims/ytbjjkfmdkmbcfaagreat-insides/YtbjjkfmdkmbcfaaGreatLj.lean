import Derived.Test.YtbjjkfmdkmbcfaaGreatLi
namespace Go.Proofs.YtbjjkfmdkmbcfaaGreat
open Go.RowKit
open PlLv

attribute [local go_sem ↓] Go.wp_at_zero Go.wp_at_succ

theorem set_take2 (l : List Value) (i : Nat) (x y : Value) (h : i + 2 ≤ l.length) : ((l.set i x).set (i + 1) y).take (i + 2) = l.take i ++ [x, y] := by
  apply List.ext_getElem?
  intro j
  rw [List.getElem?_take, List.getElem?_append, List.length_take, Nat.min_eq_left (by omega)]
  by_cases h1 : j < i
  · rw [if_pos (by omega), if_pos h1, List.getElem?_set_ne (by omega), List.getElem?_set_ne (by omega), List.getElem?_take, if_pos h1]
  · rw [if_neg h1]
    by_cases h2 : j = i
    · subst h2
      rw [if_pos (by omega), List.getElem?_set_ne (by omega), List.getElem?_set_self (by omega)]
      simp
    · by_cases h3 : j = i + 1
      · subst h3
        rw [if_pos (by omega), List.getElem?_set_self (by simp; omega)]
        simp
      · rw [if_neg (by omega)]
        symm
        rw [List.getElem?_eq_none]
        simp
        omega

theorem own_row {w : World} {base n : Nat} {e : TypeId} {size g : Nat} {xs : List Value} (h : w.ownsRow base e size (.slice (some ⟨g, 0, none⟩) n n) n xs) : ∃ cur : Array Value, w.heap[g]? = some (.cells cur e (0, 0)) ∧ cur.size = n * size := by
  rcases h.2 with ⟨h1, _⟩ | ⟨g', cap', cur, h1, hbg, hgg, hnc, hcm, hcs, htake⟩
  · simp at h1
  · simp only [Value.slice.injEq, Option.some.injEq, Addr.mk.injEq, and_true, true_and] at h1
    obtain ⟨rfl, rfl⟩ := h1
    exact ⟨cur, hgg, hcs⟩

theorem copy_gen {P : Program} (w : World) (dT sT ty elem : TypeId) (g dLen dCap : Nat) (sp : Option Addr) (sLen sCap : Nat) (cur : Array Value) (t : TypeId) (cs : List Value) (hu : P.underlying dT = some (.slice elem)) (hsz : (P.info? elem).map (·.size) = some 2)
    (hg : w.heap[g]? = some (.cells cur t (0, 0))) (hn : cs.length = sLen * 2) (hle : sLen ≤ dLen) (hsrc : (sp = none ∧ sLen = 0 ∧ sCap = 0) ∨ ∃ ad, sp = some ad ∧ ∀ j v, cs[j]? = some v → w.cell? (ad.add j) = some v) (hfit : cs.length ≤ cur.size) (h1 : ∀ v ∈ cs, v.oneCell' = true) (B : Nat) (w0 : World) (hb : Below B w0 w) (hBg : B ≤ g) :
    ∃ w', (Builtin.copy_ #[dT, sT] ty #[.slice (some ⟨g, 0, none⟩) dLen dCap, .slice sp sLen sCap]).run P w = .ok (goInt sLen) w' ∧ Hid (w'.heap[g]? = some (.cells (cs ++ cur.toList.drop cs.length).toArray t (0, 0))) ∧ Below B w0 w' := by
  have hmin : Nat.min sLen dLen = sLen := Nat.min_eq_left hle
  rcases hsrc with ⟨rfl, rfl, rfl⟩ | ⟨ad, rfl, hsrc⟩
  · have hcs : cs = [] := List.eq_nil_of_length_eq_zero (by omega)
    subst hcs
    exact ⟨w, run_copy_nil (P := P) w dT sT ty elem ⟨g, 0, none⟩ dLen dCap hu (by cases hq : P.info? elem <;> simp [hq] at hsz ⊢), by show _ = _; simpa using hg, hb⟩
  · have hrun := run_copy2 (P := P) w dT sT ty elem g 0 dLen dCap ad sLen sCap cur t cs hu hsz hg (by rw [hmin]; exact hn) hsrc (by omega) h1
    rw [hmin] at hrun
    refine ⟨_, hrun, ?_, below_setRow hb hBg _⟩
    show _ = _
    simpa using setRow_heap w g _ _ t _ hg

/-- What stands behind the points that are lent. -/
def tail3 : List (Nat × Nat) := [(77, 0), (77, 0), (77, 0)]

theorem tail3_take {j : Nat} (h : j < 3) : tail3.take (j + 1) = tail3.take j ++ [(77, 0)] := by
  match j, h with
  | 0, _ => rfl
  | 1, _ => rfl
  | 2, _ => rfl

/-- The row while the points behind are laid. -/
def LRow (w : World) (G n : Nat) (ps : List (Nat × Nat)) (k : Nat) : Prop := ∃ cur : Array Value, w.heap[G]? = some (.cells cur 24 (0, 0)) ∧ cur.size = (n + 3) * 2 ∧ cur.toList.take (k * 2) = ptCells (ps ++ tail3.take (k - n))

theorem row_cell {w : World} {G : Nat} {cur : Array Value} {t : TypeId} (h : w.heap[G]? = some (.cells cur t (0, 0))) (i : Nat) (hi : i < cur.size) : ∃ u, w.cell? ⟨G, i, none⟩ = some u ∧ w.frozen? ⟨G, i, none⟩ = false := by
  refine ⟨cur[i], ?_, ?_⟩
  · simp [World.cell?, h, hi]
  · simp [World.frozen?, h]

theorem LRow.put {w : World} {G n k : Nat} {ps : List (Nat × Nat)} (h : LRow w G n ps k) (h1 : n ≤ k) (h2 : k < n + 3) : LRow ((w.setCell ⟨G, k * 2, none⟩ (.int .u64 77)).setCell ⟨G, k * 2 + 1, none⟩ (.int .u64 0)) G n ps (k + 1) := by
  obtain ⟨cur, hg, hs, ht⟩ := h
  refine ⟨_, heap_setCell_same _ G (k * 2 + 1) _ _ _ (heap_setCell_same _ G (k * 2) _ _ _ hg), by simpa using hs, ?_⟩
  have e := set_take2 cur.toList (k * 2) (.int .u64 77) (.int .u64 0) (by simp; omega)
  rw [show (k + 1) * 2 = k * 2 + 2 by omega, show k + 1 - n = (k - n) + 1 by omega, tail3_take (by omega), ← List.append_assoc, ptCells_append, ← ht]
  simpa [ptCells] using e

set_option maxHeartbeats 4000000 in
set_option maxRecDepth 100000 in
theorem lent_any (v : Value) (n : Nat) (ps : List (Nat × Nat)) (w : World) (hv : SrcAt w v n ps) (hn : ps.length = n) (hnb : n ≤ 8796093021952) :
    Calls Tryz.prog 27 #[v] w fun e w' => e = .returned (.slice (some ⟨w.heap.size, 0, none⟩) (n + 3 : Nat) (n + 3 : Nat)) ∧ w'.heap[w.heap.size]? = some (.cells (ptCells (ps ++ tail3)).toArray 24 (0, 0)) ∧ Below w.heap.size w w' := by
  obtain ⟨i0, hi, hz0, hz1, hz2⟩ := info_parts infoPt
  have hsz : (Tryz.prog.info? 24).map (·.size) = some 2 := by rw [hi]; simp [hz1]
  have hpl := ptCells_length ps
  obtain ⟨sp, sc, hvf⟩ := hv.form
  have HV : Hid (∀ w', Below w.heap.size w w' → (sp = none ∧ n = 0 ∧ sc = 0) ∨ ∃ ad, sp = some ad ∧ ∀ j u, (ptCells ps)[j]? = some u → w'.cell? (ad.add j) = some u) := fun w' hb => by
    rcases hv with ⟨h1, h2⟩ | ⟨a, h1, h2⟩ | ⟨g, off, c, h1, hg, hp⟩
    · rw [h1] at hvf
      simp at hvf
      exact .inl ⟨hvf.1.symm, h2, hvf.2.2.symm⟩
    · rw [h1] at hvf
      simp at hvf
      refine .inr ⟨a, hvf.1.symm, fun j u hu => ?_⟩
      have hps : ps = [] := List.eq_nil_of_length_eq_zero (by omega)
      subst hps
      simp [ptCells] at hu
    · rw [h1] at hvf
      simp at hvf
      refine .inr ⟨⟨g, off, none⟩, hvf.1.symm, fun j u hu => ?_⟩
      have h3 := src_cells hp j u hu
      have hadd : (⟨g, off, none⟩ : Addr).add j = ⟨g, off + j, none⟩ := by unfold Addr.add; split <;> simp_all
      rw [hadd] at h3 ⊢
      rw [hb.cell (p := ⟨g, off + j, none⟩) hg]
      exact h3
  subst hvf
  clear hv
  go_enter Tryz.func27, Tryz.ntmps27
  go_wp2_with (first | (at_make; go_must (refine wpList_make_full _ rfl _ _ 26 rfl w.heap.size 24 i0 _ 2 Tryz.underlying26 hi hz0 hz1 _ _ _ _ (n + 3) rfl rfl (by omega) (by omega) (by rw [hz2]; omega) (by unfold maxLen; omega) (Nat.le_refl _) ?_; intro w0 hown0 hgrow0; obtain ⟨cur0, hg0, hc0⟩ := own_row hown0; have hb0 : Below w.heap.size w w0 := (Below.refl _ _).grown hgrow0 (Nat.le_refl _) (fun k h => by cases h); clear hown0 hgrow0; obtain ⟨w1, hrun, HG1, hb1⟩ := copy_gen (P := Tryz.prog) w0 26 26 3 24 w.heap.size (n + 3) (n + 3) sp n sc cur0 24 (ptCells ps) Tryz.underlying26 hsz hg0 (by omega) (by omega) (HV.out _ hb0) (by omega) (ptCells_one ps) w.heap.size w hb0 (Nat.le_refl _))))
  have R0 : LRow w1 w.heap.size n ps n := by
    refine ⟨_, HG1.out, ?_, ?_⟩
    · simp; omega
    · simp [tail3]
      rw [List.take_append_of_le_length (by omega), List.take_of_length_le (by omega)]
  clear HG1
  go_loopw [4] (fun si wr => ∃ k : Nat, si = .int .i64 k ∧ n ≤ k ∧ k ≤ n + 3 ∧ LRow wr w.heap.size n ps k ∧ Below w.heap.size w wr) (fun si _ => n + 3 - (intOf si).toNat)
  case atStart => exact ⟨n, rfl, Nat.le_refl _, by omega, R0, hb1⟩
  case round =>
    obtain ⟨k, rfl, hk1, hk2, R, hbel⟩ := hrel
    by_cases hlt : k < n + 3
    · obtain ⟨u0, cu0, fu0⟩ : ∃ u, wr.cell? ⟨w.heap.size, k * 2, none⟩ = some u ∧ wr.frozen? ⟨w.heap.size, k * 2, none⟩ = false := by
        obtain ⟨cur, hg, hs, _⟩ := R
        exact row_cell hg _ (by omega)
      obtain ⟨u1, cu1, fu1⟩ : ∃ u, wr.cell? ⟨w.heap.size, k * 2 + 1, none⟩ = some u ∧ wr.frozen? ⟨w.heap.size, k * 2 + 1, none⟩ = false := by
        obtain ⟨cur, hg, hs, _⟩ := R
        exact row_cell hg _ (by omega)
      have R2 := R.put hk1 hlt
      have hb2 : Below w.heap.size w ((wr.setCell ⟨w.heap.size, k * 2, none⟩ (.int .u64 77)).setCell ⟨w.heap.size, k * 2 + 1, none⟩ (.int .u64 0)) := (hbel.setCell (Nat.le_refl _) _).setCell (Nat.le_refl _) _
      clear R hbel R0
      go_wp2
      go_roundw
      case rel => exact ⟨k + 1, by go_num, by omega, by omega, R2, hb2⟩
      case measure => simp [intOf]; omega
    · have hkn : k = n + 3 := by omega
      subst hkn
      have hrow : wr.heap[w.heap.size]? = some (.cells (ptCells (ps ++ tail3)).toArray 24 (0, 0)) := by
        obtain ⟨cur, hg, hs, ht⟩ := R
        rw [show n + 3 - n = 3 by omega, List.take_of_length_le (by simp; omega)] at ht
        rw [hg]
        congr 2
        rw [show tail3.take 3 = tail3 from rfl] at ht
        rw [← ht]
      clear R R0
      go_wp2
      go_ret
      exact ⟨rfl, hrow, hbel⟩

end Go.Proofs.YtbjjkfmdkmbcfaaGreat
