import Derived.Test.YtbjjkfmdkmbcfaaGreatWk
import Derived.Test.YtbjjkfmdkmbcfaaGreatLm
import Derived.Laws.CopyOwn
namespace Go.Proofs.YtbjjkfmdkmbcfaaGreat
open Go.RowKit
open PlLv

attribute [local go_sem ↓] Go.wp_at_zero Go.wp_at_succ

/-- copy of elements of two cells each. -/
theorem run_copy2 {P : Program} (w : World) (dT sT ty elem : TypeId) (g o dLen dCap : Nat) (a : Addr) (sLen sCap : Nat) (cur : Array Value) (t : TypeId) (cs : List Value)
    (hu : P.underlying dT = some (.slice elem)) (hs : (P.info? elem).map (·.size) = some 2)
    (hg : w.heap[g]? = some (.cells cur t (0, 0))) (hn : cs.length = Nat.min sLen dLen * 2)
    (hsrc : ∀ j v, cs[j]? = some v → w.cell? (a.add j) = some v) (hfit : o + cs.length ≤ cur.size) (h1 : ∀ v ∈ cs, v.oneCell' = true) :
    (Builtin.copy_ #[dT, sT] ty #[.slice (some ⟨g, o, none⟩) dLen dCap, .slice (some a) sLen sCap]).run P w =
      .ok (goInt (Nat.min sLen dLen)) (w.setRow g (cur.toList.take o ++ cs ++ cur.toList.drop (o + cs.length)).toArray) := by
  have hl := run_loadCells_list (P := P) w a cs hsrc
  have hst := run_storeCells_at P g o t cs 0 cur w hg (by simpa using hfit) h1
  cases hq : P.info? elem with
  | none => simp [hq] at hs
  | some i =>
    have hi : i.size = 2 := by simpa [hq] using hs
    simp [Builtin.copy_, run_underlying hu, Builtin.lenOf, Builtin.firstCells, sizeOf, typeInfo, hq, hi, ← hn, hl, hst]

theorem wpList_copy2 {P : Program} {w : World} {ops : Array Oper} {rest : List Oper} {o : Oper} {a : Act} {Q : Exit → Act → World → Prop} (hgd : o.guard = none) (d s : Operand) (dT sT : TypeId)
    (ho : o.op = .call { callee := .builtin .copy, args := #[d, s], argTypes := #[dT, sT] }) (elem : TypeId) (hu : P.underlying dT = some (.slice elem)) (hsz : (P.info? elem).map (·.size) = some 2)
    (g dLen dCap : Nat) (sp : Option Addr) (sLen sCap : Nat) (hd : a.eval d = .slice (some ⟨g, 0, none⟩) dLen dCap) (hs : a.eval s = .slice sp sLen sCap)
    (cur : Array Value) (t : TypeId) (hg : w.heap[g]? = some (.cells cur t (0, 0))) (cs : List Value) (hn : cs.length = sLen * 2) (hle : sLen ≤ dLen)
    (hsrc : (sp = none ∧ sLen = 0 ∧ sCap = 0) ∨ ∃ ad, sp = some ad ∧ ∀ j v, cs[j]? = some v → w.cell? (ad.add j) = some v) (hfit : cs.length ≤ cur.size) (h1 : ∀ v ∈ cs, v.oneCell' = true) (B : Nat) (w0 : World) (hb : Below B w0 w) (hBg : B ≤ g)
    (h : ∀ w', Hid (w'.heap[g]? = some (.cells (cs ++ cur.toList.drop cs.length).toArray t (0, 0))) → Below B w0 w' → w'.heap.size = w.heap.size → wpList P ops Q rest (a.put o.dst (goInt sLen)) w') : wpList P ops Q (o :: rest) a w := by
  refine wpList_plain hgd fun K hK => ?_
  have hmin : Nat.min sLen dLen = sLen := Nat.min_eq_left hle
  rcases hsrc with ⟨rfl, rfl, rfl⟩ | ⟨ad, rfl, hsrc⟩
  · have hcs : cs = [] := List.eq_nil_of_length_eq_zero (by omega)
    subst hcs
    have hrun := run_copy_nil (P := P) w dT sT o.type elem ⟨g, 0, none⟩ dLen dCap hu (by cases hq : P.info? elem <;> simp [hq] at hsz ⊢)
    unfold Oper.wp
    simp [execOp, ho, resolve, invoke, builtin, hd, hs, hrun, Result.andThen]
    exact hK _ _ (h w (by show _ = _; simpa using hg) hb rfl)
  · have hrun := run_copy2 (P := P) w dT sT o.type elem g 0 dLen dCap ad sLen sCap cur t cs hu hsz hg (by rw [hmin]; exact hn) hsrc (by omega) h1
    rw [hmin] at hrun
    unfold Oper.wp
    simp [execOp, ho, resolve, invoke, builtin, hd, hs, hrun, Result.andThen]
    refine hK _ _ (h _ ?_ (below_setRow hb hBg _) (by simp [World.setRow]))
    show _ = _
    simpa using setRow_heap w g _ _ t _ hg

/-- Points as cells. -/
def ptCells (ps : List (Nat × Nat)) : List Value := ps.flatMap fun p => [.int .u64 p.1, .int .u64 p.2]

theorem ptCells_length (ps : List (Nat × Nat)) : (ptCells ps).length = ps.length * 2 := by
  induction ps with
  | nil => rfl
  | cons p ps ih => simp [ptCells] at ih ⊢; omega

theorem ptCells_at (ps : List (Nat × Nat)) : ∀ t, t < ps.length → (ptCells ps)[t * 2]? = some (.int .u64 (ps.getD t (0, 0)).1) ∧ (ptCells ps)[t * 2 + 1]? = some (.int .u64 (ps.getD t (0, 0)).2) := by
  induction ps with
  | nil => intro t ht; simp at ht
  | cons p ps ih =>
    intro t ht
    have e : ptCells (p :: ps) = .int .u64 p.1 :: .int .u64 p.2 :: ptCells ps := by simp [ptCells]
    rw [e]
    cases t with
    | zero => simp
    | succ t =>
      have h := ih t (by simpa using ht)
      rw [show (t + 1) * 2 = t * 2 + 1 + 1 by omega]
      simpa using h

theorem ptCells_append (ps qs : List (Nat × Nat)) : ptCells (ps ++ qs) = ptCells ps ++ ptCells qs := by simp [ptCells]

theorem ptCells_one (ps : List (Nat × Nat)) : ∀ v ∈ ptCells ps, v.oneCell' = true := by
  intro v hv
  simp [ptCells] at hv
  obtain ⟨a, b, _, rfl | rfl⟩ := hv <;> rfl

/-- The slice that came in: nil, or its cells. -/
def SrcAt (w : World) (v : Value) (n : Nat) (ps : List (Nat × Nat)) : Prop := (v = .slice none 0 0 ∧ n = 0) ∨ (∃ a, v = .slice (some a) 0 0 ∧ n = 0) ∨ ∃ g off c, v = .slice (some ⟨g, off, none⟩) n c ∧ g < w.heap.size ∧ PtsAt w g off ps

theorem SrcAt.form {w : World} {v : Value} {n : Nat} {ps : List (Nat × Nat)} (h : SrcAt w v n ps) : ∃ sp sc, v = .slice sp n sc := by
  rcases h with ⟨rfl, rfl⟩ | ⟨a, rfl, rfl⟩ | ⟨g, off, c, rfl, _⟩
  · exact ⟨_, _, rfl⟩
  · exact ⟨_, _, rfl⟩
  · exact ⟨_, _, rfl⟩

theorem src_cells {w : World} {g off : Nat} {ps : List (Nat × Nat)} (h : PtsAt w g off ps) : ∀ j v, (ptCells ps)[j]? = some v → w.cell? ((⟨g, off, none⟩ : Addr).add j) = some v := by
  intro j v hv
  have hadd : (⟨g, off, none⟩ : Addr).add j = ⟨g, off + j, none⟩ := by unfold Addr.add; split <;> simp_all
  rw [hadd]
  have hj : j < ps.length * 2 := by rw [← ptCells_length]; exact (List.getElem?_eq_some_iff.1 hv).1
  have ht : j / 2 < ps.length := by omega
  have h1 := h _ ht
  have h2 := ptCells_at ps _ ht
  rcases Nat.mod_two_eq_zero_or_one j with hm | hm
  · have e : j / 2 * 2 = j := by omega
    rw [e] at h1 h2
    rw [h1.1, ← hv, h2.1]
  · have e : j / 2 * 2 + 1 = j := by omega
    have e2 : off + j / 2 * 2 + 1 = off + j := by omega
    rw [e] at h2
    rw [e2] at h1
    rw [h1.2, ← hv, h2.2]

end Go.Proofs.YtbjjkfmdkmbcfaaGreat

namespace Go.Proofs.YtbjjkfmdkmbcfaaGreat
open Go.RowKit
open PlLv

attribute [local go_sem ↓] Go.wp_at_zero Go.wp_at_succ

theorem set_take2 (l : List Value) (i : Nat) (x y : Value) (h : i + 2 ≤ l.length) : ((l.set i x).set (i + 1) y).take (i + 2) = l.take i ++ [x, y] := by
  apply List.ext_getElem?
  intro j
  rw [List.getElem?_take, List.getElem?_append, List.length_take, Nat.min_eq_left (by omega)]
  by_cases h1 : j < i
  · rw [if_pos (by omega), if_pos h1, List.getElem?_set_ne (by omega), List.getElem?_set_ne (by omega), List.getElem?_take, if_pos h1]
  · rw [if_neg h1]
    by_cases h2 : j = i
    · subst h2
      rw [if_pos (by omega), List.getElem?_set_ne (by omega), List.getElem?_set_self (by omega)]
      simp
    · by_cases h3 : j = i + 1
      · subst h3
        rw [if_pos (by omega), List.getElem?_set_self (by simp; omega)]
        simp
      · rw [if_neg (by omega)]
        symm
        rw [List.getElem?_eq_none]
        simp
        omega

theorem own_row {w : World} {base n : Nat} {e : TypeId} {size g : Nat} {xs : List Value} (h : w.ownsRow base e size (.slice (some ⟨g, 0, none⟩) n n) n xs) : ∃ cur : Array Value, w.heap[g]? = some (.cells cur e (0, 0)) ∧ cur.size = n * size := by
  rcases h.2 with ⟨h1, _⟩ | ⟨g', cap', cur, h1, hbg, hgg, hnc, hcm, hcs, htake⟩
  · simp at h1
  · simp only [Value.slice.injEq, Option.some.injEq, Addr.mk.injEq, and_true, true_and] at h1
    obtain ⟨rfl, rfl⟩ := h1
    exact ⟨cur, hgg, hcs⟩

theorem copy_gen {P : Program} (w : World) (dT sT ty elem : TypeId) (g dLen dCap : Nat) (sp : Option Addr) (sLen sCap : Nat) (cur : Array Value) (t : TypeId) (cs : List Value) (hu : P.underlying dT = some (.slice elem)) (hsz : (P.info? elem).map (·.size) = some 2)
    (hg : w.heap[g]? = some (.cells cur t (0, 0))) (hn : cs.length = sLen * 2) (hle : sLen ≤ dLen) (hsrc : (sp = none ∧ sLen = 0 ∧ sCap = 0) ∨ ∃ ad, sp = some ad ∧ ∀ j v, cs[j]? = some v → w.cell? (ad.add j) = some v) (hfit : cs.length ≤ cur.size) (h1 : ∀ v ∈ cs, v.oneCell' = true) (B : Nat) (w0 : World) (hb : Below B w0 w) (hBg : B ≤ g) :
    ∃ w', (Builtin.copy_ #[dT, sT] ty #[.slice (some ⟨g, 0, none⟩) dLen dCap, .slice sp sLen sCap]).run P w = .ok (goInt sLen) w' ∧ Hid (w'.heap[g]? = some (.cells (cs ++ cur.toList.drop cs.length).toArray t (0, 0))) ∧ Below B w0 w' := by
  have hmin : Nat.min sLen dLen = sLen := Nat.min_eq_left hle
  rcases hsrc with ⟨rfl, rfl, rfl⟩ | ⟨ad, rfl, hsrc⟩
  · have hcs : cs = [] := List.eq_nil_of_length_eq_zero (by omega)
    subst hcs
    exact ⟨w, run_copy_nil (P := P) w dT sT ty elem ⟨g, 0, none⟩ dLen dCap hu (by cases hq : P.info? elem <;> simp [hq] at hsz ⊢), by show _ = _; simpa using hg, hb⟩
  · have hrun := run_copy2 (P := P) w dT sT ty elem g 0 dLen dCap ad sLen sCap cur t cs hu hsz hg (by rw [hmin]; exact hn) hsrc (by omega) h1
    rw [hmin] at hrun
    refine ⟨_, hrun, ?_, below_setRow hb hBg _⟩
    show _ = _
    simpa using setRow_heap w g _ _ t _ hg

/-- What stands behind the points that are lent. -/
def tail3 : List (Nat × Nat) := [(77, 0), (77, 0), (77, 0)]

theorem tail3_take {j : Nat} (h : j < 3) : tail3.take (j + 1) = tail3.take j ++ [(77, 0)] := by
  match j, h with
  | 0, _ => rfl
  | 1, _ => rfl
  | 2, _ => rfl

/-- The row while the points behind are laid. -/
def LRow (w : World) (G n : Nat) (ps : List (Nat × Nat)) (k : Nat) : Prop := ∃ cur : Array Value, w.heap[G]? = some (.cells cur 24 (0, 0)) ∧ cur.size = (n + 3) * 2 ∧ cur.toList.take (k * 2) = ptCells (ps ++ tail3.take (k - n))

theorem row_cell {w : World} {G : Nat} {cur : Array Value} {t : TypeId} (h : w.heap[G]? = some (.cells cur t (0, 0))) (i : Nat) (hi : i < cur.size) : ∃ u, w.cell? ⟨G, i, none⟩ = some u ∧ w.frozen? ⟨G, i, none⟩ = false := by
  refine ⟨cur[i], ?_, ?_⟩
  · simp [World.cell?, h, hi]
  · simp [World.frozen?, h]

theorem LRow.put {w : World} {G n k : Nat} {ps : List (Nat × Nat)} (h : LRow w G n ps k) (h1 : n ≤ k) (h2 : k < n + 3) : LRow ((w.setCell ⟨G, k * 2, none⟩ (.int .u64 77)).setCell ⟨G, k * 2 + 1, none⟩ (.int .u64 0)) G n ps (k + 1) := by
  obtain ⟨cur, hg, hs, ht⟩ := h
  refine ⟨_, heap_setCell_same _ G (k * 2 + 1) _ _ _ (heap_setCell_same _ G (k * 2) _ _ _ hg), by simpa using hs, ?_⟩
  have e := set_take2 cur.toList (k * 2) (.int .u64 77) (.int .u64 0) (by simp; omega)
  rw [show (k + 1) * 2 = k * 2 + 2 by omega, show k + 1 - n = (k - n) + 1 by omega, tail3_take (by omega), ← List.append_assoc, ptCells_append, ← ht]
  simpa [ptCells] using e

set_option maxHeartbeats 4000000 in
set_option maxRecDepth 100000 in
theorem lent_any (v : Value) (n : Nat) (ps : List (Nat × Nat)) (w : World) (hv : SrcAt w v n ps) (hn : ps.length = n) (hnb : n ≤ 8796093021952) :
    Calls Tryz.prog 27 #[v] w fun e w' => e = .returned (.slice (some ⟨w.heap.size, 0, none⟩) (n + 3 : Nat) (n + 3 : Nat)) ∧ w'.heap[w.heap.size]? = some (.cells (ptCells (ps ++ tail3)).toArray 24 (0, 0)) ∧ Below w.heap.size w w' := by
  obtain ⟨i0, hi, hz0, hz1, hz2⟩ := info_parts infoPt
  have hsz : (Tryz.prog.info? 24).map (·.size) = some 2 := by rw [hi]; simp [hz1]
  have hpl := ptCells_length ps
  obtain ⟨sp, sc, hvf⟩ := hv.form
  have HV : Hid (∀ w', Below w.heap.size w w' → (sp = none ∧ n = 0 ∧ sc = 0) ∨ ∃ ad, sp = some ad ∧ ∀ j u, (ptCells ps)[j]? = some u → w'.cell? (ad.add j) = some u) := fun w' hb => by
    rcases hv with ⟨h1, h2⟩ | ⟨a, h1, h2⟩ | ⟨g, off, c, h1, hg, hp⟩
    · rw [h1] at hvf
      simp at hvf
      exact .inl ⟨hvf.1.symm, h2, hvf.2.2.symm⟩
    · rw [h1] at hvf
      simp at hvf
      refine .inr ⟨a, hvf.1.symm, fun j u hu => ?_⟩
      have hps : ps = [] := List.eq_nil_of_length_eq_zero (by omega)
      subst hps
      simp [ptCells] at hu
    · rw [h1] at hvf
      simp at hvf
      refine .inr ⟨⟨g, off, none⟩, hvf.1.symm, fun j u hu => ?_⟩
      have h3 := src_cells hp j u hu
      have hadd : (⟨g, off, none⟩ : Addr).add j = ⟨g, off + j, none⟩ := by unfold Addr.add; split <;> simp_all
      rw [hadd] at h3 ⊢
      rw [hb.cell (p := ⟨g, off + j, none⟩) hg]
      exact h3
  subst hvf
  clear hv
  go_enter Tryz.func27, Tryz.ntmps27
  go_wp2_with (first | (at_make; go_must (refine wpList_make_full _ rfl _ _ 26 rfl w.heap.size 24 i0 _ 2 Tryz.underlying26 hi hz0 hz1 _ _ _ _ (n + 3) rfl rfl (by omega) (by omega) (by rw [hz2]; omega) (by unfold maxLen; omega) (Nat.le_refl _) ?_; intro w0 hown0 hgrow0; obtain ⟨cur0, hg0, hc0⟩ := own_row hown0; have hb0 : Below w.heap.size w w0 := (Below.refl _ _).grown hgrow0 (Nat.le_refl _) (fun k h => by cases h); clear hown0 hgrow0; obtain ⟨w1, hrun, HG1, hb1⟩ := copy_gen (P := Tryz.prog) w0 26 26 3 24 w.heap.size (n + 3) (n + 3) sp n sc cur0 24 (ptCells ps) Tryz.underlying26 hsz hg0 (by omega) (by omega) (HV.out _ hb0) (by omega) (ptCells_one ps) w.heap.size w hb0 (Nat.le_refl _))))
  have R0 : LRow w1 w.heap.size n ps n := by
    refine ⟨_, HG1.out, ?_, ?_⟩
    · simp; omega
    · simp [tail3]
      rw [List.take_append_of_le_length (by omega), List.take_of_length_le (by omega)]
  clear HG1
  go_loopw [4] (fun si wr => ∃ k : Nat, si = .int .i64 k ∧ n ≤ k ∧ k ≤ n + 3 ∧ LRow wr w.heap.size n ps k ∧ Below w.heap.size w wr) (fun si _ => n + 3 - (intOf si).toNat)
  case atStart => exact ⟨n, rfl, Nat.le_refl _, by omega, R0, hb1⟩
  case round =>
    obtain ⟨k, rfl, hk1, hk2, R, hbel⟩ := hrel
    by_cases hlt : k < n + 3
    · obtain ⟨u0, cu0, fu0⟩ : ∃ u, wr.cell? ⟨w.heap.size, k * 2, none⟩ = some u ∧ wr.frozen? ⟨w.heap.size, k * 2, none⟩ = false := by
        obtain ⟨cur, hg, hs, _⟩ := R
        exact row_cell hg _ (by omega)
      obtain ⟨u1, cu1, fu1⟩ : ∃ u, wr.cell? ⟨w.heap.size, k * 2 + 1, none⟩ = some u ∧ wr.frozen? ⟨w.heap.size, k * 2 + 1, none⟩ = false := by
        obtain ⟨cur, hg, hs, _⟩ := R
        exact row_cell hg _ (by omega)
      have R2 := R.put hk1 hlt
      have hb2 : Below w.heap.size w ((wr.setCell ⟨w.heap.size, k * 2, none⟩ (.int .u64 77)).setCell ⟨w.heap.size, k * 2 + 1, none⟩ (.int .u64 0)) := (hbel.setCell (Nat.le_refl _) _).setCell (Nat.le_refl _) _
      clear R hbel R0
      go_wp2
      go_roundw
      case rel => exact ⟨k + 1, by go_num, by omega, by omega, R2, hb2⟩
      case measure => simp [intOf]; omega
    · have hkn : k = n + 3 := by omega
      subst hkn
      have hrow : wr.heap[w.heap.size]? = some (.cells (ptCells (ps ++ tail3)).toArray 24 (0, 0)) := by
        obtain ⟨cur, hg, hs, ht⟩ := R
        rw [show n + 3 - n = 3 by omega, List.take_of_length_le (by simp; omega)] at ht
        rw [hg]
        congr 2
        rw [show tail3.take 3 = tail3 from rfl] at ht
        rw [← ht]
      clear R R0
      go_wp2
      go_ret
      exact ⟨rfl, hrow, hbel⟩

end Go.Proofs.YtbjjkfmdkmbcfaaGreat

namespace Go.Proofs.YtbjjkfmdkmbcfaaGreat
open Go.RowKit
open PlLv

attribute [local go_sem ↓] Go.wp_at_zero Go.wp_at_succ

/-- The row while it is written over: from place k on it reads as ever. -/
def WRow (w : World) (A : Nat) (qs : List (Nat × Nat)) (k : Nat) : Prop := ∃ cur : Array Value, w.heap[A]? = some (.cells cur 24 (0, 0)) ∧ cur.size = qs.length * 2 ∧ cur.toList.drop (k * 2) = (ptCells qs).drop (k * 2)

theorem WRow.cells {w : World} {A k : Nat} {qs : List (Nat × Nat)} (h : WRow w A qs k) (hk : k < qs.length) : (w.cell? ⟨A, k * 2, none⟩ = some (.int .u64 (qs.getD k (0, 0)).1) ∧ w.cell? ⟨A, k * 2 + 1, none⟩ = some (.int .u64 (qs.getD k (0, 0)).2)) ∧ w.frozen? ⟨A, k * 2, none⟩ = false ∧ w.frozen? ⟨A, k * 2 + 1, none⟩ = false := by
  obtain ⟨cur, hg, hs, hd⟩ := h
  have h2 := ptCells_at qs k hk
  have e0 : cur.toList[k * 2]? = (ptCells qs)[k * 2]? := by
    have := congrArg (fun l => l[0]?) hd
    simpa [List.getElem?_drop] using this
  have e1 : cur.toList[k * 2 + 1]? = (ptCells qs)[k * 2 + 1]? := by
    have := congrArg (fun l => l[1]?) hd
    simpa [List.getElem?_drop] using this
  rw [h2.1] at e0
  rw [h2.2] at e1
  refine ⟨⟨?_, ?_⟩, ?_, ?_⟩
  · simpa [World.cell?, hg] using e0
  · simpa [World.cell?, hg] using e1
  · simp [World.frozen?, hg]
  · simp [World.frozen?, hg]

theorem drop_set2 (l : List Value) (i : Nat) (x y : Value) : ((l.set i x).set (i + 1) y).drop (i + 2) = l.drop (i + 2) := by
  apply List.ext_getElem?
  intro j
  rw [List.getElem?_drop, List.getElem?_drop, List.getElem?_set_ne (by omega), List.getElem?_set_ne (by omega)]

theorem WRow.put {w : World} {A k : Nat} {qs : List (Nat × Nat)} {x y : Value} (h : WRow w A qs k) : WRow ((w.setCell ⟨A, k * 2, none⟩ x).setCell ⟨A, k * 2 + 1, none⟩ y) A qs (k + 1) := by
  obtain ⟨cur, hg, hs, hd⟩ := h
  refine ⟨_, heap_setCell_same _ A (k * 2 + 1) _ _ _ (heap_setCell_same _ A (k * 2) _ _ _ hg), by simpa using hs, ?_⟩
  have e := drop_set2 cur.toList (k * 2) x y
  have e2 := congrArg (List.drop 2) hd
  rw [List.drop_drop, List.drop_drop] at e2
  rw [show (k + 1) * 2 = k * 2 + 2 by omega]
  simp only [Array.toList_setIfInBounds]
  rw [e]
  exact e2

theorem row_of_full {w : World} {A : Nat} {qs : List (Nat × Nat)} (h : w.heap[A]? = some (.cells (ptCells qs).toArray 24 (0, 0))) (k : Nat) : WRow w A qs k := ⟨_, h, by simp [ptCells_length], by simp⟩

set_option maxHeartbeats 8000000 in
set_option maxRecDepth 100000 in
theorem whole_any (A n : Nat) (v : Value) (ps : List (Nat × Nat)) (w : World) (hA : w.heap[A]? = some (.cells (ptCells (ps ++ tail3)).toArray 24 (0, 0))) (hv : SrcAt w v n ps) (hn : ps.length = n) (hnb : n ≤ 8796093021952) :
    Calls Tryz.prog 29 #[.slice (some ⟨A, 0, none⟩) (n + 3 : Nat) (n + 3 : Nat), v] w fun e w' => e = .returned (.bool true) ∧ Below A w w' := by
  have hAl : A < w.heap.size := lt_of_row hA
  have hql : (ps ++ tail3).length = n + 3 := by simp [tail3, hn]
  obtain ⟨qs, hqs⟩ : ∃ qs, qs = ps ++ tail3 := ⟨_, rfl⟩
  have HL : Hid (Calls Tryz.prog 27 #[v] w fun e w' => e = .returned (.slice (some ⟨w.heap.size, 0, none⟩) (n + 3 : Nat) (n + 3 : Nat)) ∧ w'.heap[w.heap.size]? = some (.cells (ptCells qs).toArray 24 (0, 0)) ∧ Below w.heap.size w w') := by rw [hqs]; exact lent_any v n ps w hv hn hnb
  obtain ⟨sp, sc, hvf⟩ := hv.form
  subst hvf
  rw [← hqs] at hA hql
  clear hv hqs
  have HA : Hid (w.heap[A]? = some (.cells (ptCells qs).toArray 24 (0, 0))) := hA
  clear hA
  go_enter Tryz.func29, Tryz.ntmps29
  go_wp2_with (go_at_call 27; go_must (refine HL.out.mono ?_; rintro e w1 ⟨rfl, hH, hb1⟩))
  have RH : Hid (w1.heap[w.heap.size]? = some (.cells (ptCells qs).toArray 24 (0, 0))) := hH
  have RA : WRow w1 A qs 0 := row_of_full (by rw [hb1.block _ hAl]; exact HA.out) 0
  have hlt1 : w.heap.size < w1.heap.size := lt_of_row hH
  clear hH
  go_loopw [6, 7] (fun so si wr => ∃ k : Nat, si = .int .i64 k ∧ so = .bool true ∧ k ≤ n + 3 ∧ WRow wr A qs k ∧ Hid (wr.heap[w.heap.size]? = some (.cells (ptCells qs).toArray 24 (0, 0))) ∧ Below A w wr) (fun _ si _ => n + 3 - (intOf si).toNat)
  case atStart => exact ⟨0, rfl, rfl, Nat.zero_le _, RA, RH, hb1.mono (by omega)⟩
  case round =>
    obtain ⟨k, rfl, rfl, hk, R, RHr, hbel⟩ := hrel
    clear RA RH
    by_cases hlt : k < n + 3
    · obtain ⟨x, y, hxy⟩ : ∃ x y, (x, y) = qs.getD k (0, 0) := ⟨_, _, rfl⟩
      have hca := R.cells (by omega)
      have hch := (row_of_full RHr.out k).cells (by omega)
      rw [← hxy] at hca hch
      simp only at hca hch
      obtain ⟨ca, fa0, fa1⟩ := hca
      obtain ⟨ch, _, _⟩ := hch
      have hne : w.heap.size ≠ A := by omega
      have R2 := R.put (x := .int .u64 99) (y := .int .u64 0)
      have RH2 : Hid (((wr.setCell ⟨A, k * 2, none⟩ (.int .u64 99)).setCell ⟨A, k * 2 + 1, none⟩ (.int .u64 0)).heap[w.heap.size]? = some (.cells (ptCells qs).toArray 24 (0, 0))) := by
        unfold Hid
        rw [Below.heap_setCell _ ⟨A, k * 2 + 1, none⟩ _ _ hne, Below.heap_setCell _ ⟨A, k * 2, none⟩ _ _ hne]
        exact RHr.out
      have hb2 : Below A w ((wr.setCell ⟨A, k * 2, none⟩ (.int .u64 99)).setCell ⟨A, k * 2 + 1, none⟩ (.int .u64 0)) := (hbel.setCell (Nat.le_refl _) _).setCell (Nat.le_refl _) _
      clear R RHr hxy
      go_wp2_with fail
      go_region_held3 (fun w' : World => (w'.cell? ⟨A, k * 2, none⟩ = some (.int .u64 x) ∧ w'.cell? ⟨A, k * 2 + 1, none⟩ = some (.int .u64 y)) ∧ (w'.cell? ⟨w.heap.size, k * 2, none⟩ = some (.int .u64 x) ∧ w'.cell? ⟨w.heap.size, k * 2 + 1, none⟩ = some (.int .u64 y))) (exact ⟨ca, ch⟩) (fail)
      all_goals
        go_wp2
        go_roundw
        case rel => exact ⟨k + 1, by go_num, rfl, by omega, R2, RH2, hb2.drew⟩
        case measure => simp [intOf]; omega
    · have hkn : k = n + 3 := by omega
      subst hkn
      clear R RHr
      go_wp2
      go_ret
      exact ⟨rfl, hbel⟩

end Go.Proofs.YtbjjkfmdkmbcfaaGreat

namespace Go.Proofs.YtbjjkfmdkmbcfaaGreat
open Go.RowKit
open PlLv

attribute [local go_sem ↓] Go.wp_at_zero Go.wp_at_succ

set_option maxHeartbeats 4000000 in
set_option maxRecDepth 100000 in
theorem points_off (g off n c : Nat) (ps : List (Nat × Nat)) (w : World) (hn : ps.length = n) (hnm : n ≤ 100000) (hg : g < w.heap.size) (hc : PtsAt w g off ps) (h64 : ∀ p ∈ ps, p.1 < 2 ^ 64 ∧ p.2 < 2 ^ 64) :
    Calls Tryz.prog 15 #[.slice (some ⟨g, off, none⟩) n c] w fun e w' => Below w.heap.size w w' ∧ ((okPts ps = true ∧ ∃ v qs, e = .returned (.tuple #[v, .bool true]) ∧ w'.ownsRow w.heap.size 55 4 v n (qs.flatMap pbCells) ∧ PBL w' qs ps) ∨
      (okPts ps = false ∧ e = .returned (.tuple #[.slice none 0 0, .bool false]))) := by
  obtain ⟨i0, hi, hz0, hz1, hz2⟩ := info_parts info55
  go_enter Tryz.func15, Tryz.ntmps15
  go_wp2
  go_loopw [4, 5] (fun so si wr => ∃ (k : Nat) (qs : List PB), si = .int .i64 k ∧ k ≤ n ∧ wr.ownsRow w.heap.size 55 4 so k (qs.flatMap pbCells) ∧ PBL wr qs (ps.take k) ∧ okPts (ps.take k) = true ∧ Below w.heap.size w wr) (fun _ si _ => n - (intOf si).toNat)
  case atStart => exact ⟨0, [], rfl, Nat.zero_le _, World.ownsRow_nil _ _ _ _, by simp [PBL], by simp [okPts], Below.refl _ _⟩
  case round =>
    obtain ⟨k, qs, rfl, hk, hown, hpb, hok, hbel⟩ := hrel
    by_cases hlt : k < n
    · obtain ⟨x, y, hx, hc0, hc1⟩ : ∃ x y, (x, y) = ps.getD k (0, 0) ∧ (∀ W', Below w.heap.size w W' → W'.cell? ⟨g, off + k * 2, none⟩ = some (.int .u64 (x : Nat))) ∧ (∀ W', Below w.heap.size w W' → W'.cell? ⟨g, off + k * 2 + 1, none⟩ = some (.int .u64 (y : Nat))) := by
        have h := hc k (by omega)
        exact ⟨_, _, rfl, fun W' hb => (hb.cell (by exact hg)).trans h.1, fun W' hb => (hb.cell (by exact hg)).trans h.2⟩
      have hx64 : x < 2 ^ 64 ∧ y < 2 ^ 64 := h64 (x, y) (by rw [hx, List.getD_eq_getElem?_getD, List.getElem?_eq_getElem (by omega)]; exact List.getElem_mem _)
      obtain ⟨hx64, hy64⟩ := hx64
      have HX : Hid ((x, y) = ps.getD k (0, 0)) := hx
      have cx := hc0 wr hbel
      have hsz := hbel.size
      have hgl : g < wr.heap.size := by omega
      have HC1 : Hid (∀ W', Below w.heap.size w W' → W'.cell? ⟨g, off + k * 2 + 1, none⟩ = some (.int .u64 (y : Nat))) := hc1
      clear hx hc0 hc1
      rcases hmx : mayB x with _ | _
      · rcases hmy : mayB y with _ | _
        · have hno : okPts ps = false := okPts_of_take (k := k + 1) (by rw [pts_next (by omega) HX.out, okPts_snoc, hmx]; simp)
          have HNO : Hid (okPts ps = false) := hno
          clear hno
          go_wp2_with (first | (go_at_call_of 34 (Value.int IntKind.u64 ↑x); go_must (refine (number_no x _ hx64 hmx).mono ?_; rintro e w1 ⟨hb1, rfl⟩; have hgl1 : g < w1.heap.size := (by have := hb1.size; omega); have cy1 := HC1.out w1 (hbel.trans (hb1.mono hsz)))) | (go_at_call_of 34 (Value.int IntKind.u64 ↑y); go_must (refine (number_no y _ hy64 hmy).mono ?_; rintro e w2 ⟨hb2, rfl⟩; have hB2 : Below wr.heap.size wr w2 := below_step hb2 (hb1.alloc hb1.size _); have hl2 : w1.heap.size < w2.heap.size := (by have := hb2.size; simp at this; omega))))
          go_ret2
          exact ⟨hbel.trans ((hB2.alloc hB2.size _).mono hsz), .inr ⟨HNO.out, rfl⟩⟩
        · have hno : okPts ps = false := okPts_of_take (k := k + 1) (by rw [pts_next (by omega) HX.out, okPts_snoc, hmx]; simp)
          have HNO : Hid (okPts ps = false) := hno
          clear hno
          go_wp2_with (first | (go_at_call_of 34 (Value.int IntKind.u64 ↑x); go_must (refine (number_no x _ hx64 hmx).mono ?_; rintro e w1 ⟨hb1, rfl⟩; have hgl1 : g < w1.heap.size := (by have := hb1.size; omega); have cy1 := HC1.out w1 (hbel.trans (hb1.mono hsz)))) | (go_at_call_of 34 (Value.int IntKind.u64 ↑y); go_must (refine (number_yes y _ hy64 hmy).mono ?_; rintro e w2 ⟨hb2, n2, v2, l2, rfl, hg2⟩; obtain ⟨a2, c2, hv2⟩ := bg_form hg2; subst hv2; have hB2 : Below wr.heap.size wr w2 := below_step hb2 (hb1.alloc hb1.size _); have hl2 : w1.heap.size < w2.heap.size := (by have := hb2.size; simp at this; omega))))
          go_ret2
          exact ⟨hbel.trans ((hB2.alloc hB2.size _).mono hsz), .inr ⟨HNO.out, rfl⟩⟩
      · rcases hmy : mayB y with _ | _
        · have hno : okPts ps = false := okPts_of_take (k := k + 1) (by rw [pts_next (by omega) HX.out, okPts_snoc, hmy]; simp)
          have HNO : Hid (okPts ps = false) := hno
          clear hno
          go_wp2_with (first | (go_at_call_of 34 (Value.int IntKind.u64 ↑x); go_must (refine (number_yes x _ hx64 hmx).mono ?_; rintro e w1 ⟨hb1, n1, v1, l1, rfl, hg1⟩; obtain ⟨a1, c1, hv1⟩ := bg_form hg1; subst hv1; have hgl1 : g < w1.heap.size := (by have := hb1.size; omega); have cy1 := HC1.out w1 (hbel.trans (hb1.mono hsz)))) | (go_at_call_of 34 (Value.int IntKind.u64 ↑y); go_must (refine (number_no y _ hy64 hmy).mono ?_; rintro e w2 ⟨hb2, rfl⟩; have hB2 : Below wr.heap.size wr w2 := below_step hb2 (hb1.alloc hb1.size _); have hl2 : w1.heap.size < w2.heap.size := (by have := hb2.size; simp at this; omega))))
          go_ret2
          exact ⟨hbel.trans ((hB2.alloc hB2.size _).mono hsz), .inr ⟨HNO.out, rfl⟩⟩
        · have HY : Hid (okPts (ps.take (k + 1)) = true) := by unfold Hid; rw [pts_next (by omega) HX.out, okPts_snoc, hmx, hmy, hok]; rfl
          go_wp2_with (first | (go_at_call_of 34 (Value.int IntKind.u64 ↑x); go_must (refine (number_yes x _ hx64 hmx).mono ?_; rintro e w1 ⟨hb1, n1, v1, l1, rfl, hg1⟩; obtain ⟨a1, c1, hv1⟩ := bg_form hg1; subst hv1; have hgl1 : g < w1.heap.size := (by have := hb1.size; omega); have cy1 := HC1.out w1 (hbel.trans (hb1.mono hsz)))) | (go_at_call_of 34 (Value.int IntKind.u64 ↑y); go_must (refine (number_yes y _ hy64 hmy).mono ?_; rintro e w2 ⟨hb2, n2, v2, l2, rfl, hg2⟩; obtain ⟨a2, c2, hv2⟩ := bg_form hg2; subst hv2; have hB2 : Below wr.heap.size wr w2 := below_step hb2 (hb1.alloc hb1.size _); have hl2 : w1.heap.size < w2.heap.size := (by have := hb2.size; simp at this; omega); have bx0 : w2.cell? ⟨w1.heap.size, 0, none⟩ = some (.bool n1) := (by rw [(bcell hb2).1 _ _ (by simp)]; simp [go_sem]); have bx1 : w2.cell? ⟨w1.heap.size, 1, none⟩ = some (.slice a1 l1.length c1) := (by rw [(bcell hb2).1 _ _ (by simp)]; simp [go_sem]))) | (at_builtin; go_must (refine wpList_append_own _ rfl _ _ 42 rfl w.heap.size 55 i0 _ 4 64 Tryz.underlying42 hi hz0 hz1 hz2 rfl (by decide) _ k (qs.flatMap pbCells) rfl (own_kept hown ((hB2.alloc hB2.size _).alloc (by have := hB2.size; simp; omega) _)) ⟨_, 0, none⟩ 1 1 [.bool n1, .slice a1 l1.length c1, .bool n2, .slice a2 l2.length c2] rfl rfl (cells_four (by simp)) (by intro u hu; simp at hu; rcases hu with rfl | rfl | rfl | rfl <;> rfl) (by unfold maxLen; omega) (by omega) (by have := hB2.size; simp; omega) ?_; intro v' w3 h1 h2 _)))
          have hB3 : Below w.heap.size w w3 := by
            refine Below.grown (hbel.trans (((hB2.alloc hB2.size _).alloc (by have := hB2.size; simp; omega) _).mono hsz)) h2 (by have := hB2.size; simp; omega) (fun k hk => (hown.lt k hk).1)
          have hrow51 := fun (o1 o2 : Obj) => row51 (own_kept hown ((hB2.alloc hB2.size o1).alloc (by have := hB2.size; simp; omega) o2))
          have hq : PBs w3 ⟨n1, .slice a1 l1.length c1, l1, n2, .slice a2 l2.length c2, l2⟩ (x, y) := by
            refine PBs.grown ⟨Bg.kept hg1 ?_, Bg.kept hg2 ?_⟩ h2 (hrow51 _ _)
            · exact (below_step hb2 ((Below.refl _ _).alloc (Nat.le_refl _) _) |>.alloc (by have := hb2.size; simp at this; omega) _).alloc (by have := hb2.size; simp at this ⊢; omega) _
            · exact ((Below.refl _ _).alloc (Nat.le_refl _) _).alloc (by simp) _
          have hp' : PBL w3 (qs ++ [_]) (ps.take k ++ [(x, y)]) := PBL.append hq (PBL.grown h2 (hrow51 _ _) (PBL.kept ((hB2.alloc hB2.size _).alloc (by have := hB2.size; simp; omega) _) hpb))
          rw [← pts_next (by omega) HX.out] at hp'
          have h1' : w3.ownsRow w.heap.size 55 4 v' (k + 1) ((qs ++ [(⟨n1, .slice a1 l1.length c1, l1, n2, .slice a2 l2.length c2, l2⟩ : PB)]).flatMap pbCells) := by simpa [pbCells] using h1
          clear h1 h2 hq hrow51 hown hpb hok
          go_roundw
          case rel => exact ⟨k + 1, _, by go_num, by omega, h1', hp', HY.out, hB3⟩
          case measure => simp [intOf]; omega
    · have ht : ps.take k = ps := List.take_of_length_le (by omega)
      have hkn : k = n := by omega
      subst hkn
      rw [ht] at hpb hok
      clear ht
      go_wp2
      go_ret2
      exact ⟨hbel, .inl ⟨hok, _, qs, rfl, hown, hpb⟩⟩


set_option maxHeartbeats 1000000 in
theorem points_nil (w : World) : Calls Tryz.prog 15 #[.slice none 0 0] w fun e w' => Below w.heap.size w w' ∧ e = .returned (.tuple #[.slice none 0 0, .bool true]) := by
  go_enter Tryz.func15, Tryz.ntmps15
  go_wp2
  refine wp_loop_rounds 1 ?_
  rw [rounds_succ]
  go_wp2
  go_ret2
  exact ⟨Below.refl _ _, rfl⟩

set_option maxHeartbeats 1000000 in
theorem points_zero (a : Addr) (w : World) : Calls Tryz.prog 15 #[.slice (some a) 0 0] w fun e w' => Below w.heap.size w w' ∧ e = .returned (.tuple #[.slice none 0 0, .bool true]) := by
  go_enter Tryz.func15, Tryz.ntmps15
  go_wp2
  refine wp_loop_rounds 1 ?_
  rw [rounds_succ]
  go_wp2
  go_ret2
  exact ⟨Below.refl _ _, rfl⟩

/-- The reference's polygon, as it lies in memory. -/
def PolyAt (w : World) (v : Value) (n : Nat) (ps : List (Nat × Nat)) : Prop := (v = .slice none 0 0 ∧ n = 0) ∨ ∃ g c, v = .slice (some ⟨g, 0, none⟩) n c ∧ g < w.heap.size ∧ ∃ f : Nat → PB, ∀ i, i < n → PtAt w g i (f i) (crdX ps i)

theorem pbl_at {w : World} : ∀ {qs : List PB} {ps : List (Nat × Nat)}, PBL w qs ps → ∀ i, i < ps.length → PBs w (qs.getD i ⟨false, default, [], false, default, []⟩) (ps.getD i (0, 0))
  | [], [], _, i, hi => by simp at hi
  | q :: qs, p :: ps, h, i, hi => by
    cases i with
    | zero => exact h.1
    | succ i => exact pbl_at h.2 i (by simpa using hi)
  | [], _ :: _, h, _, _ => by cases h
  | _ :: _, [], h, _, _ => by cases h

theorem pbcells_at (qs : List PB) : ∀ i, i < qs.length → (qs.flatMap pbCells)[i * 4]? = some (.bool (qs.getD i ⟨false, default, [], false, default, []⟩).nx) ∧ (qs.flatMap pbCells)[i * 4 + 1]? = some (qs.getD i ⟨false, default, [], false, default, []⟩).vx ∧ (qs.flatMap pbCells)[i * 4 + 2]? = some (.bool (qs.getD i ⟨false, default, [], false, default, []⟩).ny) ∧ (qs.flatMap pbCells)[i * 4 + 3]? = some (qs.getD i ⟨false, default, [], false, default, []⟩).vy := by
  induction qs with
  | nil => intro i hi; simp at hi
  | cons q qs ih =>
    intro i hi
    have e : (q :: qs).flatMap pbCells = .bool q.nx :: q.vx :: .bool q.ny :: q.vy :: qs.flatMap pbCells := by simp [pbCells]
    rw [e]
    cases i with
    | zero => simp
    | succ i =>
      have h := ih i (by simpa using hi)
      rw [show (i + 1) * 4 = i * 4 + 1 + 1 + 1 + 1 by omega]
      simpa using h

theorem pbcells_length (qs : List PB) : (qs.flatMap pbCells).length = qs.length * 4 := by
  induction qs with
  | nil => rfl
  | cons q qs ih => simp [pbCells] at ih ⊢; omega

theorem poly_of {w : World} {base n : Nat} {v : Value} {qs : List PB} {ps : List (Nat × Nat)} (hown : w.ownsRow base 55 4 v n (qs.flatMap pbCells)) (hp : PBL w qs ps) (hn : ps.length = n) (hok : okPts ps = true) : PolyAt w v n ps := by
  have hl := hp.length
  have h0 := hown
  rcases hown.2 with ⟨h1, h2⟩ | ⟨g, c, cur, rfl, _, hg, _⟩
  · exact .inl ⟨h1, by first | exact h2 | omega⟩
  · refine .inr ⟨g, c, rfl, lt_of_row hg, fun i => qs.getD i ⟨false, default, [], false, default, []⟩, fun i hi => ?_⟩
    have hc := pbcells_at qs i (by omega)
    have hb := pbl_at hp i (by omega)
    have hm := ok_at hok i (by omega)
    have hll := pbcells_length qs
    refine ⟨⟨?_, ?_, ?_, ?_⟩, hb.1, hb.2, crd_lt hm.1, crd_lt hm.2⟩
    · exact (h0.cellAt _ (by omega)).trans hc.1
    · exact (h0.cellAt _ (by omega)).trans hc.2.1
    · exact (h0.cellAt _ (by omega)).trans hc.2.2.1
    · exact (h0.cellAt _ (by omega)).trans hc.2.2.2

theorem points_yes (v : Value) (n : Nat) (ps : List (Nat × Nat)) (w : World) (hv : SrcAt w v n ps) (hn : ps.length = n) (hnm : n ≤ 100000) (h64 : ∀ p ∈ ps, p.1 < 2 ^ 64 ∧ p.2 < 2 ^ 64) (hok : okPts ps = true) :
    Calls Tryz.prog 15 #[v] w fun e w' => Below w.heap.size w w' ∧ ∃ v', e = .returned (.tuple #[v', .bool true]) ∧ PolyAt w' v' n ps := by
  rcases hv with ⟨rfl, rfl⟩ | ⟨a, rfl, rfl⟩ | ⟨g, off, c, rfl, hg, hp⟩
  · refine (points_nil w).mono ?_
    rintro e w' ⟨hb, rfl⟩
    exact ⟨hb, _, rfl, .inl ⟨rfl, rfl⟩⟩
  · refine (points_zero a w).mono ?_
    rintro e w' ⟨hb, rfl⟩
    exact ⟨hb, _, rfl, .inl ⟨rfl, rfl⟩⟩
  · refine (points_off g off n c ps w hn hnm hg hp h64).mono ?_
    rintro e w' ⟨hb, ⟨_, v', qs, rfl, hown, hpb⟩ | ⟨h, _⟩⟩
    · exact ⟨hb, v', rfl, poly_of hown hpb hn hok⟩
    · rw [hok] at h; cases h

theorem points_no (v : Value) (n : Nat) (ps : List (Nat × Nat)) (w : World) (hv : SrcAt w v n ps) (hn : ps.length = n) (hnm : n ≤ 100000) (h64 : ∀ p ∈ ps, p.1 < 2 ^ 64 ∧ p.2 < 2 ^ 64) (hok : okPts ps = false) :
    Calls Tryz.prog 15 #[v] w fun e w' => Below w.heap.size w w' ∧ e = .returned (.tuple #[.slice none 0 0, .bool false]) := by
  rcases hv with ⟨rfl, rfl⟩ | ⟨a, rfl, rfl⟩ | ⟨g, off, c, rfl, hg, hp⟩
  · have hps : ps = [] := List.eq_nil_of_length_eq_zero hn
    subst hps
    cases hok
  · have hps : ps = [] := List.eq_nil_of_length_eq_zero hn
    subst hps
    cases hok
  · refine (points_off g off n c ps w hn hnm hg hp h64).mono ?_
    rintro e w' ⟨hb, ⟨h, _⟩ | ⟨_, rfl⟩⟩
    · rw [hok] at h; cases h
    · exact ⟨hb, rfl⟩

theorem PolyAt.kept {w w' : World} {v : Value} {n : Nat} {ps : List (Nat × Nat)} (h : PolyAt w v n ps) (hb : Below w.heap.size w w') : PolyAt w' v n ps := by
  rcases h with h | ⟨g, c, rfl, hg, f, hf⟩
  · exact .inl h
  · obtain ⟨hc, _⟩ := bcell hb
    refine .inr ⟨g, c, rfl, Nat.lt_of_lt_of_le hg hb.size, f, fun i hi => ?_⟩
    obtain ⟨h1, h2, h3, h4⟩ := hf i hi
    refine ⟨?_, h2.kept hb, h3.kept hb, h4⟩
    rw [hc _ _ hg, hc _ _ hg, hc _ _ hg, hc _ _ hg]
    exact h1

theorem PolyAt.form {w : World} {v : Value} {n : Nat} {ps : List (Nat × Nat)} (h : PolyAt w v n ps) : ∃ o c, v = .slice o n c := by
  rcases h with ⟨rfl, rfl⟩ | ⟨g, c, rfl, _⟩
  · exact ⟨_, _, rfl⟩
  · exact ⟨_, _, rfl⟩

theorem rinside_gen (v : Value) (n : Nat) (ps : List (Nat × Nat)) (npx : Bool) (opx : Option Addr) (kpx : Nat) (lpx : List Nat) (Xpx : Int) (npy : Bool) (opy : Option Addr) (kpy : Nat) (lpy : List Nat) (Xpy : Int) (w : World) (hv : PolyAt w v n ps) (hn : n ≤ 100000) (hpx : Bg w npx (.slice opx lpx.length kpx) lpx Xpx) (spx : Xpx.natAbs < 2 ^ 200) (hpy : Bg w npy (.slice opy lpy.length kpy) lpy Xpy) (spy : Xpy.natAbs < 2 ^ 200) :
    Calls Tryz.prog 30 #[v, .agg #[.bool npx, .slice opx lpx.length kpx, .bool npy, .slice opy lpy.length kpy]] w fun e w' => Below w.heap.size w w' ∧ e = .returned (.int .i64 (insV (crdX ps) n (Xpx, Xpy))) := by
  rcases hv with ⟨rfl, rfl⟩ | ⟨g, c, rfl, hg, f, hf⟩
  · refine (rinside_nil 0 npx npy _ _ w).mono ?_
    rintro e w' ⟨hb, rfl⟩
    refine ⟨hb, ?_⟩
    rw [show insV (crdX ps) 0 (Xpx, Xpy) = -1 from by simp [insV, crsN]]
  · exact rinside_any g n c f (crdX ps) npx opx kpx lpx Xpx npy opy kpy lpy Xpy w hn hg hf hpx spx hpy spy

end Go.Proofs.YtbjjkfmdkmbcfaaGreat
