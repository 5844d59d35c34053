import Derived.Test.YtbjjkfmdkmbcfaaUv
import Derived.Test.YtbjjkfmdkmbcfaaMx
namespace Go.Proofs.Ytbjjkfmdkmbcfaa
open Go.RowKit
open PlRd

attribute [local go_sem ↓] Go.wp_at_zero Go.wp_at_succ
attribute [local go_sem] frombits_run

theorem info55 : (Try.prog.info? 55).map (fun i => (i.zero, i.size, i.bytes)) = some (some (.agg #[.float .f64 0, .float .f64 0]), 2, 16) := by kernel_rfl

/-- Points as cells: spots; points. -/
def spotCells (ps : List (Nat × Nat)) : List Value := ps.flatMap fun p => [.float .f64 p.1, .float .f64 p.2]

def okPts (ps : List (Nat × Nat)) : Bool := ps.all fun p => mayB p.1 && mayB p.2

/-- The slice's cells read as the points. -/
def PtsAt (w : World) (g off : Nat) (ps : List (Nat × Nat)) : Prop := ∀ t, t < ps.length → w.cell? ⟨g, off + t * 2, none⟩ = some (.int .u64 (ps.getD t (0, 0)).1) ∧ w.cell? ⟨g, off + t * 2 + 1, none⟩ = some (.int .u64 (ps.getD t (0, 0)).2)

theorem own_kept {w w' : World} {base : Nat} {e : TypeId} {size : Nat} {v : Value} {n : Nat} {xs : List Value} (h : w.ownsRow base e size v n xs) (hb : Below w.heap.size w w') : w'.ownsRow base e size v n xs := by
  refine ⟨h.1, ?_⟩
  rcases h.2 with hn | ⟨g, c, cur, rfl, h1, hg, rest⟩
  · exact .inl hn
  · exact .inr ⟨g, c, cur, rfl, h1, by rw [hb.block g (lt_of_row hg)]; exact hg, rest⟩

theorem cells_two {w : World} {n : Nat} {a b : Value} (h0 : w.cell? ⟨n, 0, none⟩ = some a) (h1 : w.cell? ⟨n, 1, none⟩ = some b) : ∀ j u, [a, b][j]? = some u → w.cell? ((⟨n, 0, none⟩ : Addr).add j) = some u := by
  intro j u hu
  have hadd : ∀ j, (⟨n, 0, none⟩ : Addr).add j = ⟨n, j, none⟩ := fun j => by unfold Addr.add; split <;> simp_all
  rw [hadd]
  match j, hu with
  | 0, hu => simp at hu; subst hu; exact h0
  | 1, hu => simp at hu; subst hu; exact h1

theorem pts_next {ps : List (Nat × Nat)} {k x y : Nat} (h : k < ps.length) (hx : (x, y) = ps.getD k (0, 0)) : ps.take (k + 1) = ps.take k ++ [(x, y)] := by rw [take_next' (0, 0) h, hx]

theorem spotCells_snoc (ps : List (Nat × Nat)) (x y : Nat) : spotCells (ps ++ [(x, y)]) = spotCells ps ++ [.float .f64 x, .float .f64 y] := by simp [spotCells]

theorem okPts_snoc (ps : List (Nat × Nat)) (x y : Nat) : okPts (ps ++ [(x, y)]) = (okPts ps && (mayB x && mayB y)) := by simp [okPts]

theorem okPts_of_take {ps : List (Nat × Nat)} {k : Nat} (h : okPts (ps.take k) = false) : okPts ps = false := by
  have := List.take_append_drop k ps
  rw [← this]
  unfold okPts at h ⊢
  rw [List.all_append, h, Bool.false_and]

set_option maxHeartbeats 4000000 in
set_option maxRecDepth 100000 in
theorem spots_walk (g n c : Nat) (ps : List (Nat × Nat)) (w : World) (hn : ps.length = n) (hnm : n ≤ 100000) (hg : g < w.heap.size) (hc : PtsAt w g 0 ps) (h64 : ∀ p ∈ ps, p.1 < 2 ^ 64 ∧ p.2 < 2 ^ 64) :
    Calls Try.prog 24 #[.slice (some ⟨g, 0, none⟩) n c] w fun e w' => Below w.heap.size w w' ∧ ((okPts ps = true ∧ e = .returned (.tuple #[.slice (some ⟨w.heap.size, 0, none⟩) n n, .int .i64 0]) ∧ w'.ownsRow w.heap.size 55 2 (.slice (some ⟨w.heap.size, 0, none⟩) n n) n (spotCells ps)) ∨
      (okPts ps = false ∧ e = .returned (.tuple #[.slice none 0 0, .int .i64 1]))) := by
  obtain ⟨i0, hi, hz0, hz1, hz2⟩ := info_parts info55
  go_enter Try.func24, Try.ntmps24
  go_wp2_with (at_make; refine wpList_make_own _ rfl _ _ 49 rfl w.heap.size 55 i0 _ 2 Try.underlying49 hi hz0 hz1 _ _ _ n rfl rfl (by omega) (by rw [hz2]; omega) (by unfold maxLen; omega) (Nat.le_refl _) ?_; intro w0 hown0 hgrow0)
  go_wp2
  go_loopw [4, 13] (fun so si wr => ∃ k : Nat, si = .int .i64 k ∧ k ≤ n ∧ so = .slice (some ⟨w.heap.size, 0, none⟩) k n ∧ wr.ownsRow w.heap.size 55 2 (.slice (some ⟨w.heap.size, 0, none⟩) k n) k (spotCells (ps.take k)) ∧ okPts (ps.take k) = true ∧ Below w.heap.size w wr) (fun _ si _ => n - (intOf si).toNat)
  case atStart => exact ⟨0, rfl, Nat.zero_le _, rfl, by simpa [spotCells] using hown0, by simp [okPts], (Below.refl _ _).grown hgrow0 (Nat.le_refl _) (fun k h => by cases h)⟩
  case round =>
    obtain ⟨k, rfl, hk, rfl, hown, hok, hbel⟩ := hrel
    clear hown0 hgrow0
    by_cases hlt : k < n
    · obtain ⟨x, y, hx, hc0, hc1⟩ : ∃ x y, (x, y) = ps.getD k (0, 0) ∧ wr.cell? ⟨g, k * 2, none⟩ = some (.int .u64 (x : Nat)) ∧ wr.cell? ⟨g, k * 2 + 1, none⟩ = some (.int .u64 (y : Nat)) := by
        have h := hc k (by omega)
        rw [Nat.zero_add] at h
        exact ⟨_, _, rfl, (hbel.cell (by exact hg)).trans h.1, (hbel.cell (by exact hg)).trans h.2⟩
      have hx64 : x < 2 ^ 64 ∧ y < 2 ^ 64 := h64 (x, y) (by rw [hx, List.getD_eq_getElem?_getD, List.getElem?_eq_getElem (by omega)]; exact List.getElem_mem _)
      obtain ⟨hx64, hy64⟩ := hx64
      have HX : Hid ((x, y) = ps.getD k (0, 0)) := hx
      clear hx
      go_wp2
      have e0 : (wr.alloc (Obj.cells #[Value.int IntKind.u64 ↑x, Value.int IntKind.u64 ↑y] 24)).cell? ⟨wr.heap.size, 0, none⟩ = some (.int .u64 (x : Nat)) := by simp [go_sem]
      have e1 : (wr.alloc (Obj.cells #[Value.int IntKind.u64 ↑x, Value.int IntKind.u64 ↑y] 24)).cell? ⟨wr.heap.size, 1, none⟩ = some (.int .u64 (y : Nat)) := by simp [go_sem]
      go_region_held3 (fun w' => w'.cell? ⟨wr.heap.size, 0, none⟩ = some (.int .u64 (x : Nat)) ∧ w'.cell? ⟨wr.heap.size, 1, none⟩ = some (.int .u64 (y : Nat))) (go_keep) (fail)
      all_goals
        rcases hmx : mayB x with _ | _
        · have hno : okPts ps = false := okPts_of_take (k := k + 1) (by rw [pts_next (by omega) HX.out, okPts_snoc, hmx]; simp)
          go_wp2_with (go_at_call 37; refine (mayBe_any _ _ hx64).mono ?_; rintro e w' ⟨rfl, rfl⟩)
          go_ret2
          exact ⟨hbel.trans (by repeat (first | exact Below.refl _ _ | refine Below.drew ?_ | refine Below.alloc ?_ (by have := hbel.size; simp <;> omega) _)), .inr ⟨hno, rfl⟩⟩
        · rcases hmy : mayB y with _ | _
          · have hno : okPts ps = false := okPts_of_take (k := k + 1) (by rw [pts_next (by omega) HX.out, okPts_snoc, hmy]; simp)
            go_wp2_with (first | (go_at_call_of 37 (Value.float FloatKind.f64 x); refine (mayBe_any _ _ hx64).mono ?_; rintro e w' ⟨rfl, rfl⟩) | (go_at_call 37; refine (mayBe_any _ _ hy64).mono ?_; rintro e w' ⟨rfl, rfl⟩))
            go_ret2
            exact ⟨hbel.trans (by repeat (first | exact Below.refl _ _ | refine Below.drew ?_ | refine Below.alloc ?_ (by have := hbel.size; simp <;> omega) _)), .inr ⟨hno, rfl⟩⟩
          · have hyes : okPts (ps.take (k + 1)) = true := by rw [pts_next (by omega) HX.out, okPts_snoc, hmx, hmy, hok]; rfl
            have hnx : spotCells (ps.take (k + 1)) = spotCells (ps.take k) ++ [.float .f64 x, .float .f64 y] := by rw [pts_next (by omega) HX.out, spotCells_snoc]
            have HY : Hid (okPts (ps.take (k + 1)) = true) := hyes
            have HN : Hid (spotCells (ps.take (k + 1)) = spotCells (ps.take k) ++ [.float .f64 x, .float .f64 y]) := hnx
            clear hyes hnx
            go_wp2_with (first | (go_at_call_of 37 (Value.float FloatKind.f64 x); refine (mayBe_any _ _ hx64).mono ?_; rintro e w' ⟨rfl, rfl⟩) | (go_at_call 37; refine (mayBe_any _ _ hy64).mono ?_; rintro e w' ⟨rfl, rfl⟩) | (at_builtin; refine wpList_append_fits _ rfl _ _ 49 rfl w.heap.size 55 i0 2 Try.underlying49 hi hz1 w.heap.size k n _ rfl (own_kept hown (by repeat (first | exact Below.refl _ _ | refine Below.drew ?_ | refine Below.alloc ?_ (by simp <;> omega) _))) ⟨_, 0, none⟩ 1 1 [.float .f64 x, .float .f64 y] rfl rfl (cells_two (by simp [go_sem]) (by simp [go_sem])) (by intro u hu; simp at hu; rcases hu with rfl | rfl <;> rfl) (by omega) ?_; intro w1 h1 h2))
            have hB2 : Below w.heap.size w w1 := by
              refine Below.grown (hbel.trans ?_) h2 (by have := hbel.size; simp; omega) (fun k h => by cases h; exact Nat.le_refl _)
              repeat (first | exact Below.refl _ _ | refine Below.drew ?_ | refine Below.alloc ?_ (by have := hbel.size; simp <;> omega) _)
            rw [← HN.out] at h1
            clear h2 hown hbel hok
            go_roundw
            case rel => exact ⟨k + 1, by go_num, by omega, rfl, h1, HY.out, hB2⟩
            case measure => simp [intOf]; omega
    · have ht : ps.take k = ps := List.take_of_length_le (by omega)
      rw [ht] at hown hok
      have hkn : k = n := by omega
      subst hkn
      clear ht
      go_wp2
      go_ret2
      exact ⟨hbel, .inl ⟨hok, rfl, hown⟩⟩

end Go.Proofs.Ytbjjkfmdkmbcfaa
