import Derived.Test.YtbjjkfmdkmbcfaaGreatRl
namespace Go.Proofs.YtbjjkfmdkmbcfaaGreat
open Go.RowKit
open PlLv

attribute [local go_sem ↓] Go.wp_at_zero Go.wp_at_succ

theorem info55 : (Tryz.prog.info? 55).map (fun i => (i.zero, i.size, i.bytes)) = some (some (.agg #[.bool false, .slice none 0 0, .bool false, .slice none 0 0]), 4, 64) := by kernel_rfl

theorem number_yes (b : Nat) (w : World) (hb : b < 2 ^ 64) (hm : mayB b = true) : Calls Tryz.prog 34 #[.int .u64 b] w fun e w' => Below w.heap.size w w' ∧ ∃ neg v ls, e = .returned (.tuple #[.agg #[.bool neg, v], .bool true]) ∧ Bg w' neg v ls (crd b) := by
  refine (number_any b w hb).mono ?_
  rintro e w' ⟨h, ⟨_, h2⟩ | ⟨h1, _⟩⟩
  · exact ⟨h, h2⟩
  · rw [hm] at h1; cases h1

theorem number_no (b : Nat) (w : World) (hb : b < 2 ^ 64) (hm : mayB b = false) : Calls Tryz.prog 34 #[.int .u64 b] w fun e w' => Below w.heap.size w w' ∧ e = .returned (.tuple #[.agg #[.bool false, .slice none 0 0], .bool false]) := by
  refine (number_any b w hb).mono ?_
  rintro e w' ⟨h, ⟨h1, _⟩ | ⟨_, h2⟩⟩
  · rw [hm] at h1; cases h1
  · exact ⟨h, h2⟩

/-- A point of the reference: its two numbers, as they lie in memory. -/
structure PB where
  nx : Bool
  vx : Value
  lx : List Nat
  ny : Bool
  vy : Value
  ly : List Nat

def pbCells (q : PB) : List Value := [.bool q.nx, q.vx, .bool q.ny, q.vy]

def PBs (w : World) (q : PB) (p : Nat × Nat) : Prop := Bg w q.nx q.vx q.lx (crd p.1) ∧ Bg w q.ny q.vy q.ly (crd p.2)

def PBL (w : World) : List PB → List (Nat × Nat) → Prop
  | [], [] => True
  | q :: qs, p :: ps => PBs w q p ∧ PBL w qs ps
  | _, _ => False

theorem PBs.kept {w w' : World} {q : PB} {p : Nat × Nat} (h : PBs w q p) (hb : Below w.heap.size w w') : PBs w' q p := ⟨h.1.kept hb, h.2.kept hb⟩

theorem PBL.kept {w w' : World} (hb : Below w.heap.size w w') : ∀ {qs : List PB} {ps : List (Nat × Nat)}, PBL w qs ps → PBL w' qs ps
  | [], [], _ => trivial
  | _ :: _, _ :: _, h => ⟨h.1.kept hb, PBL.kept hb h.2⟩
  | [], _ :: _, h => by cases h
  | _ :: _, [], h => by cases h

theorem PBL.length {w : World} : ∀ {qs : List PB} {ps : List (Nat × Nat)}, PBL w qs ps → qs.length = ps.length
  | [], [], _ => rfl
  | _ :: _, _ :: _, h => by simp [PBL.length h.2]
  | [], _ :: _, h => by cases h
  | _ :: _, [], h => by cases h

theorem PBL.append {w : World} {q : PB} {p : Nat × Nat} (hq : PBs w q p) : ∀ {qs : List PB} {ps : List (Nat × Nat)}, PBL w qs ps → PBL w (qs ++ [q]) (ps ++ [p])
  | [], [], _ => ⟨hq, trivial⟩
  | _ :: _, _ :: _, h => ⟨h.1, PBL.append hq h.2⟩
  | [], _ :: _, h => by cases h
  | _ :: _, [], h => by cases h

theorem cells_four {w : World} {a b c d : Value} {t : TypeId} {n : Nat} (hn : n = w.heap.size) : ∀ j u, [a, b, c, d][j]? = some u → (w.alloc (.cells #[a, b, c, d] t)).cell? ((⟨n, 0, none⟩ : Addr).add j) = some u := by
  intro j u hu
  subst hn
  have hadd : ∀ j, (⟨w.heap.size, 0, none⟩ : Addr).add j = ⟨w.heap.size, j, none⟩ := fun j => by unfold Addr.add; split <;> simp_all
  rw [hadd, World.cell?_alloc_at _ _ _ _ rfl]
  match j, hu with
  | 0, hu => simpa using hu
  | 1, hu => simpa using hu
  | 2, hu => simpa using hu
  | 3, hu => simpa using hu

theorem Lim.grown {w w' : World} {v : Value} {ls : List Nat} {row : Option Nat} (h : Lim w v ls) (hg : w.grownBy w' row) (hr : ∀ k, row = some k → ∀ cur, w.heap[k]? ≠ some (.cells cur 105 (0, 0))) : Lim w' v ls := by
  refine ⟨⟨h.own.1, ?_⟩, h.ok, h.len⟩
  rcases h.own.2 with hn | ⟨g, c, cur, rfl, h1, hgg, rest⟩
  · exact .inl hn
  · refine .inr ⟨g, c, cur, rfl, h1, ?_, rest⟩
    rw [hg.block g (lt_of_row hgg) (fun e => hr g e.symm cur hgg)]
    exact hgg

theorem PBs.grown {w w' : World} {q : PB} {p : Nat × Nat} {row : Option Nat} (h : PBs w q p) (hg : w.grownBy w' row) (hr : ∀ k, row = some k → ∀ cur, w.heap[k]? ≠ some (.cells cur 105 (0, 0))) : PBs w' q p :=
  ⟨⟨h.1.lim.grown hg hr, h.1.tr, h.1.eq, h.1.pos⟩, ⟨h.2.lim.grown hg hr, h.2.tr, h.2.eq, h.2.pos⟩⟩

theorem PBL.grown {w w' : World} {row : Option Nat} (hg : w.grownBy w' row) (hr : ∀ k, row = some k → ∀ cur, w.heap[k]? ≠ some (.cells cur 105 (0, 0))) : ∀ {qs : List PB} {ps : List (Nat × Nat)}, PBL w qs ps → PBL w' qs ps
  | [], [], _ => trivial
  | _ :: _, _ :: _, h => ⟨h.1.grown hg hr, PBL.grown hg hr h.2⟩
  | [], _ :: _, h => by cases h
  | _ :: _, [], h => by cases h

theorem row51 {w : World} {b : Nat} {v : Value} {n : Nat} {xs : List Value} (h : w.ownsRow b 55 4 v n xs) : ∀ k, v.ownBlock = some k → ∀ cur, w.heap[k]? ≠ some (.cells cur 105 (0, 0)) := by
  intro k hk cur hc
  rcases h.2 with ⟨rfl, _⟩ | ⟨g, c, cur', rfl, _, hg, _⟩
  · simp [Value.ownBlock] at hk
  · simp [Value.ownBlock] at hk
    subst hk
    rw [hg] at hc
    simp at hc

set_option maxHeartbeats 4000000 in
set_option maxRecDepth 100000 in
theorem points_walk (g n c : Nat) (ps : List (Nat × Nat)) (w : World) (hn : ps.length = n) (hnm : n ≤ 100000) (hg : g < w.heap.size) (hc : PtsAt w g 0 ps) (h64 : ∀ p ∈ ps, p.1 < 2 ^ 64 ∧ p.2 < 2 ^ 64) :
    Calls Tryz.prog 15 #[.slice (some ⟨g, 0, none⟩) n c] w fun e w' => Below w.heap.size w w' ∧ ((okPts ps = true ∧ ∃ v qs, e = .returned (.tuple #[v, .bool true]) ∧ w'.ownsRow w.heap.size 55 4 v n (qs.flatMap pbCells) ∧ PBL w' qs ps) ∨
      (okPts ps = false ∧ e = .returned (.tuple #[.slice none 0 0, .bool false]))) := by
  obtain ⟨i0, hi, hz0, hz1, hz2⟩ := info_parts info55
  go_enter Tryz.func15, Tryz.ntmps15
  go_wp2
  go_loopw [4, 5] (fun so si wr => ∃ (k : Nat) (qs : List PB), si = .int .i64 k ∧ k ≤ n ∧ wr.ownsRow w.heap.size 55 4 so k (qs.flatMap pbCells) ∧ PBL wr qs (ps.take k) ∧ okPts (ps.take k) = true ∧ Below w.heap.size w wr) (fun _ si _ => n - (intOf si).toNat)
  case atStart => exact ⟨0, [], rfl, Nat.zero_le _, World.ownsRow_nil _ _ _ _, by simp [PBL], by simp [okPts], Below.refl _ _⟩
  case round =>
    obtain ⟨k, qs, rfl, hk, hown, hpb, hok, hbel⟩ := hrel
    by_cases hlt : k < n
    · obtain ⟨x, y, hx, hc0, hc1⟩ : ∃ x y, (x, y) = ps.getD k (0, 0) ∧ (∀ W', Below w.heap.size w W' → W'.cell? ⟨g, k * 2, none⟩ = some (.int .u64 (x : Nat))) ∧ (∀ W', Below w.heap.size w W' → W'.cell? ⟨g, k * 2 + 1, none⟩ = some (.int .u64 (y : Nat))) := by
        have h := hc k (by omega)
        rw [Nat.zero_add] at h
        exact ⟨_, _, rfl, fun W' hb => (hb.cell (by exact hg)).trans h.1, fun W' hb => (hb.cell (by exact hg)).trans h.2⟩
      have hx64 : x < 2 ^ 64 ∧ y < 2 ^ 64 := h64 (x, y) (by rw [hx, List.getD_eq_getElem?_getD, List.getElem?_eq_getElem (by omega)]; exact List.getElem_mem _)
      obtain ⟨hx64, hy64⟩ := hx64
      have HX : Hid ((x, y) = ps.getD k (0, 0)) := hx
      have cx := hc0 wr hbel
      have hsz := hbel.size
      have hgl : g < wr.heap.size := by omega
      have HC1 : Hid (∀ W', Below w.heap.size w W' → W'.cell? ⟨g, k * 2 + 1, none⟩ = some (.int .u64 (y : Nat))) := hc1
      clear hx hc0 hc1
      rcases hmx : mayB x with _ | _
      · rcases hmy : mayB y with _ | _
        · have hno : okPts ps = false := okPts_of_take (k := k + 1) (by rw [pts_next (by omega) HX.out, okPts_snoc, hmx]; simp)
          have HNO : Hid (okPts ps = false) := hno
          clear hno
          go_wp2_with (first | (go_at_call_of 34 (Value.int IntKind.u64 ↑x); go_must (refine (number_no x _ hx64 hmx).mono ?_; rintro e w1 ⟨hb1, rfl⟩; have hgl1 : g < w1.heap.size := (by have := hb1.size; omega); have cy1 := HC1.out w1 (hbel.trans (hb1.mono hsz)))) | (go_at_call_of 34 (Value.int IntKind.u64 ↑y); go_must (refine (number_no y _ hy64 hmy).mono ?_; rintro e w2 ⟨hb2, rfl⟩; have hB2 : Below wr.heap.size wr w2 := below_step hb2 (hb1.alloc hb1.size _); have hl2 : w1.heap.size < w2.heap.size := (by have := hb2.size; simp at this; omega))))
          go_ret2
          exact ⟨hbel.trans ((hB2.alloc hB2.size _).mono hsz), .inr ⟨HNO.out, rfl⟩⟩
        · have hno : okPts ps = false := okPts_of_take (k := k + 1) (by rw [pts_next (by omega) HX.out, okPts_snoc, hmx]; simp)
          have HNO : Hid (okPts ps = false) := hno
          clear hno
          go_wp2_with (first | (go_at_call_of 34 (Value.int IntKind.u64 ↑x); go_must (refine (number_no x _ hx64 hmx).mono ?_; rintro e w1 ⟨hb1, rfl⟩; have hgl1 : g < w1.heap.size := (by have := hb1.size; omega); have cy1 := HC1.out w1 (hbel.trans (hb1.mono hsz)))) | (go_at_call_of 34 (Value.int IntKind.u64 ↑y); go_must (refine (number_yes y _ hy64 hmy).mono ?_; rintro e w2 ⟨hb2, n2, v2, l2, rfl, hg2⟩; obtain ⟨a2, c2, hv2⟩ := bg_form hg2; subst hv2; have hB2 : Below wr.heap.size wr w2 := below_step hb2 (hb1.alloc hb1.size _); have hl2 : w1.heap.size < w2.heap.size := (by have := hb2.size; simp at this; omega))))
          go_ret2
          exact ⟨hbel.trans ((hB2.alloc hB2.size _).mono hsz), .inr ⟨HNO.out, rfl⟩⟩
      · rcases hmy : mayB y with _ | _
        · have hno : okPts ps = false := okPts_of_take (k := k + 1) (by rw [pts_next (by omega) HX.out, okPts_snoc, hmy]; simp)
          have HNO : Hid (okPts ps = false) := hno
          clear hno
          go_wp2_with (first | (go_at_call_of 34 (Value.int IntKind.u64 ↑x); go_must (refine (number_yes x _ hx64 hmx).mono ?_; rintro e w1 ⟨hb1, n1, v1, l1, rfl, hg1⟩; obtain ⟨a1, c1, hv1⟩ := bg_form hg1; subst hv1; have hgl1 : g < w1.heap.size := (by have := hb1.size; omega); have cy1 := HC1.out w1 (hbel.trans (hb1.mono hsz)))) | (go_at_call_of 34 (Value.int IntKind.u64 ↑y); go_must (refine (number_no y _ hy64 hmy).mono ?_; rintro e w2 ⟨hb2, rfl⟩; have hB2 : Below wr.heap.size wr w2 := below_step hb2 (hb1.alloc hb1.size _); have hl2 : w1.heap.size < w2.heap.size := (by have := hb2.size; simp at this; omega))))
          go_ret2
          exact ⟨hbel.trans ((hB2.alloc hB2.size _).mono hsz), .inr ⟨HNO.out, rfl⟩⟩
        · have HY : Hid (okPts (ps.take (k + 1)) = true) := by unfold Hid; rw [pts_next (by omega) HX.out, okPts_snoc, hmx, hmy, hok]; rfl
          go_wp2_with (first | (go_at_call_of 34 (Value.int IntKind.u64 ↑x); go_must (refine (number_yes x _ hx64 hmx).mono ?_; rintro e w1 ⟨hb1, n1, v1, l1, rfl, hg1⟩; obtain ⟨a1, c1, hv1⟩ := bg_form hg1; subst hv1; have hgl1 : g < w1.heap.size := (by have := hb1.size; omega); have cy1 := HC1.out w1 (hbel.trans (hb1.mono hsz)))) | (go_at_call_of 34 (Value.int IntKind.u64 ↑y); go_must (refine (number_yes y _ hy64 hmy).mono ?_; rintro e w2 ⟨hb2, n2, v2, l2, rfl, hg2⟩; obtain ⟨a2, c2, hv2⟩ := bg_form hg2; subst hv2; have hB2 : Below wr.heap.size wr w2 := below_step hb2 (hb1.alloc hb1.size _); have hl2 : w1.heap.size < w2.heap.size := (by have := hb2.size; simp at this; omega); have bx0 : w2.cell? ⟨w1.heap.size, 0, none⟩ = some (.bool n1) := (by rw [(bcell hb2).1 _ _ (by simp)]; simp [go_sem]); have bx1 : w2.cell? ⟨w1.heap.size, 1, none⟩ = some (.slice a1 l1.length c1) := (by rw [(bcell hb2).1 _ _ (by simp)]; simp [go_sem]))) | (at_builtin; go_must (refine wpList_append_own _ rfl _ _ 42 rfl w.heap.size 55 i0 _ 4 64 Tryz.underlying42 hi hz0 hz1 hz2 rfl (by decide) _ k (qs.flatMap pbCells) rfl (own_kept hown ((hB2.alloc hB2.size _).alloc (by have := hB2.size; simp; omega) _)) ⟨_, 0, none⟩ 1 1 [.bool n1, .slice a1 l1.length c1, .bool n2, .slice a2 l2.length c2] rfl rfl (cells_four (by simp)) (by intro u hu; simp at hu; rcases hu with rfl | rfl | rfl | rfl <;> rfl) (by unfold maxLen; omega) (by omega) (by have := hB2.size; simp; omega) ?_; intro v' w3 h1 h2 _)))
          have hB3 : Below w.heap.size w w3 := by
            refine Below.grown (hbel.trans (((hB2.alloc hB2.size _).alloc (by have := hB2.size; simp; omega) _).mono hsz)) h2 (by have := hB2.size; simp; omega) (fun k hk => (hown.lt k hk).1)
          have hrow51 := fun (o1 o2 : Obj) => row51 (own_kept hown ((hB2.alloc hB2.size o1).alloc (by have := hB2.size; simp; omega) o2))
          have hq : PBs w3 ⟨n1, .slice a1 l1.length c1, l1, n2, .slice a2 l2.length c2, l2⟩ (x, y) := by
            refine PBs.grown ⟨Bg.kept hg1 ?_, Bg.kept hg2 ?_⟩ h2 (hrow51 _ _)
            · exact (below_step hb2 ((Below.refl _ _).alloc (Nat.le_refl _) _) |>.alloc (by have := hb2.size; simp at this; omega) _).alloc (by have := hb2.size; simp at this ⊢; omega) _
            · exact ((Below.refl _ _).alloc (Nat.le_refl _) _).alloc (by simp) _
          have hp' : PBL w3 (qs ++ [_]) (ps.take k ++ [(x, y)]) := PBL.append hq (PBL.grown h2 (hrow51 _ _) (PBL.kept ((hB2.alloc hB2.size _).alloc (by have := hB2.size; simp; omega) _) hpb))
          rw [← pts_next (by omega) HX.out] at hp'
          have h1' : w3.ownsRow w.heap.size 55 4 v' (k + 1) ((qs ++ [(⟨n1, .slice a1 l1.length c1, l1, n2, .slice a2 l2.length c2, l2⟩ : PB)]).flatMap pbCells) := by simpa [pbCells] using h1
          clear h1 h2 hq hrow51 hown hpb hok
          go_roundw
          case rel => exact ⟨k + 1, _, by go_num, by omega, h1', hp', HY.out, hB3⟩
          case measure => simp [intOf]; omega
    · have ht : ps.take k = ps := List.take_of_length_le (by omega)
      have hkn : k = n := by omega
      subst hkn
      rw [ht] at hpb hok
      clear ht
      go_wp2
      go_ret2
      exact ⟨hbel, .inl ⟨hok, _, qs, rfl, hown, hpb⟩⟩

end Go.Proofs.YtbjjkfmdkmbcfaaGreat
