import Derived.Test.YtbjjkfmdkmbcfaaWz
import Derived.Test.YtbjjkfmdkmbcfaaCd
import Derived.Test.YtbjjkfmdkmbcfaaHj
import Derived.Test.YtbjjkfmdkmbcfaaKn
import Derived.Test.YtbjjkfmdkmbcfaaHr
namespace Go.Proofs.Ytbjjkfmdkmbcfaa
open Go.RowKit
open PlRd

attribute [local go_sem ↓] Go.wp_at_zero Go.wp_at_succ

def onP (ax ay bx by' px py : Int) : Bool := (decide (sgn ((bx - ax) * (py - ay) - (by' - ay) * (px - ax)) = 0) && decide (sgn (px - ax) * sgn (px - bx) ≤ 0)) && decide (sgn (py - ay) * sgn (py - by') ≤ 0)

def trnS (ax ay bx by' cx cy : Int) : Int := sgn ((bx - ax) * (cy - ay) - (by' - ay) * (cx - ax))

theorem lies_on (PX PY AX AY BX BY : Int) : liesI PX PY AX AY BX BY = onP AX AY BX BY PX PY := by
  unfold liesI onP btw trn turnI
  rw [Bool.and_comm, Bool.and_assoc]

def edgeOn (X : Nat → Int × Int) (n : Nat) (p : Int × Int) (i : Nat) : Bool := onP (X i).1 (X i).2 (X ((i + 1) % n)).1 (X ((i + 1) % n)).2 p.1 p.2

/-- Does an edge cross the half-line? -/
def crsC (a b s t : Int) : Int := if 0 < b ∧ a ≤ 0 then s else if 0 < a ∧ b ≤ 0 then t else 0

def crsT (ux uy vx vy px py : Int) : Int := crsC (PlRd.sgn (uy - py)) (PlRd.sgn (vy - py)) (trnS ux uy vx vy px py) (trnS vx vy ux uy px py)

def crsN (X : Nat → Int × Int) (n : Nat) (p : Int × Int) : Nat → Nat
  | 0 => 0
  | k + 1 => crsN X n p k + if 0 < crsT (X k).1 (X k).2 (X ((k + 1) % n)).1 (X ((k + 1) % n)).2 p.1 p.2 then 1 else 0

def insV (X : Nat → Int × Int) (n : Nat) (p : Int × Int) : Int := if (List.range n).any (edgeOn X n p) then 0 else if crsN X n p n % 2 = 1 then 1 else -1

theorem crsN_le (X : Nat → Int × Int) (n : Nat) (p : Int × Int) : ∀ k, crsN X n p k ≤ k
  | 0 => Nat.le_refl _
  | k + 1 => by
    have := crsN_le X n p k
    rw [crsN]
    split <;> omega

theorem ins_on {X : Nat → Int × Int} {n k : Nat} {p : Int × Int} (hk : k < n) (h : edgeOn X n p k = true) : insV X n p = 0 := by
  unfold insV
  rw [if_pos]
  exact List.any_eq_true.2 ⟨k, List.mem_range.2 hk, h⟩

theorem ins_off {X : Nat → Int × Int} {n : Nat} {p : Int × Int} (h : ∀ j, j < n → edgeOn X n p j = false) : insV X n p = if crsN X n p n % 2 = 1 then 1 else -1 := by
  unfold insV
  rw [if_neg]
  intro ha
  obtain ⟨j, hj, hj2⟩ := List.any_eq_true.1 ha
  rw [h j (List.mem_range.1 hj)] at hj2
  cases hj2

theorem ord_cr {a b : Nat} {x y : Int} (h : Cr a x) (k : Cr b y) : (x < y ∧ FloatKind.f64.format.order a b = some .lt) ∨ (x = y ∧ FloatKind.f64.format.order a b = some .eq) ∨ (y < x ∧ FloatKind.f64.format.order a b = some .gt) := by
  have hE := EU_pos
  rcases ord_of h.1 k.1 with ⟨h1, h2⟩ | ⟨h1, h2⟩ | ⟨h1, h2⟩
  · exact .inl ⟨Int.lt_of_mul_lt_mul_right h1 (Int.le_of_lt hE), h2⟩
  · exact .inr (.inl ⟨Int.eq_of_mul_eq_mul_right (by omega) h1, h2⟩)
  · exact .inr (.inr ⟨Int.lt_of_mul_lt_mul_right h1 (Int.le_of_lt hE), h2⟩)

theorem crs_down {UX UY VX VY PX PY : Int} (h : VY < UY) : crsT UX UY VX VY PX PY = if VY ≤ PY ∧ PY < UY then trn VX VY UX UY PX PY else 0 := by
  unfold crsT crsC
  rw [show trnS VX VY UX UY PX PY = trn VX VY UX UY PX PY from rfl]
  generalize trnS UX UY VX VY PX PY = s
  generalize trn VX VY UX UY PX PY = t
  unfold PlRd.sgn
  by_cases h1 : VY ≤ PY <;> by_cases h2 : PY < UY
  · rw [if_neg (by split <;> split <;> (try split) <;> omega), if_pos (by constructor <;> (repeat split) <;> omega), if_pos ⟨h1, h2⟩]
  · rw [if_neg (by (repeat split) <;> omega), if_neg (by (repeat split) <;> omega), if_neg (by omega)]
  · rw [if_neg (by (repeat split) <;> omega), if_neg (by (repeat split) <;> omega), if_neg (by omega)]
  · rw [if_neg (by (repeat split) <;> omega), if_neg (by (repeat split) <;> omega), if_neg (by omega)]

theorem crs_up {UX UY VX VY PX PY : Int} (h : UY ≤ VY) : crsT UX UY VX VY PX PY = if UY ≤ PY ∧ PY < VY then trn UX UY VX VY PX PY else 0 := by
  unfold crsT crsC
  rw [show trnS UX UY VX VY PX PY = trn UX UY VX VY PX PY from rfl]
  generalize trnS VX VY UX UY PX PY = s
  generalize trn UX UY VX VY PX PY = t
  unfold PlRd.sgn
  by_cases h1 : UY ≤ PY <;> by_cases h2 : PY < VY
  · rw [if_pos (by constructor <;> (repeat split) <;> omega), if_pos ⟨h1, h2⟩]
  · rw [if_neg (by (repeat split) <;> omega), if_neg (by (repeat split) <;> omega), if_neg (by omega)]
  · rw [if_neg (by (repeat split) <;> omega), if_neg (by (repeat split) <;> omega), if_neg (by omega)]
  · rw [if_neg (by (repeat split) <;> omega), if_neg (by (repeat split) <;> omega), if_neg (by omega)]

/-- A spot that lies in memory. -/
structure SpAt (w : World) (p x y : Nat) : Prop where
  lt : p < w.heap.size
  cs : w.cell? ⟨p, 0, none⟩ = some (.float .f64 x) ∧ w.cell? ⟨p, 1, none⟩ = some (.float .f64 y)
  fr : w.frozen? ⟨p, 0, none⟩ = false ∧ w.frozen? ⟨p, 1, none⟩ = false

theorem SpAt.drewn {Z : World} {b x y : Nat} (h : SpAt Z b x y) : SpAt Z.drew b x y := ⟨h.lt, h.cs, h.fr⟩

theorem SpAt.store {Z : World} {p b x y : Nat} {u v : Value} (h : SpAt Z b x y) (hne : b ≠ p) : SpAt ((Z.setCell ⟨p, 0, none⟩ u).setCell ⟨p, 1, none⟩ v) b x y := by
  have c0 := h.cs
  have f0 := h.fr
  refine ⟨by simpa using h.lt, ?_, ?_⟩
  · rw [cell_store_other hne, cell_store_other hne]; exact c0
  · exact ⟨by simpa [go_sem, hne] using f0.1, by simpa [go_sem, hne] using f0.2⟩

theorem SpAt.put {Z : World} {p x y x' y' : Nat} (h : SpAt Z p x y) : SpAt ((Z.setCell ⟨p, 0, none⟩ (.float .f64 x')).setCell ⟨p, 1, none⟩ (.float .f64 y')) p x' y' := by
  have c0 := h.cs
  have f0 := h.fr
  exact ⟨by simpa using h.lt, by simp [go_sem, c0.1, c0.2], by simp [go_sem, f0.1, f0.2]⟩

set_option maxHeartbeats 8000000 in
set_option maxRecDepth 100000 in
theorem crosses_cr (ux uy vx vy px py : Nat) (UX UY VX VY PX PY : Int) (w : World) (hux : Cr ux UX) (huy : Cr uy UY) (hvx : Cr vx VX) (hvy : Cr vy VY) (hpx : Cr px PX) (hpy : Cr py PY) :
    Calls Try.prog 48 #[.agg #[.float .f64 ux, .float .f64 uy], .agg #[.float .f64 vx, .float .f64 vy], .agg #[.float .f64 px, .float .f64 py]] w fun e w' => e = .returned (.bool (decide (0 < crsT UX UY VX VY PX PY))) ∧ Below w.heap.size w w' := by
  obtain ⟨bb, hbb⟩ : ∃ b, b = decide (0 < crsT UX UY VX VY PX PY) := ⟨_, rfl⟩
  rw [← hbb]
  have HBB : Hid (bb = decide (0 < crsT UX UY VX VY PX PY)) := hbb
  clear hbb
  obtain ⟨s, hs⟩ : ∃ s, s = trn UX UY VX VY PX PY := ⟨_, rfl⟩
  obtain ⟨t, ht⟩ : ∃ t, t = trn VX VY UX UY PX PY := ⟨_, rfl⟩
  have HSS : Hid (s = trn UX UY VX VY PX PY) := hs
  have HTT : Hid (t = trn VX VY UX UY PX PY) := ht
  have HS : Hid (∀ W, Calls Try.prog 25 #[.agg #[.float .f64 ux, .float .f64 uy], .agg #[.float .f64 vx, .float .f64 vy], .agg #[.float .f64 px, .float .f64 py]] W fun e w' => e = .returned (.int .i64 s) ∧ Below W.heap.size W w') := fun W => by rw [hs]; exact turn_cr ux uy vx vy px py UX UY VX VY PX PY W hux huy hvx hvy hpx hpy
  have HT : Hid (∀ W, Calls Try.prog 25 #[.agg #[.float .f64 vx, .float .f64 vy], .agg #[.float .f64 ux, .float .f64 uy], .agg #[.float .f64 px, .float .f64 py]] W fun e w' => e = .returned (.int .i64 t) ∧ Below W.heap.size W w') := fun W => by rw [ht]; exact turn_cr vx vy ux uy px py VX VY UX UY PX PY W hvx hvy hux huy hpx hpy
  have o1 := ord_cr hvy huy
  have o2v := ord_cr hvy hpy
  have o2u := ord_cr huy hpy
  have o3v := ord_cr hpy hvy
  have o3u := ord_cr hpy huy
  clear hs ht hux huy hvx hvy hpx hpy
  go_enter Try.func48, Try.ntmps48
  go_upto_region 1 with fail
  generalize hW : World.alloc (World.alloc (World.alloc w _) _) _ = W
  have hWs : W.heap.size = w.heap.size + 3 := by subst hW; simp
  have hw : Below w.heap.size w W := by
    subst hW
    exact ((((Below.refl _ w).alloc (by simp <;> omega) _).alloc (by simp <;> omega) _).alloc (by simp <;> omega) _)
  have KS : ∀ w', Below W.heap.size W w' → (w'.cell? ⟨w.heap.size, 0, none⟩ = some (.float .f64 ux) ∧ w'.cell? ⟨w.heap.size, 1, none⟩ = some (.float .f64 uy) ∧ w'.cell? ⟨w.heap.size + 1, 0, none⟩ = some (.float .f64 vx) ∧ w'.cell? ⟨w.heap.size + 1, 1, none⟩ = some (.float .f64 vy) ∧ w'.cell? ⟨w.heap.size + 1 + 1, 0, none⟩ = some (.float .f64 px) ∧ w'.cell? ⟨w.heap.size + 1 + 1, 1, none⟩ = some (.float .f64 py)) := by
    intro w' hb
    obtain ⟨hc, _⟩ := bcell hb
    refine ⟨?_, ?_, ?_, ?_, ?_, ?_⟩
    all_goals (rw [hc _ _ (by omega)]; subst hW; simp [go_sem])
  clear hW hWs
  have hS0 := KS W (Below.refl _ _)
  go_cut [7, 8] (fun v7 v8 wc => ∃ p q, v7 = .pointer (some ⟨p, 0, none⟩) ∧ v8 = .pointer (some ⟨q, 0, none⟩) ∧ SpAt wc p ux uy ∧ SpAt wc q vx vy ∧ p ≠ q ∧ W.heap.size ≤ p ∧ W.heap.size ≤ q ∧ Below W.heap.size W wc)
  case first =>
    clear o1 o2v o2u o3v o3u
    go_region_held3 (fun w' : World => (w'.cell? ⟨w.heap.size, 0, none⟩ = some (.float .f64 ux) ∧ w'.cell? ⟨w.heap.size, 1, none⟩ = some (.float .f64 uy) ∧ w'.cell? ⟨w.heap.size + 1, 0, none⟩ = some (.float .f64 vx) ∧ w'.cell? ⟨w.heap.size + 1, 1, none⟩ = some (.float .f64 vy))) (exact ⟨(KS _ (by repeat (with_reducible first | refine Below.setCell ?_ (by first | (dsimp only; omega) | omega | (simp; done) | (simp; omega)) _ | refine below_alloc _ ?_ | refine Below.drew ?_ | exact hbc | exact Below.refl _ _))).1, (KS _ (by repeat (with_reducible first | refine Below.setCell ?_ (by first | (dsimp only; omega) | omega | (simp; done) | (simp; omega)) _ | refine below_alloc _ ?_ | refine Below.drew ?_ | exact hbc | exact Below.refl _ _))).2.1, (KS _ (by repeat (with_reducible first | refine Below.setCell ?_ (by first | (dsimp only; omega) | omega | (simp; done) | (simp; omega)) _ | refine below_alloc _ ?_ | refine Below.drew ?_ | exact hbc | exact Below.refl _ _))).2.2.1, (KS _ (by repeat (with_reducible first | refine Below.setCell ?_ (by first | (dsimp only; omega) | omega | (simp; done) | (simp; omega)) _ | refine below_alloc _ ?_ | refine Below.drew ?_ | exact hbc | exact Below.refl _ _))).2.2.2.1⟩) (fail)
    all_goals
      go_wp2_with fail
      go_meet
      exact ⟨_, _, rfl, rfl, ⟨by simp <;> omega, by simp [go_sem], by simp [go_sem]⟩, ⟨by simp <;> omega, by simp [go_sem], by simp [go_sem]⟩, by omega, by omega, by omega, (by repeat (with_reducible first | refine Below.setCell ?_ (by first | (dsimp only; omega) | omega | (simp; done) | (simp; omega)) _ | refine below_alloc _ ?_ | refine Below.drew ?_ | exact hbc | exact Below.refl _ _))⟩
  case rest =>
    obtain ⟨p, q, hv7, hv8, hp, hq, hpq, hbp, hbq, hbc⟩ := hcut
    subst hv7 hv8
    have hS1 := KS wc hbc
    rcases o1 with ⟨h1, p1⟩ | ⟨h1, p1⟩ | ⟨h1, p1⟩
    · skip
      clear o2u o3v HS HSS
      have cp := hp.cs
      have fp := hp.fr
      have cq := hq.cs
      have fq := hq.fr
      have hqp := Ne.symm hpq
      go_wp2_with fail
      go_region_held3 (fun w' : World => (w'.cell? ⟨w.heap.size, 0, none⟩ = some (.float .f64 ux) ∧ w'.cell? ⟨w.heap.size, 1, none⟩ = some (.float .f64 uy) ∧ w'.cell? ⟨w.heap.size + 1, 0, none⟩ = some (.float .f64 vx) ∧ w'.cell? ⟨w.heap.size + 1, 1, none⟩ = some (.float .f64 vy))) (exact ⟨(KS _ (by repeat (with_reducible first | refine Below.setCell ?_ (by first | (dsimp only; omega) | omega | (simp; done) | (simp; omega)) _ | refine below_alloc _ ?_ | refine Below.drew ?_ | exact hbc | exact Below.refl _ _))).1, (KS _ (by repeat (with_reducible first | refine Below.setCell ?_ (by first | (dsimp only; omega) | omega | (simp; done) | (simp; omega)) _ | refine below_alloc _ ?_ | refine Below.drew ?_ | exact hbc | exact Below.refl _ _))).2.1, (KS _ (by repeat (with_reducible first | refine Below.setCell ?_ (by first | (dsimp only; omega) | omega | (simp; done) | (simp; omega)) _ | refine below_alloc _ ?_ | refine Below.drew ?_ | exact hbc | exact Below.refl _ _))).2.2.1, (KS _ (by repeat (with_reducible first | refine Below.setCell ?_ (by first | (dsimp only; omega) | omega | (simp; done) | (simp; omega)) _ | refine below_alloc _ ?_ | refine Below.drew ?_ | exact hbc | exact Below.refl _ _))).2.2.2.1⟩) (fail)
      have hp2 : SpAt ((((wc.setCell ⟨p, 0, none⟩ (.float .f64 vx)).setCell ⟨p, 1, none⟩ (.float .f64 vy)).setCell ⟨q, 0, none⟩ (.float .f64 ux)).setCell ⟨q, 1, none⟩ (.float .f64 uy)).drew p vx vy := ((hp.put (x' := vx) (y' := vy)).store (u := .float .f64 ux) (v := .float .f64 uy) hpq).drewn
      have hq2 : SpAt ((((wc.setCell ⟨p, 0, none⟩ (.float .f64 vx)).setCell ⟨p, 1, none⟩ (.float .f64 vy)).setCell ⟨q, 0, none⟩ (.float .f64 ux)).setCell ⟨q, 1, none⟩ (.float .f64 uy)).drew q ux uy := ((hq.store (u := .float .f64 vx) (v := .float .f64 vy) (Ne.symm hpq)).put (x' := ux) (y' := uy)).drewn
      have hbZ : Below W.heap.size W ((((wc.setCell ⟨p, 0, none⟩ (.float .f64 vx)).setCell ⟨p, 1, none⟩ (.float .f64 vy)).setCell ⟨q, 0, none⟩ (.float .f64 ux)).setCell ⟨q, 1, none⟩ (.float .f64 uy)).drew := ((((hbc.setCell hbp _).setCell hbp _).setCell hbq _).setCell hbq _).drew
      generalize World.drew _ = Z at hp2 hq2 hbZ ⊢
      clear cp fp cq fq
      have hc2 := hp2.cs
      have hd2 := hq2.cs
      have hS2 := KS Z hbZ
      rcases o2v with ⟨h2, p2⟩ | ⟨h2, p2⟩ | ⟨h2, p2⟩ <;> rcases o3u with ⟨h3, p3⟩ | ⟨h3, p3⟩ | ⟨h3, p3⟩
      all_goals
        first
          | (exfalso; omega)
          | skip
      all_goals
        have HR : Hid (bb = (decide (VY ≤ PY ∧ PY < UY) && decide (0 < t))) := by
          unfold Hid
          rw [HBB.out, crs_down (by omega), ← HTT.out]
          by_cases hc : VY ≤ PY ∧ PY < UY
          · rw [if_pos hc]; simp [hc]
          · rw [if_neg hc]; simp [hc]
        go_wp2_with (first | (go_at_call 25; go_must (refine (HT.out _).mono ?_; rintro e w3 ⟨rfl, hb3⟩; have hb3' : Below W.heap.size W w3 := below_step hb3 hbZ)))
        go_ret
        exact ⟨ret_bool (by rw [HR.out]; simp <;> omega), hw.trans (Below.mono (B := W.heap.size) (by first | exact hb3' | exact hbZ) hw.size)⟩
    · skip
      obtain ⟨Z, hZ⟩ : ∃ Z, Z = wc := ⟨_, rfl⟩
      subst hZ
      have hp2 := hp
      have hq2 := hq
      have hbZ := hbc
      clear o2v o3u HT HTT
      have hc2 := hp2.cs
      have hd2 := hq2.cs
      have hS2 := KS Z hbZ
      rcases o2u with ⟨h2, p2⟩ | ⟨h2, p2⟩ | ⟨h2, p2⟩ <;> rcases o3v with ⟨h3, p3⟩ | ⟨h3, p3⟩ | ⟨h3, p3⟩
      all_goals
        first
          | (exfalso; omega)
          | skip
      all_goals
        have HR : Hid (bb = (decide (UY ≤ PY ∧ PY < VY) && decide (0 < s))) := by
          unfold Hid
          rw [HBB.out, crs_up (by omega), ← HSS.out]
          by_cases hc : UY ≤ PY ∧ PY < VY
          · rw [if_pos hc]; simp [hc]
          · rw [if_neg hc]; simp [hc]
        go_wp2_with (first | (go_at_call 25; go_must (refine (HS.out _).mono ?_; rintro e w3 ⟨rfl, hb3⟩; have hb3' : Below W.heap.size W w3 := below_step hb3 hbZ)))
        go_ret
        exact ⟨ret_bool (by rw [HR.out]; simp <;> omega), hw.trans (Below.mono (B := W.heap.size) (by first | exact hb3' | exact hbZ) hw.size)⟩
    · skip
      obtain ⟨Z, hZ⟩ : ∃ Z, Z = wc := ⟨_, rfl⟩
      subst hZ
      have hp2 := hp
      have hq2 := hq
      have hbZ := hbc
      clear o2v o3u HT HTT
      have hc2 := hp2.cs
      have hd2 := hq2.cs
      have hS2 := KS Z hbZ
      rcases o2u with ⟨h2, p2⟩ | ⟨h2, p2⟩ | ⟨h2, p2⟩ <;> rcases o3v with ⟨h3, p3⟩ | ⟨h3, p3⟩ | ⟨h3, p3⟩
      all_goals
        first
          | (exfalso; omega)
          | skip
      all_goals
        have HR : Hid (bb = (decide (UY ≤ PY ∧ PY < VY) && decide (0 < s))) := by
          unfold Hid
          rw [HBB.out, crs_up (by omega), ← HSS.out]
          by_cases hc : UY ≤ PY ∧ PY < VY
          · rw [if_pos hc]; simp [hc]
          · rw [if_neg hc]; simp [hc]
        go_wp2_with (first | (go_at_call 25; go_must (refine (HS.out _).mono ?_; rintro e w3 ⟨rfl, hb3⟩; have hb3' : Below W.heap.size W w3 := below_step hb3 hbZ)))
        go_ret
        exact ⟨ret_bool (by rw [HR.out]; simp <;> omega), hw.trans (Below.mono (B := W.heap.size) (by first | exact hb3' | exact hbZ) hw.size)⟩

end Go.Proofs.Ytbjjkfmdkmbcfaa

namespace Go.Proofs.Ytbjjkfmdkmbcfaa
open Go.RowKit
open PlRd

attribute [local go_sem ↓] Go.wp_at_zero Go.wp_at_succ

/-- The corner ahead of corner j. -/
def preI (n j : Nat) : Nat := (j + n - 1) % n

theorem preI_zero {n : Nat} (h : 0 < n) : preI n 0 = n - 1 := by unfold preI; rw [Nat.zero_add]; exact Nat.mod_eq_of_lt (by omega)
theorem preI_succ {n m : Nat} (h : m < n) : preI n (m + 1) = m := by
  unfold preI
  rw [show m + 1 + n - 1 = m + n by omega, Nat.add_mod_right]
  exact Nat.mod_eq_of_lt h
theorem preI_lt {n : Nat} (j : Nat) (h : 0 < n) : preI n j < n := Nat.mod_lt _ h
theorem preI_next {n k : Nat} (h : k < n) : (preI n k + 1) % n = k := by
  cases k with
  | zero => rw [preI_zero h, show n - 1 + 1 = n by omega, Nat.mod_self]
  | succ m => rw [preI_succ (by omega)]; exact Nat.mod_eq_of_lt h

/-- How many of the first k edges, from the one that ends at corner 0 on, cross the half-line. -/
def cntP (X : Nat → Int × Int) (n : Nat) (p : Int × Int) : Nat → Nat
  | 0 => 0
  | k + 1 => (if 0 < crsT (X (n - 1)).1 (X (n - 1)).2 (X 0).1 (X 0).2 p.1 p.2 then 1 else 0) + crsN X n p k

theorem cnt_next {X : Nat → Int × Int} {n k : Nat} {p : Int × Int} (h : k < n) : cntP X n p (k + 1) = cntP X n p k + if 0 < crsT (X (preI n k)).1 (X (preI n k)).2 (X k).1 (X k).2 p.1 p.2 then 1 else 0 := by
  cases k with
  | zero => rw [preI_zero h]; show _ + crsN X n p 0 = 0 + _; rw [show crsN X n p 0 = 0 from rfl]; omega
  | succ m =>
    show _ + crsN X n p (m + 1) = _ + crsN X n p m + _
    rw [preI_succ (by omega), crsN, Nat.mod_eq_of_lt h]
    omega

theorem cnt_last {X : Nat → Int × Int} {n : Nat} {p : Int × Int} : cntP X n p n = crsN X n p n := by
  cases n with
  | zero => rfl
  | succ m =>
    show _ + crsN X (m + 1) p m = crsN X (m + 1) p (m + 1)
    rw [crsN, Nat.mod_self, show m + 1 - 1 = m by omega]
    omega

theorem cnt_le (X : Nat → Int × Int) (n : Nat) (p : Int × Int) (k : Nat) : cntP X n p k ≤ k := by
  cases k with
  | zero => exact Nat.le_refl _
  | succ m =>
    have := crsN_le X n p m
    show _ + crsN X n p m ≤ _
    split <;> omega

theorem edge_pre {X : Nat → Int × Int} {n k : Nat} {p : Int × Int} (h : k < n) : edgeOn X n p (preI n k) = onP (X (preI n k)).1 (X (preI n k)).2 (X k).1 (X k).2 p.1 p.2 := by
  unfold edgeOn
  rw [preI_next h]

theorem edges_all {X : Nat → Int × Int} {n : Nat} {p : Int × Int} (h : ∀ j, j < n → edgeOn X n p (preI n j) = false) : ∀ j, j < n → edgeOn X n p j = false := by
  intro j hj
  by_cases h1 : j + 1 < n
  · have := h (j + 1) h1
    rwa [preI_succ hj] at this
  · have := h 0 (by omega)
    rwa [preI_zero (by omega), show n - 1 = j by omega] at this

theorem boxes2 {w W : World} {a b c d : Value} {t : TypeId} (hb : Below ((w.alloc (.cells #[a, b] t)).alloc (.cells #[c, d] t)).heap.size ((w.alloc (.cells #[a, b] t)).alloc (.cells #[c, d] t)) W) : W.cell? ⟨w.heap.size, 0, none⟩ = some a ∧ W.cell? ⟨w.heap.size, 1, none⟩ = some b ∧ W.cell? ⟨w.heap.size + 1, 0, none⟩ = some c ∧ W.cell? ⟨w.heap.size + 1, 1, none⟩ = some d := by
  obtain ⟨hc, _⟩ := bcell hb
  rw [hc _ _ (by simp <;> omega), hc _ _ (by simp <;> omega), hc _ _ (by simp <;> omega), hc _ _ (by simp <;> omega)]
  simp [go_sem]

set_option maxHeartbeats 8000000 in
set_option maxRecDepth 100000 in
theorem inside_cr (g n c : Nat) (f : Nat → Nat × Nat) (X : Nat → Int × Int) (px py : Nat) (PX PY : Int) (w : World) (hn : n ≤ 100000) (hg : g < w.heap.size)
    (H : ∀ i, i < n → (w.cell? ⟨g, i * 2, none⟩ = some (.float .f64 (f i).1) ∧ w.cell? ⟨g, i * 2 + 1, none⟩ = some (.float .f64 (f i).2)) ∧ Cr (f i).1 (X i).1 ∧ Cr (f i).2 (X i).2) (hpx : Cr px PX) (hpy : Cr py PY) :
    Calls Try.prog 35 #[.slice (some ⟨g, 0, none⟩) n c, .agg #[.float .f64 px, .float .f64 py]] w fun e w' => e = .returned (.int .i64 (insV X n (PX, PY))) ∧ Below w.heap.size w w' := by
  go_enter Try.func35, Try.ntmps35
  go_upto_region 1 with fail
  generalize hW : World.alloc w _ = W
  have hWs : W.heap.size = w.heap.size + 1 := by subst hW; simp
  have hw : Below w.heap.size w W := by subst hW; exact (Below.refl _ _).alloc (Nat.le_refl _) _
  have KS : ∀ w', Below W.heap.size W w' → (w'.cell? ⟨w.heap.size, 0, none⟩ = some (.float .f64 px) ∧ w'.cell? ⟨w.heap.size, 1, none⟩ = some (.float .f64 py)) := by
    intro w' hb
    obtain ⟨hc, _⟩ := bcell hb
    refine ⟨?_, ?_⟩
    all_goals (rw [hc _ _ (by omega)]; subst hW; simp [go_sem])
  have hwl : w.heap.size < W.heap.size := by omega
  clear hW hWs
  go_wp2
  go_loopw [5, 11] (fun sn si wr => ∃ k : Nat, si = .int .i64 k ∧ sn = .int .i64 (cntP X n (PX, PY) k) ∧ k ≤ n ∧ (∀ j, j < k → edgeOn X n (PX, PY) (preI n j) = false) ∧ Below W.heap.size W wr) (fun _ si _ => n - (intOf si).toNat)
  case atStart => exact ⟨0, rfl, rfl, Nat.zero_le _, fun j hj => absurd hj (Nat.not_lt_zero _), Below.refl _ _⟩
  case round =>
    obtain ⟨k, rfl, rfl, hk, hno, hbel⟩ := hrel
    by_cases hlt : k < n
    · obtain ⟨m, hm⟩ : ∃ m, m = preI n k := ⟨_, rfl⟩
      have hmn : m < n := hm ▸ preI_lt k (by omega)
      obtain ⟨⟨UX, UY⟩, hXu⟩ : ∃ x, x = X m := ⟨_, rfl⟩
      obtain ⟨⟨VX, VY⟩, hXv⟩ : ∃ x, x = X k := ⟨_, rfl⟩
      have hu := H m hmn
      have hv := H k hlt
      rw [← hXu] at hu
      rw [← hXv] at hv
      generalize f m = fm at hu
      generalize f k = fk at hv
      obtain ⟨ux, uy⟩ := fm
      obtain ⟨vx, vy⟩ := fk
      obtain ⟨hu0, cux, cuy⟩ := hu
      obtain ⟨hv0, cvx, cvy⟩ := hv
      simp only at hu0 hv0 cux cuy cvx cvy
      have CR : ∀ W', Below W.heap.size W W' → (W'.cell? ⟨g, m * 2, none⟩ = some (.float .f64 ux) ∧ W'.cell? ⟨g, m * 2 + 1, none⟩ = some (.float .f64 uy)) ∧ (W'.cell? ⟨g, k * 2, none⟩ = some (.float .f64 vx) ∧ W'.cell? ⟨g, k * 2 + 1, none⟩ = some (.float .f64 vy)) := by
        intro W' h
        have hh : Below w.heap.size w W' := hw.trans (h.mono hw.size)
        have hc : ∀ j, W'.cell? ⟨g, j, none⟩ = w.cell? ⟨g, j, none⟩ := fun j => hh.cell (p := ⟨g, j, none⟩) hg
        rw [hc, hc, hc, hc]
        exact ⟨hu0, hv0⟩
      have HE : Hid (edgeOn X n (PX, PY) (preI n k) = liesI PX PY UX UY VX VY) := by unfold Hid; rw [edge_pre hlt, ← hm, ← hXu, ← hXv, lies_on]
      have HC : Hid (cntP X n (PX, PY) (k + 1) = cntP X n (PX, PY) k + if 0 < crsT UX UY VX VY PX PY then 1 else 0) := by unfold Hid; rw [cnt_next hlt, ← hm, ← hXu, ← hXv]
      have hcl := cnt_le X n (PX, PY) k
      have ht : Int.tmod ((k : Int) + n - 1) (n : Int) = (m : Int) := by
        rw [hm, Int.tmod_eq_emod_of_nonneg (by omega)]
        unfold preI
        rw [Int.natCast_emod]
        congr 1
        omega
      have hn0 : ¬ (n : Int) = 0 := by omega
      obtain ⟨o, ho⟩ : ∃ o, o = liesI PX PY UX UY VX VY := ⟨_, rfl⟩
      obtain ⟨s, hs⟩ : ∃ s, s = decide (0 < crsT UX UY VX VY PX PY) := ⟨_, rfl⟩
      have HL : Hid (∀ V, Calls Try.prog 43 #[.agg #[.float .f64 px, .float .f64 py], .agg #[.float .f64 ux, .float .f64 uy], .agg #[.float .f64 vx, .float .f64 vy]] V fun e w' => e = .returned (.bool o) ∧ Below V.heap.size V w') := fun V => by rw [ho]; exact lies_cr px py ux uy vx vy _ _ _ _ _ _ V hpx hpy cux cuy cvx cvy
      have HX : Hid (∀ V, Calls Try.prog 48 #[.agg #[.float .f64 ux, .float .f64 uy], .agg #[.float .f64 vx, .float .f64 vy], .agg #[.float .f64 px, .float .f64 py]] V fun e w' => e = .returned (.bool s) ∧ Below V.heap.size V w') := fun V => by rw [hs]; exact crosses_cr ux uy vx vy px py _ _ _ _ _ _ V cux cuy cvx cvy hpx hpy
      have HE2 : Hid (edgeOn X n (PX, PY) m = o) := by unfold Hid; rw [ho, hm]; exact HE.out
      have HC2 : Hid (cntP X n (PX, PY) (k + 1) = cntP X n (PX, PY) k + if s = true then 1 else 0) := by unfold Hid; rw [HC.out, hs]; simp
      have HM : Hid (m = preI n k) := hm
      have hr0 := CR wr hbel
      have hp0 := KS wr hbel
      have hgr : g < wr.heap.size := by have := hbel.size; omega
      have hwr : w.heap.size < wr.heap.size := by have := hbel.size; omega
      clear HE HC ho hs hm hXu hXv cux cuy cvx cvy hu0 hv0
      rcases o with _ | _
      · have hno2 : Hid (∀ j, j < k + 1 → edgeOn X n (PX, PY) (preI n j) = false) := fun j hj => by
          by_cases hjk : j = k
          · rw [hjk, ← HM.out]; exact HE2.out
          · exact hno j (by omega)
        rcases s with _ | _
        · have HV : Hid (cntP X n (PX, PY) (k + 1) = cntP X n (PX, PY) k) := by
            have h9 := HC2.out
            unfold Hid
            simpa using h9
          clear HC2 hno
          go_wp2_with (first | (go_at_call 43; go_must (refine (HL.out _).mono ?_; rintro e w1 ⟨rfl, hb1⟩; have hb1' : Below wr.heap.size wr w1 := below_step hb1 (by repeat (with_reducible first | refine below_alloc _ ?_ | exact Below.refl _ _)); have hS1 := KS w1 (below_step hb1' hbel); have hl1 := boxes2 hb1)) | (go_at_call 48; go_must (refine (HX.out _).mono ?_; rintro e w2 ⟨rfl, hb2⟩; have hb2' : Below wr.heap.size wr w2 := below_step hb2 hb1')))
          go_roundw
          case rel => exact ⟨k + 1, by go_num, by rw [HV.out], by omega, hno2.out, below_step hb2' hbel⟩
          case measure => simp [intOf]; omega
        · have HV : Hid (cntP X n (PX, PY) (k + 1) = cntP X n (PX, PY) k + 1) := by
            have h9 := HC2.out
            unfold Hid
            simpa using h9
          clear HC2 hno
          go_wp2_with (first | (go_at_call 43; go_must (refine (HL.out _).mono ?_; rintro e w1 ⟨rfl, hb1⟩; have hb1' : Below wr.heap.size wr w1 := below_step hb1 (by repeat (with_reducible first | refine below_alloc _ ?_ | exact Below.refl _ _)); have hS1 := KS w1 (below_step hb1' hbel); have hl1 := boxes2 hb1)) | (go_at_call 48; go_must (refine (HX.out _).mono ?_; rintro e w2 ⟨rfl, hb2⟩; have hb2' : Below wr.heap.size wr w2 := below_step hb2 hb1')))
          go_roundw
          case rel => exact ⟨k + 1, by go_num, by rw [HV.out]; go_num, by omega, hno2.out, below_step hb2' hbel⟩
          case measure => simp [intOf]; omega
      · go_wp2_with (first | (go_at_call 43; go_must (refine (HL.out _).mono ?_; rintro e w1 ⟨rfl, hb1⟩; have hb1' : Below wr.heap.size wr w1 := below_step hb1 (by repeat (with_reducible first | refine below_alloc _ ?_ | exact Below.refl _ _)))))
        go_ret
        exact ⟨by rw [ins_on hmn HE2.out]; rfl, hw.trans ((below_step hb1' hbel).mono hw.size)⟩
    · have hkn : k = n := by omega
      subst hkn
      have hr := ins_off (edges_all hno)
      rw [← cnt_last] at hr
      by_cases h2 : cntP X k (PX, PY) k % 2 = 1
      · have h3 : Int.tmod (cntP X k (PX, PY) k : Int) 2 = 1 := by rw [Int.tmod_eq_emod_of_nonneg (by omega)]; omega
        rw [if_pos h2] at hr
        have HR : Hid (insV X k (PX, PY) = 1) := hr
        clear h2 hr hno
        go_wp2_with fail
        go_ret
        exact ⟨by rw [HR.out]; rfl, hw.trans (hbel.mono hw.size)⟩
      · have h3 : Int.tmod (cntP X k (PX, PY) k : Int) 2 = 0 := by rw [Int.tmod_eq_emod_of_nonneg (by omega)]; omega
        rw [if_neg h2] at hr
        have HR : Hid (insV X k (PX, PY) = -1) := hr
        clear h2 hr hno
        go_wp2_with fail
        go_ret
        exact ⟨by rw [HR.out]; rfl, hw.trans (hbel.mono hw.size)⟩

end Go.Proofs.Ytbjjkfmdkmbcfaa

namespace Go.Proofs.Ytbjjkfmdkmbcfaa
open Go.RowKit
open PlRd

attribute [local go_sem ↓] Go.wp_at_zero Go.wp_at_succ

set_option maxHeartbeats 4000000 in
set_option maxRecDepth 100000 in
theorem insideE_ok (v : Value) (n : Nat) (ps : List (Nat × Nat)) (px py : Nat) (w : World) (hv : SlAt w v n ps) (hn : ps.length = n) (hnm : n ≤ 100) (h64 : ∀ p ∈ ps, p.1 < 2 ^ 64 ∧ p.2 < 2 ^ 64) (hok : okPts ps = true) (hp64 : ∀ p ∈ [(px, py)], p.1 < 2 ^ 64 ∧ p.2 < 2 ^ 64) (hpk : okPts [(px, py)] = true) :
    Calls Try.prog 23 #[v, .agg #[.int .u64 px, .int .u64 py]] w fun e w' => Below w.heap.size w w' ∧ e = .returned (.tuple #[.int .i64 (insV (crdX ps) n (crd px, crd py)), .int .i64 0]) := by
  have hvk : ∀ o : Obj, SlAt (w.alloc o) v n ps := fun o => hv.kept ((Below.refl _ w).alloc (Nat.le_refl _) o)
  obtain ⟨o, c, rfl⟩ := hv.form
  have hm : mayB px = true ∧ mayB py = true := by simpa [okPts] using hpk
  have HI : Hid (∀ (V : World) (G : Nat), SpRow V G ps → Calls Try.prog 35 #[.slice (some ⟨G, 0, none⟩) n n, .agg #[.float .f64 px, .float .f64 py]] V fun e w' => e = .returned (.int .i64 (insV (crdX ps) n (crd px, crd py))) ∧ Below V.heap.size V w') := fun V G hr =>
    inside_cr G n n (fun i => ps.getD i (0, 0)) (crdX ps) px py (crd px) (crd py) V (by omega) hr.1 (fun i hi => ⟨hr.2 i (by omega), cr_mayB (ok_at hok i (by omega)).1, cr_mayB (ok_at hok i (by omega)).2⟩) (cr_mayB hm.1) (cr_mayB hm.2)
  clear hv hm
  go_enter Try.func23, Try.ntmps23
  go_wp2_with (first | (go_at_call 24; have g1 := hb1; go_must (refine (spots_yes _ 1 [(px, py)] _ (sl_one (by simp)) rfl (by omega) hp64 hpk).mono ?_; rintro e w2 ⟨hb2, G2, rfl, hrow2⟩; have hbb : Below w1.heap.size w1 w2 := below_step hb2 ((Below.refl _ _).alloc (Nat.le_refl _) _); have hc2 := hrow2.2 0 (Nat.zero_lt_one); have hr1 := hrow.kept hbb; simp at hc2)) | (go_at_call 24; go_must (refine (spots_yes _ n ps _ (hvk _) hn (by omega) h64 hok).mono ?_; rintro e w1 ⟨hb1, G, rfl, hrow⟩; have hbx := ptbox hb1)) | (go_at_call 35; go_must (refine (HI.out _ _ hr1).mono ?_; rintro e w3 ⟨rfl, hb3⟩)))
  go_ret2
  have h1 := below_step hb1 ((Below.refl _ w).alloc (Nat.le_refl _) _)
  exact ⟨below_step hb3 (below_step hb2 (h1.alloc h1.size _)), rfl⟩

end Go.Proofs.Ytbjjkfmdkmbcfaa

namespace Go.Proofs.Ytbjjkfmdkmbcfaa
open PlRd (sgn)
open HL (Pt cr lx Btw Edge Ring)

theorem sgn_pos {x : Int} : 0 < sgn x ↔ 0 < x := by unfold PlRd.sgn; (repeat split) <;> omega
theorem sgn_le {x : Int} : sgn x ≤ 0 ↔ x ≤ 0 := by unfold PlRd.sgn; (repeat split) <;> omega
theorem sgn_eq0 {x : Int} : sgn x = 0 ↔ x = 0 := by unfold PlRd.sgn; (repeat split) <;> omega
theorem sgn_mul_le {x y : Int} (h : (x ≤ 0 ∧ 0 ≤ y) ∨ (0 ≤ x ∧ y ≤ 0)) : sgn x * sgn y ≤ 0 := by
  have px := sgn_pos (x := x)
  have py := sgn_pos (x := y)
  have nx := sgn_le (x := x)
  have ny := sgn_le (x := y)
  have zx := sgn_eq0 (x := x)
  have zy := sgn_eq0 (x := y)
  rcases h with h | h
  · have := Int.mul_nonneg (a := -sgn x) (b := sgn y) (by omega) (by omega)
    rw [Int.neg_mul] at this
    omega
  · have := Int.mul_nonneg (a := sgn x) (b := -sgn y) (by omega) (by omega)
    rw [Int.mul_neg] at this
    omega

/-- What lies on the line and between lies between in both coordinates. -/
theorem btw_both {a b q : Pt} (h0 : cr a b q = 0) (h : Btw a b q) : ((a.1 ≤ q.1 ∧ q.1 ≤ b.1) ∨ (b.1 ≤ q.1 ∧ q.1 ≤ a.1)) ∧ ((a.2 ≤ q.2 ∧ q.2 ≤ b.2) ∨ (b.2 ≤ q.2 ∧ q.2 ≤ a.2)) := by
  obtain ⟨a1, a2⟩ := a
  obtain ⟨b1, b2⟩ := b
  obtain ⟨q1, q2⟩ := q
  unfold cr at h0
  unfold Btw lx at h
  simp only at h0 h ⊢
  have e1 : (b1 - a1) * (q2 - a2) = (b2 - a2) * (q1 - a1) := by omega
  have e2 : (b1 - a1) * (b2 - q2) = (b2 - a2) * (b1 - q1) := by grind
  refine ⟨by omega, ?_⟩
  by_cases hx : a1 = b1
  · omega
  · rcases Int.lt_or_gt_of_ne hx with hx | hx
    · have hq : a1 ≤ q1 ∧ q1 ≤ b1 := by omega
      rcases Int.le_total a2 b2 with hy | hy
      · have n1 := Int.mul_nonneg (a := b2 - a2) (b := q1 - a1) (by omega) (by omega)
        have n2 := Int.mul_nonneg (a := b2 - a2) (b := b1 - q1) (by omega) (by omega)
        rw [← e1] at n1
        rw [← e2] at n2
        have := Int.nonneg_of_mul_nonneg_right n1 (by omega)
        have := Int.nonneg_of_mul_nonneg_right n2 (by omega)
        omega
      · have n1 := Int.mul_nonneg (a := a2 - b2) (b := q1 - a1) (by omega) (by omega)
        have n2 := Int.mul_nonneg (a := a2 - b2) (b := b1 - q1) (by omega) (by omega)
        rw [show (a2 - b2) * (q1 - a1) = (b1 - a1) * (a2 - q2) by grind] at n1
        rw [show (a2 - b2) * (b1 - q1) = (b1 - a1) * (q2 - b2) by grind] at n2
        have := Int.nonneg_of_mul_nonneg_right n1 (by omega)
        have := Int.nonneg_of_mul_nonneg_right n2 (by omega)
        omega
    · have hq : b1 ≤ q1 ∧ q1 ≤ a1 := by omega
      rcases Int.le_total a2 b2 with hy | hy
      · have n1 := Int.mul_nonneg (a := b2 - a2) (b := a1 - q1) (by omega) (by omega)
        have n2 := Int.mul_nonneg (a := b2 - a2) (b := q1 - b1) (by omega) (by omega)
        rw [show (b2 - a2) * (a1 - q1) = (a1 - b1) * (q2 - a2) by grind] at n1
        rw [show (b2 - a2) * (q1 - b1) = (a1 - b1) * (b2 - q2) by grind] at n2
        have := Int.nonneg_of_mul_nonneg_right n1 (by omega)
        have := Int.nonneg_of_mul_nonneg_right n2 (by omega)
        omega
      · have n1 := Int.mul_nonneg (a := a2 - b2) (b := a1 - q1) (by omega) (by omega)
        have n2 := Int.mul_nonneg (a := a2 - b2) (b := q1 - b1) (by omega) (by omega)
        rw [show (a2 - b2) * (a1 - q1) = (a1 - b1) * (a2 - q2) by grind] at n1
        rw [show (a2 - b2) * (q1 - b1) = (a1 - b1) * (q2 - b2) by grind] at n2
        have := Int.nonneg_of_mul_nonneg_right n1 (by omega)
        have := Int.nonneg_of_mul_nonneg_right n2 (by omega)
        omega

theorem on_of {a b q : Pt} (h0 : cr a b q = 0) (h : Btw a b q) : onP a.1 a.2 b.1 b.2 q.1 q.2 = true := by
  obtain ⟨h1, h2⟩ := btw_both h0 h
  unfold onP
  unfold cr at h0
  simp only [Bool.and_eq_true, decide_eq_true_eq]
  exact ⟨⟨sgn_eq0.2 h0, sgn_mul_le (by omega)⟩, sgn_mul_le (by omega)⟩

/-- A ring of corners, and a point that lies nowhere right of it. -/
structure Rg (R : Nat → Pt) (n : Nat) : Prop where
  edge : ∀ i, i < n → ∀ j, j < n → 0 ≤ cr (R i) (R ((i + 1) % n)) (R j) ∧ (cr (R i) (R ((i + 1) % n)) (R j) = 0 → Btw (R i) (R ((i + 1) % n)) (R j))
  apart : ∀ i, i < n → ∀ j, j < n → i ≠ j → R i ≠ R j

def Lf (R : Nat → Pt) (n : Nat) (p : Pt) : Prop := ∀ i, i < n → 0 ≤ cr (R i) (R ((i + 1) % n)) p ∧ (cr (R i) (R ((i + 1) % n)) p = 0 → Btw (R i) (R ((i + 1) % n)) p)

theorem Rg.lf {R : Nat → Pt} {n : Nat} (h : Rg R n) {j : Nat} (hj : j < n) : Lf R n (R j) := fun i hi => h.edge i hi j hj

/-- At a corner between two others it turns left. -/
theorem Rg.left {R : Nat → Pt} {n : Nat} (h : Rg R n) (hn : 2 < n) {i : Nat} (hi : i < n) : 0 < cr (R i) (R ((i + 1) % n)) (R ((i + 2) % n)) := by
  have hm1 : (i + 1) % n < n := Nat.mod_lt _ (by omega)
  have hm2 : (i + 2) % n < n := Nat.mod_lt _ (by omega)
  have e2 : ((i + 1) % n + 1) % n = (i + 2) % n := by rw [Nat.mod_add_mod]
  have n02 : i ≠ (i + 2) % n := by
    intro e
    by_cases hc : i + 2 < n
    · rw [Nat.mod_eq_of_lt hc] at e; omega
    · rw [Nat.mod_eq_sub_mod (by omega), Nat.mod_eq_of_lt (by omega)] at e; omega
  have h1 := h.edge i hi _ hm2
  have h2 := h.edge _ hm1 i hi
  rw [e2] at h2
  rcases Int.lt_or_eq_of_le h1.1 with g | g
  · exact g
  · exfalso
    have g := g.symm
    have b1 := btw_both g (h1.2 g)
    have g2 : cr (R ((i + 1) % n)) (R ((i + 2) % n)) (R i) = 0 := by rw [HL.cr_round]; exact g
    have b2 := btw_both g2 (h2.2 g2)
    refine h.apart i hi _ hm2 n02 (Prod.ext ?_ ?_)
    · omega
    · omega

theorem cr_cone (u v w p : Pt) : cr u v w * (p.2 - v.2) = cr v w p * (u.2 - v.2) + cr u v p * (w.2 - v.2) := by
  unfold cr
  grind

theorem least (n : Nat) (f : Nat → Int) (h : 0 < n) : ∃ i, i < n ∧ ∀ j, j < n → f i ≤ f j := by
  induction n with
  | zero => omega
  | succ n ih =>
    by_cases h0 : n = 0
    · subst h0; exact ⟨0, by omega, fun j hj => by rw [show j = 0 by omega]; exact Int.le_refl _⟩
    · obtain ⟨i, hi, H⟩ := ih (by omega)
      by_cases hc : f i ≤ f n
      · refine ⟨i, by omega, fun j hj => ?_⟩
        by_cases hjn : j = n
        · rw [hjn]; exact hc
        · exact H j (by omega)
      · refine ⟨n, by omega, fun j hj => ?_⟩
        by_cases hjn : j = n
        · rw [hjn]; exact Int.le_refl _
        · have := H j (by omega); omega

theorem two_on {R : Nat → Pt} {p : Pt} (hp : Lf R 2 p) : onP (R 0).1 (R 0).2 (R 1).1 (R 1).2 p.1 p.2 = true := by
  have h0 := hp 0 (by omega)
  have h1 := hp 1 (by omega)
  simp only [Nat.zero_add, show (1 : Nat) % 2 = 1 by rfl, show (1 + 1) % 2 = 0 by rfl] at h0 h1
  have e : cr (R 1) (R 0) p = - cr (R 0) (R 1) p := by unfold cr; grind
  have g : cr (R 0) (R 1) p = 0 := by omega
  exact on_of g (h0.2 g)

/-- Some corner lies higher than the point, some other does not. -/
theorem above {R : Nat → Pt} {n : Nat} {p : Pt} (h : Rg R n) (hn : 2 < n) (hp : Lf R n p) (hoff : ∀ j, j < n → edgeOn R n p j = false) : (∃ i, i < n ∧ (R i).2 ≤ p.2) ∧ ∃ i, i < n ∧ p.2 < (R i).2 := by
  have pre : ∀ i, i < n → ∃ k, k < n ∧ (k + 1) % n = i ∧ (k + 2) % n = (i + 1) % n := fun i hi => by
    refine ⟨preI n i, preI_lt i (by omega), preI_next hi, ?_⟩
    rw [← preI_next hi, Nat.mod_add_mod, preI_next hi]
  have pos : ∀ k, k < n → 0 < cr (R k) (R ((k + 1) % n)) p := fun k hk => by
    rcases Int.lt_or_eq_of_le (hp k hk).1 with g | g
    · exact g
    · have h9 := on_of g.symm ((hp k hk).2 g.symm)
      have h8 := hoff k hk
      unfold edgeOn at h8
      rw [h8] at h9
      cases h9
  constructor
  · obtain ⟨i, hi, hl⟩ := least n (fun j => (R j).2) (by omega)
    by_cases hc : (R i).2 ≤ p.2
    · exact ⟨i, hi, hc⟩
    · exfalso
      obtain ⟨k, hk, e1, e2⟩ := pre i hi
      have l := h.left hn hk
      have c := cr_cone (R k) (R i) (R ((i + 1) % n)) p
      have p1 := pos k hk
      have p2 := pos i hi
      rw [e1, e2] at l
      rw [e1] at p1
      have y1 := hl k hk
      have y2 := hl ((i + 1) % n) (Nat.mod_lt _ (by omega))
      have t1 := Int.mul_nonneg (Int.le_of_lt p2) (by omega : 0 ≤ (R k).2 - (R i).2)
      have t2 := Int.mul_nonneg (Int.le_of_lt p1) (by omega : 0 ≤ (R ((i + 1) % n)).2 - (R i).2)
      have t3 := Int.mul_neg_of_pos_of_neg l (by omega : p.2 - (R i).2 < 0)
      omega
  · obtain ⟨i, hi, hl⟩ := least n (fun j => -(R j).2) (by omega)
    by_cases hc : p.2 < (R i).2
    · exact ⟨i, hi, hc⟩
    · exfalso
      obtain ⟨k, hk, e1, e2⟩ := pre i hi
      have l := h.left hn hk
      have c := cr_cone (R k) (R i) (R ((i + 1) % n)) p
      have p1 := pos k hk
      have p2 := pos i hi
      rw [e1, e2] at l
      rw [e1] at p1
      have y1 := hl k hk
      have y2 := hl ((i + 1) % n) (Nat.mod_lt _ (by omega))
      have t3 := Int.mul_nonneg (Int.le_of_lt l) (by omega : 0 ≤ p.2 - (R i).2)
      have l0 : cr (R k) (R i) (R ((i + 1) % n)) = ((R i).1 - (R k).1) * ((R ((i + 1) % n)).2 - (R i).2) - ((R i).2 - (R k).2) * ((R ((i + 1) % n)).1 - (R i).1) := by unfold cr; grind
      by_cases z1 : (R k).2 = (R i).2
      · by_cases z2 : (R ((i + 1) % n)).2 = (R i).2
        · rw [l0, z1, z2] at l
          simp at l
        · have t2 := Int.mul_neg_of_pos_of_neg p1 (by omega : (R ((i + 1) % n)).2 - (R i).2 < 0)
          rw [z1, Int.sub_self, Int.mul_zero] at c
          omega
      · have t1 := Int.mul_neg_of_pos_of_neg p2 (by omega : (R k).2 - (R i).2 < 0)
        have t2 := Int.mul_nonneg (Int.le_of_lt p1) (by omega : 0 ≤ (R i).2 - (R ((i + 1) % n)).2)
        have t4 : cr (R k) (R i) p * ((R i).2 - (R ((i + 1) % n)).2) = -(cr (R k) (R i) p * ((R ((i + 1) % n)).2 - (R i).2)) := by grind
        omega

/-- Going round from a low corner one comes to an edge that rises past the height. -/
theorem rise {n : Nat} (f : Nat → Int) (c : Int) {i j : Nat} (hi : i < n) (hj : j < n) (h1 : f i ≤ c) (h2 : c < f j) : ∃ k, k < n ∧ f k ≤ c ∧ c < f ((k + 1) % n) := by
  have hn : 0 < n := by omega
  apply Classical.byContradiction
  intro hno
  have H : ∀ t, f ((i + t) % n) ≤ c := by
    intro t
    induction t with
    | zero => rw [Nat.add_zero, Nat.mod_eq_of_lt hi]; exact h1
    | succ t ih =>
      have hlt := Nat.mod_lt (i + t) hn
      rw [← Int.not_lt]
      intro hc
      refine hno ⟨(i + t) % n, hlt, ih, ?_⟩
      rw [Nat.mod_add_mod]
      exact hc
  have h3 := H (n - i + j)
  rw [show i + (n - i + j) = j + n by omega, Nat.add_mod_right, Nat.mod_eq_of_lt hj] at h3
  omega

theorem cr_two (u v u' v' : Pt) (h : Int) : ((v'.2 - h) * cr u v u' + (h - u'.2) * cr u v v') + ((v.2 - h) * cr u' v' u + (h - u.2) * cr u' v' v) = 0 := by
  unfold cr
  grind

theorem rise_one {R : Nat → Pt} {n : Nat} {h : Int} (H : Rg R n) {i j : Nat} (hi : i < n) (hj : j < n) (a1 : (R i).2 ≤ h) (a2 : h < (R ((i + 1) % n)).2) (b1 : (R j).2 ≤ h) (b2 : h < (R ((j + 1) % n)).2) : i = j := by
  apply Classical.byContradiction
  intro hne
  have hi1 : (i + 1) % n < n := Nat.mod_lt _ (by omega)
  have hj1 : (j + 1) % n < n := Nat.mod_lt _ (by omega)
  have c := cr_two (R i) (R ((i + 1) % n)) (R j) (R ((j + 1) % n)) h
  have u1 := H.edge i hi j hj
  have u2 := H.edge i hi _ hj1
  have w1 := H.edge j hj i hi
  have w2 := H.edge j hj _ hi1
  have t2 := Int.mul_nonneg (by omega : 0 ≤ h - (R j).2) u2.1
  have t4 := Int.mul_nonneg (by omega : 0 ≤ h - (R i).2) w2.1
  have t1 := Int.mul_nonneg (by omega : 0 ≤ (R ((j + 1) % n)).2 - h) u1.1
  have t3 := Int.mul_nonneg (by omega : 0 ≤ (R ((i + 1) % n)).2 - h) w1.1
  have z1 : cr (R i) (R ((i + 1) % n)) (R j) = 0 := by
    rcases Int.lt_or_eq_of_le u1.1 with g | g
    · have := Int.mul_pos (by omega : 0 < (R ((j + 1) % n)).2 - h) g
      omega
    · exact g.symm
  have z2 : cr (R j) (R ((j + 1) % n)) (R i) = 0 := by
    rcases Int.lt_or_eq_of_le w1.1 with g | g
    · have := Int.mul_pos (by omega : 0 < (R ((i + 1) % n)).2 - h) g
      omega
    · exact g.symm
  have k1 := (btw_both z1 (u1.2 z1)).2
  have k2 := (btw_both z2 (w1.2 z2)).2
  have y : (R i).2 = (R j).2 := by omega
  refine H.apart i hi j hj hne (Prod.ext ?_ y)
  unfold cr at z1
  rw [← y, Int.sub_self, Int.mul_zero, Int.zero_sub, Int.neg_eq_zero] at z1
  rcases Int.mul_eq_zero.1 z1 with g | g <;> omega

theorem crs_pos {u v p : Pt} (h : 0 ≤ cr u v p) (hon : onP u.1 u.2 v.1 v.2 p.1 p.2 = false) (hb : cr u v p = 0 → Btw u v p) : (0 < crsT u.1 u.2 v.1 v.2 p.1 p.2) ↔ (u.2 ≤ p.2 ∧ p.2 < v.2) := by
  have h0 : 0 < cr u v p := by
    rcases Int.lt_or_eq_of_le h with g | g
    · exact g
    · rw [on_of g.symm (hb g.symm)] at hon; cases hon
  have e1 : trnS u.1 u.2 v.1 v.2 p.1 p.2 = sgn (cr u v p) := rfl
  have e2 : trnS v.1 v.2 u.1 u.2 p.1 p.2 = sgn (-cr u v p) := by unfold trnS cr; congr 1; grind
  unfold crsT crsC
  rw [e1, e2]
  have a := sgn_pos (x := v.2 - p.2)
  have b := sgn_le (x := u.2 - p.2)
  have c := sgn_pos (x := u.2 - p.2)
  have d := sgn_pos (x := cr u v p)
  have f := sgn_pos (x := -cr u v p)
  split
  · rename_i g
    have := a.1 g.1
    have := b.1 g.2
    rw [d]
    omega
  · rename_i g
    have g2 : ¬ (u.2 ≤ p.2 ∧ p.2 < v.2) := fun k => g ⟨a.2 (by omega), b.2 (by omega)⟩
    split
    · rw [f]; omega
    · omega

theorem crsN_one {R : Nat → Pt} {n : Nat} {p : Pt} {k : Nat} (H : ∀ i, i < n → ((0 < crsT (R i).1 (R i).2 (R ((i + 1) % n)).1 (R ((i + 1) % n)).2 p.1 p.2) ↔ i = k)) : ∀ m, m ≤ n → crsN R n p m = if k < m then 1 else 0 := by
  intro m
  induction m with
  | zero => intro _; rfl
  | succ m ih =>
    intro hm
    have h := H m (by omega)
    rw [crsN, ih (by omega)]
    by_cases e : m = k
    · rw [if_pos (h.2 e), if_neg (by omega), if_pos (by omega)]
    · rw [if_neg (fun g => e (h.1 g))]
      by_cases g : k < m
      · rw [if_pos g, if_pos (by omega)]
      · rw [if_neg g, if_neg (by omega)]

/-- A point that lies nowhere right of the ring lies inside or on it. -/
theorem ins_ring {R : Nat → Pt} {n : Nat} {p : Pt} (h : Rg R n) (hn : 2 ≤ n) (hp : Lf R n p) : 0 ≤ insV R n p := by
  by_cases hoff : ∀ j, j < n → edgeOn R n p j = false
  · rw [ins_off hoff]
    by_cases h2 : n = 2
    · subst h2
      have h9 := two_on hp
      have h8 := hoff 0 (by omega)
      unfold edgeOn at h8
      rw [show (0 + 1) % 2 = 1 from rfl, h9] at h8
      cases h8
    · obtain ⟨⟨i, hi, a⟩, ⟨j, hj, b⟩⟩ := above h (by omega) hp hoff
      obtain ⟨k, hk, k1, k2⟩ := rise (fun t => (R t).2) p.2 hi hj a b
      have H : ∀ i, i < n → ((0 < crsT (R i).1 (R i).2 (R ((i + 1) % n)).1 (R ((i + 1) % n)).2 p.1 p.2) ↔ i = k) := by
        intro i hi
        have e := hoff i hi
        unfold edgeOn at e
        rw [crs_pos (hp i hi).1 e (hp i hi).2]
        constructor
        · rintro ⟨c1, c2⟩
          exact rise_one h hi hk c1 c2 k1 k2
        · rintro rfl
          exact ⟨k1, k2⟩
      rw [crsN_one H n (Nat.le_refl _), if_pos hk]
      decide
  · have ⟨j, hj⟩ := Classical.not_forall.1 hoff
    have ⟨hj, hj2⟩ := Classical.not_imp.1 hj
    rw [ins_on hj (by simpa using hj2)]
    exact Int.le_refl _

end Go.Proofs.Ytbjjkfmdkmbcfaa

namespace Go.Proofs.Ytbjjkfmdkmbcfaa
open Go.Shelf Go.RowKit Go.Lib Go.Sort
open PlRd (sgn)
open HL (Pt cr lx popW chainR hullL)

theorem infoPt : (Try.prog.info? 24).map (fun i => (i.zero, i.size, i.bytes)) = some (some (.agg #[.int .u64 0, .int .u64 0]), 2, 16) := by kernel_rfl

/-- Points as cells. -/
def ptCells (ps : List (Nat × Nat)) : List Value := ps.flatMap fun p => [.int .u64 p.1, .int .u64 p.2]

theorem ptCells_snoc (ps : List (Nat × Nat)) (p : Nat × Nat) : ptCells (ps ++ [p]) = ptCells ps ++ [.int .u64 p.1, .int .u64 p.2] := by simp [ptCells]

theorem ptCells_length (ps : List (Nat × Nat)) : (ptCells ps).length = ps.length * 2 := by
  induction ps with
  | nil => rfl
  | cons p ps ih => simp [ptCells] at ih ⊢; omega

theorem ptCells_at (ps : List (Nat × Nat)) : ∀ t, t < ps.length → (ptCells ps)[t * 2]? = some (.int .u64 (ps.getD t (0, 0)).1) ∧ (ptCells ps)[t * 2 + 1]? = some (.int .u64 (ps.getD t (0, 0)).2) := by
  induction ps with
  | nil => intro t ht; simp at ht
  | cons p ps ih =>
    intro t ht
    have e : ptCells (p :: ps) = .int .u64 p.1 :: .int .u64 p.2 :: ptCells ps := by simp [ptCells]
    rw [e]
    cases t with
    | zero => simp
    | succ t =>
      have h := ih t (by simpa using ht)
      rw [show (t + 1) * 2 = t * 2 + 1 + 1 by omega]
      simpa using h

/-- A row of points that is the call's own. -/
def PV (w : World) (base : Nat) (v : Value) (ps : List (Nat × Nat)) : Prop := w.ownsRow base 24 2 v ps.length (ptCells ps)

theorem PV.form {w : World} {base : Nat} {v : Value} {ps : List (Nat × Nat)} (h : PV w base v ps) : ∃ p c, v = .slice p ps.length c := by
  rcases h.2 with ⟨h1, h2⟩ | ⟨g, cap, cur, h1, _⟩
  · exact ⟨none, 0, by rw [h1, h2]⟩
  · exact ⟨_, cap, h1⟩

theorem PV.nil (w : World) (base : Nat) : PV w base (.slice none 0 0) [] := World.ownsRow_nil _ _ _ _

theorem PV.cells {w : World} {base : Nat} {v : Value} {ps : List (Nat × Nat)} (h : PV w base v ps) (hne : ps.length ≠ 0) : ∃ g c, v = .slice (some ⟨g, 0, none⟩) ps.length c ∧ base ≤ g ∧ g < w.heap.size ∧ PtsAt w g 0 ps := by
  have h0 := h
  obtain ⟨hl, h⟩ := h
  rcases h with ⟨h1, h2⟩ | ⟨g, cap, cur, h1, hb, hg, hc, hm, hs, ht⟩
  · exact absurd h2 hne
  · subst h1
    refine ⟨g, cap, rfl, hb, ?_, fun t ht => ?_⟩
    · rw [← Nat.not_le]
      intro hle
      rw [Array.getElem?_eq_none hle] at hg
      cases hg
    · have h2 := ptCells_at ps t ht
      have hc := ptCells_length ps
      rw [Nat.zero_add]
      exact ⟨(World.ownsRow.cellAt h0 (t * 2) (by omega)).trans h2.1, (World.ownsRow.cellAt h0 (t * 2 + 1) (by omega)).trans h2.2⟩

theorem PV.sl {w : World} {base : Nat} {v : Value} {ps : List (Nat × Nat)} (h : PV w base v ps) : SlAt w v ps.length ps := by
  by_cases h0 : ps.length = 0
  · obtain ⟨hl, h⟩ := h
    rcases h with ⟨h1, h2⟩ | ⟨g, cap, cur, h1, hb, hg, _⟩
    · exact .inl ⟨h1, h2⟩
    · refine .inr ⟨g, cap, h1, ?_, fun t ht => by omega⟩
      rw [← Nat.not_le]
      intro hle
      rw [Array.getElem?_eq_none hle] at hg
      cases hg
  · obtain ⟨g, c, h1, _, h2, h3⟩ := h.cells h0
    exact .inr ⟨g, c, h1, h2, h3⟩

theorem PV.kept {w w' : World} {base : Nat} {v : Value} {ps : List (Nat × Nat)} (h : PV w base v ps) (hb : Below w.heap.size w w') : PV w' base v ps := by
  obtain ⟨hl, h⟩ := h
  refine ⟨hl, ?_⟩
  rcases h with h | ⟨g, cap, cur, h1, hbg, hg, h2, h3, h4, h5⟩
  · exact .inl h
  · refine .inr ⟨g, cap, cur, h1, hbg, ?_, h2, h3, h4, h5⟩
    have hlt : g < w.heap.size := by
      rw [← Nat.not_le]
      intro hle
      rw [Array.getElem?_eq_none hle] at hg
      cases hg
    rw [hb.block g hlt]
    exact hg

theorem PV.push {w : World} {base k : Nat} {v wr w1 v'} {ps : List (Nat × Nat)} {x y : Nat} (hl : ps.length = k) (h0 : PV wr base v ps) (h1 : w1.ownsRow base 24 2 v' (k + 1) (ptCells ps ++ [.int .u64 x, .int .u64 y])) (h2 : World.grownBy wr w1 v.ownBlock) (hb : Below base w wr) (hs : base ≤ wr.heap.size) : PV w1 base v' (ps ++ [(x, y)]) ∧ Below base w w1 := by
  refine ⟨?_, hb.grown h2 hs fun g hg => (World.ownsRow.lt h0 g hg).1⟩
  unfold PV
  rw [ptCells_snoc, List.length_append, hl]
  exact h1

theorem PV.ofLen {w : World} {base m : Nat} {v : Value} {ps : List (Nat × Nat)} (hm : ps.length = m) (h : PV w base v ps) : w.ownsRow base 24 2 v m (ptCells ps) := by
  subst hm
  exact h

/-- The spots that came in. -/
def SsAt (w : World) (va : Option Addr) (n : Nat) (ss : List (Int × Int)) : Prop := n = 0 ∨ ∃ sb so, va = some ⟨sb, so, none⟩ ∧ sb < w.heap.size ∧ ∀ t, t < n → w.cell? ⟨sb, so + t * 2, none⟩ = some (.int .i64 (ss.getD t (0, 0)).1) ∧ w.cell? ⟨sb, so + t * 2 + 1, none⟩ = some (.int .i64 (ss.getD t (0, 0)).2)

/-- The bits of spots times a power of 2. -/
def BtL (ss : List (Int × Int)) (p : Int) (ps : List (Nat × Nat)) : Prop := ∀ t, t < ps.length → Bt (ps.getD t (0, 0)).1 (bentI (ss.getD t (0, 0)).1) p ∧ Bt (ps.getD t (0, 0)).2 (bentI (ss.getD t (0, 0)).2) p

theorem BtL.snoc {ss : List (Int × Int)} {p : Int} {ps : List (Nat × Nat)} {x y : Nat} (h : BtL ss p ps) (hx : Bt x (bentI (ss.getD ps.length (0, 0)).1) p) (hy : Bt y (bentI (ss.getD ps.length (0, 0)).2) p) : BtL ss p (ps ++ [(x, y)]) := by
  intro t ht
  by_cases e : t < ps.length
  · have h1 := h t e
    rw [List.getD_eq_getElem?_getD] at h1
    rw [List.getD_eq_getElem?_getD, List.getElem?_append_left e]
    exact h1
  · have e2 : t = ps.length := by simp at ht; omega
    subst e2
    rw [List.getD_eq_getElem?_getD (l := ps ++ [(x, y)])]
    simp only [List.getElem?_concat_length, Option.getD_some]
    exact ⟨hx, hy⟩

theorem mem_getD {ps : List (Nat × Nat)} {p : Nat × Nat} (h : p ∈ ps) : ∃ t, t < ps.length ∧ ps.getD t (0, 0) = p := by
  obtain ⟨t, ht, e⟩ := List.getElem_of_mem h
  exact ⟨t, ht, by rw [List.getD_eq_getElem?_getD, List.getElem?_eq_getElem ht, Option.getD_some, e]⟩

theorem BtL.lt {ss : List (Int × Int)} {p : Int} {ps : List (Nat × Nat)} (h : BtL ss p ps) : ∀ q ∈ ps, q.1 < 2 ^ 64 ∧ q.2 < 2 ^ 64 := by
  intro q hq
  obtain ⟨t, ht, rfl⟩ := mem_getD hq
  exact ⟨(h t ht).1.lt, (h t ht).2.lt⟩

theorem BtL.ok {ss : List (Int × Int)} {p : Int} {ps : List (Nat × Nat)} (h : BtL ss p ps) : okPts ps = true := by
  unfold okPts
  rw [List.all_eq_true]
  intro q hq
  obtain ⟨t, ht, rfl⟩ := mem_getD hq
  rw [(h t ht).1.may, (h t ht).2.may]
  rfl

end Go.Proofs.Ytbjjkfmdkmbcfaa
