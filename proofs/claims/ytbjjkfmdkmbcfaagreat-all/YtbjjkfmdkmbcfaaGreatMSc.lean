import Derived.Test.YtbjjkfmdkmbcfaaGreatMSb
namespace Go.Proofs.YtbjjkfmdkmbcfaaGreat
open Go.RowKit
open PlLv

attribute [local go_sem ↓] Go.wp_at_zero Go.wp_at_succ

/-- A point of the reference in a row: its four cells, its two numbers. -/
def PtAt (w : World) (g i : Nat) (q : PB) (x : Int × Int) : Prop :=
  (w.cell? ⟨g, i * 4, none⟩ = some (.bool q.nx) ∧ w.cell? ⟨g, i * 4 + 1, none⟩ = some q.vx ∧ w.cell? ⟨g, i * 4 + 2, none⟩ = some (.bool q.ny) ∧ w.cell? ⟨g, i * 4 + 3, none⟩ = some q.vy) ∧ Bg w q.nx q.vx q.lx x.1 ∧ Bg w q.ny q.vy q.ly x.2 ∧ x.1.natAbs < 2 ^ 200 ∧ x.2.natAbs < 2 ^ 200

def edgeOn (X : Nat → Int × Int) (n : Nat) (p : Int × Int) (i : Nat) : Bool := onP (X i).1 (X i).2 (X ((i + 1) % n)).1 (X ((i + 1) % n)).2 p.1 p.2

/-- Does an edge cross the half-line? -/
def crsC (a b s t : Int) : Int := if 0 < b ∧ a ≤ 0 then s else if 0 < a ∧ b ≤ 0 then t else 0

def crsT (ux uy vx vy px py : Int) : Int := crsC (PlRd.sgn (uy - py)) (PlRd.sgn (vy - py)) (trnS ux uy vx vy px py) (trnS vx vy ux uy px py)

def crsN (X : Nat → Int × Int) (n : Nat) (p : Int × Int) : Nat → Nat
  | 0 => 0
  | k + 1 => crsN X n p k + if 0 < crsT (X k).1 (X k).2 (X ((k + 1) % n)).1 (X ((k + 1) % n)).2 p.1 p.2 then 1 else 0

def insV (X : Nat → Int × Int) (n : Nat) (p : Int × Int) : Int := if (List.range n).any (edgeOn X n p) then 0 else if crsN X n p n % 2 = 1 then 1 else -1

theorem crsN_le (X : Nat → Int × Int) (n : Nat) (p : Int × Int) : ∀ k, crsN X n p k ≤ k
  | 0 => Nat.le_refl _
  | k + 1 => by
    have := crsN_le X n p k
    rw [crsN]
    split <;> omega

theorem ins_on {X : Nat → Int × Int} {n k : Nat} {p : Int × Int} (hk : k < n) (h : edgeOn X n p k = true) : insV X n p = 0 := by
  unfold insV
  rw [if_pos]
  exact List.any_eq_true.2 ⟨k, List.mem_range.2 hk, h⟩

theorem ins_off {X : Nat → Int × Int} {n : Nat} {p : Int × Int} (h : ∀ j, j < n → edgeOn X n p j = false) : insV X n p = if crsN X n p n % 2 = 1 then 1 else -1 := by
  unfold insV
  rw [if_neg]
  intro ha
  obtain ⟨j, hj, hj2⟩ := List.any_eq_true.1 ha
  rw [h j (List.mem_range.1 hj)] at hj2
  cases hj2

set_option maxHeartbeats 8000000 in
set_option maxRecDepth 100000 in
theorem rinside_any (g n c : Nat) (f : Nat → PB) (X : Nat → Int × Int) (npx : Bool) (opx : Option Addr) (kpx : Nat) (lpx : List Nat) (Xpx : Int) (npy : Bool) (opy : Option Addr) (kpy : Nat) (lpy : List Nat) (Xpy : Int) (w : World) (hn : n ≤ 100000) (hg : g < w.heap.size) (H : ∀ i, i < n → PtAt w g i (f i) (X i)) (hpx : Bg w npx (.slice opx lpx.length kpx) lpx Xpx) (spx : Xpx.natAbs < 2 ^ 200) (hpy : Bg w npy (.slice opy lpy.length kpy) lpy Xpy) (spy : Xpy.natAbs < 2 ^ 200) :
    Calls Tryz.prog 30 #[.slice (some ⟨g, 0, none⟩) n c, .agg #[.bool npx, .slice opx lpx.length kpx, .bool npy, .slice opy lpy.length kpy]] w fun e w' => Below w.heap.size w w' ∧ e = .returned (.int .i64 (insV X n (Xpx, Xpy))) := by
  go_enter Tryz.func30, Tryz.ntmps30
  go_upto_region 1 with fail
  generalize hW : World.alloc w _ = W
  have hWs : W.heap.size = w.heap.size + 1 := by subst hW; simp
  have hw : Below w.heap.size w W := by
    subst hW
    exact (Below.refl _ w).alloc (Nat.le_refl _) _
  have KS : ∀ w', Below W.heap.size W w' → (w'.cell? ⟨w.heap.size, 0, none⟩ = some (.bool npx) ∧ w'.cell? ⟨w.heap.size, 1, none⟩ = some (.slice opx lpx.length kpx) ∧ w'.cell? ⟨w.heap.size, 2, none⟩ = some (.bool npy) ∧ w'.cell? ⟨w.heap.size, 3, none⟩ = some (.slice opy lpy.length kpy)) := by
    intro w' hb
    obtain ⟨hc, _⟩ := bcell hb
    refine ⟨?_, ?_, ?_, ?_⟩
    all_goals (rw [hc _ _ (by omega)]; subst hW; simp [go_sem])
  clear hW
  go_wp2
  go_loopw [5, 6] (fun sn si wr => ∃ k : Nat, si = .int .i64 k ∧ sn = .int .i64 (crsN X n (Xpx, Xpy) k) ∧ k ≤ n ∧ (∀ j, j < k → edgeOn X n (Xpx, Xpy) j = false) ∧ Below W.heap.size W wr) (fun _ si _ => n - (intOf si).toNat)
  case atStart => exact ⟨0, rfl, rfl, Nat.zero_le _, fun j hj => absurd hj (Nat.not_lt_zero _), Below.refl _ _⟩
  case round =>
    obtain ⟨k, rfl, rfl, hk, hno, hbel⟩ := hrel
    by_cases hlt : k < n
    · obtain ⟨m, hm⟩ : ∃ m, m = (k + 1) % n := ⟨_, rfl⟩
      have hmn : m < n := hm ▸ Nat.mod_lt _ (by omega)
      obtain ⟨⟨Xux, Xuy⟩, hXu⟩ : ∃ x, x = X k := ⟨_, rfl⟩
      obtain ⟨⟨Xvx, Xvy⟩, hXv⟩ : ∃ x, x = X m := ⟨_, rfl⟩
      obtain ⟨⟨nux, vux, lux, nuy, vuy, luy⟩, hu⟩ : ∃ q, PtAt w g k q (X k) := ⟨_, H k hlt⟩
      obtain ⟨⟨nvx, vvx, lvx, nvy, vvy, lvy⟩, hv⟩ : ∃ q, PtAt w g m q (X m) := ⟨_, H m hmn⟩
      rw [← hXu] at hu
      rw [← hXv] at hv
      obtain ⟨hu0, bux, buy, sux, suy⟩ := hu
      obtain ⟨hv0, bvx, bvy, svx, svy⟩ := hv
      have fux := bg_form bux
      have fuy := bg_form buy
      have fvx := bg_form bvx
      have fvy := bg_form bvy
      simp only at hu0 hv0 bux buy bvx bvy sux suy svx svy fux fuy fvx fvy
      obtain ⟨oux, kux, rfl⟩ := fux
      obtain ⟨ouy, kuy, rfl⟩ := fuy
      obtain ⟨ovx, kvx, rfl⟩ := fvx
      obtain ⟨ovy, kvy, rfl⟩ := fvy
      have CR : ∀ W', Below W.heap.size W W' → (W'.cell? ⟨g, k * 4, none⟩ = some (.bool nux) ∧ W'.cell? ⟨g, k * 4 + 1, none⟩ = some (.slice oux lux.length kux) ∧ W'.cell? ⟨g, k * 4 + 2, none⟩ = some (.bool nuy) ∧ W'.cell? ⟨g, k * 4 + 3, none⟩ = some (.slice ouy luy.length kuy)) ∧ (W'.cell? ⟨g, m * 4, none⟩ = some (.bool nvx) ∧ W'.cell? ⟨g, m * 4 + 1, none⟩ = some (.slice ovx lvx.length kvx) ∧ W'.cell? ⟨g, m * 4 + 2, none⟩ = some (.bool nvy) ∧ W'.cell? ⟨g, m * 4 + 3, none⟩ = some (.slice ovy lvy.length kvy)) := by
        intro W' h
        have hh : Below w.heap.size w W' := hw.trans (h.mono hw.size)
        have hc : ∀ j, W'.cell? ⟨g, j, none⟩ = w.cell? ⟨g, j, none⟩ := fun j => hh.cell (p := ⟨g, j, none⟩) hg
        rw [hc, hc, hc, hc, hc, hc, hc, hc]
        exact ⟨hu0, hv0⟩
      have HE : Hid (edgeOn X n (Xpx, Xpy) k = onP Xux Xuy Xvx Xvy Xpx Xpy) := by unfold Hid edgeOn; rw [← hm, ← hXu, ← hXv]
      have HC : Hid (crsN X n (Xpx, Xpy) (k + 1) = crsN X n (Xpx, Xpy) k + if 0 < crsT Xux Xuy Xvx Xvy Xpx Xpy then 1 else 0) := by unfold Hid; rw [crsN, ← hm, ← hXu, ← hXv]
      have hn0 : ¬ (n : Int) = 0 := by omega
      have ht : Int.tmod ((k : Int) + 1) (n : Int) = (m : Int) := by
        rw [hm, Int.tmod_eq_emod_of_nonneg (by omega)]
        simp
      have hglt : g < wr.heap.size := Nat.lt_of_lt_of_le hg (Nat.le_trans hw.size hbel.size)
      obtain ⟨⟨a0, a1, a2, a3⟩, ⟨c0, c1, c2, c3⟩⟩ := CR wr hbel
      obtain ⟨p0, p1, p2, p3⟩ := KS wr hbel
      have hplt : w.heap.size < wr.heap.size := by have := hbel.size; omega
      have hcl := crsN_le X n (Xpx, Xpy) k
      obtain ⟨bo, hbo⟩ : ∃ b, b = onP Xux Xuy Xvx Xvy Xpx Xpy := ⟨_, rfl⟩
      obtain ⟨a, ha⟩ : ∃ a, a = PlRd.sgn (Xuy - Xpy) := ⟨_, rfl⟩
      obtain ⟨b, hb⟩ : ∃ b, b = PlRd.sgn (Xvy - Xpy) := ⟨_, rfl⟩
      obtain ⟨s, hs⟩ : ∃ s, s = trnS Xux Xuy Xvx Xvy Xpx Xpy := ⟨_, rfl⟩
      obtain ⟨t, htt⟩ : ∃ t, t = trnS Xvx Xvy Xux Xuy Xpx Xpy := ⟨_, rfl⟩
      have HO : Hid (bo = onP Xux Xuy Xvx Xvy Xpx Xpy) := hbo
      have HA : Hid (a = PlRd.sgn (Xuy - Xpy)) := ha
      have HB : Hid (b = PlRd.sgn (Xvy - Xpy)) := hb
      have HS : Hid (s = trnS Xux Xuy Xvx Xvy Xpx Xpy) := hs
      have HT : Hid (t = trnS Xvx Xvy Xux Xuy Xpx Xpy) := htt
      have HE2 : Hid (edgeOn X n (Xpx, Xpy) k = bo) := HE.out.trans hbo.symm
      have HC2 : Hid (crsN X n (Xpx, Xpy) (k + 1) = crsN X n (Xpx, Xpy) k + if 0 < crsC a b s t then 1 else 0) := by
        have := HC.out
        unfold crsT at this
        rw [← ha, ← hb, ← hs, ← htt] at this
        exact this
      clear hu0 hv0 hm hXu hXv H HE HC hbo ha hb hs htt
      go_upto_region 7 with fail
      generalize hZ : World.alloc (World.alloc wr _) _ = Z
      have hZs : Z.heap.size = wr.heap.size + 2 := by subst hZ; simp
      have hwrZ : Below wr.heap.size wr Z := by
        subst hZ
        exact ((Below.refl _ wr).alloc (Nat.le_refl _) _).alloc (by simp) _
      have hWZ : Below W.heap.size W Z := below_step hwrZ hbel
      have hwZ : Below w.heap.size w Z := hw.trans (hWZ.mono hw.size)
      have KZ : ∀ w', Below Z.heap.size Z w' → (w'.cell? ⟨wr.heap.size, 0, none⟩ = some (.bool nux) ∧ w'.cell? ⟨wr.heap.size, 1, none⟩ = some (.slice oux lux.length kux) ∧ w'.cell? ⟨wr.heap.size, 2, none⟩ = some (.bool nuy) ∧ w'.cell? ⟨wr.heap.size, 3, none⟩ = some (.slice ouy luy.length kuy)) ∧ (w'.cell? ⟨wr.heap.size + 1, 0, none⟩ = some (.bool nvx) ∧ w'.cell? ⟨wr.heap.size + 1, 1, none⟩ = some (.slice ovx lvx.length kvx) ∧ w'.cell? ⟨wr.heap.size + 1, 2, none⟩ = some (.bool nvy) ∧ w'.cell? ⟨wr.heap.size + 1, 3, none⟩ = some (.slice ovy lvy.length kvy)) ∧ (w'.cell? ⟨w.heap.size, 0, none⟩ = some (.bool npx) ∧ w'.cell? ⟨w.heap.size, 1, none⟩ = some (.slice opx lpx.length kpx) ∧ w'.cell? ⟨w.heap.size, 2, none⟩ = some (.bool npy) ∧ w'.cell? ⟨w.heap.size, 3, none⟩ = some (.slice opy lpy.length kpy)) := by
        intro w' h
        refine ⟨?_, ?_, KS w' (below_step h hWZ)⟩
        all_goals
          obtain ⟨hc, _⟩ := bcell h
          refine ⟨?_, ?_, ?_, ?_⟩
          all_goals (rw [hc _ _ (by omega)]; subst hZ; simp [go_sem])
      clear hZ
      obtain ⟨⟨d0, d1, d2, d3⟩, ⟨e0, e1, e2, e3⟩, ⟨f0, f1, f2, f3⟩⟩ := KZ Z (Below.refl _ _)
      clear a0 a1 a2 a3 c0 c1 c2 c3 p0 p1 p2 p3
      rcases bo with _ | _
      · have hno2 : Hid (∀ j, j < k + 1 → edgeOn X n (Xpx, Xpy) j = false) := by
          intro j hj
          rcases Nat.lt_or_ge j k with h | h
          · exact hno j h
          · rw [show j = k by omega]; exact HE2.out
        clear hno
        by_cases qa : 0 < a <;> by_cases qb : 0 < b
        · have qa2 : ¬ a ≤ 0 := by omega
          have qb2 : ¬ b ≤ 0 := by omega
          have HV : Hid (crsN X n (Xpx, Xpy) (k + 1) = crsN X n (Xpx, Xpy) k) := by
            have h9 : crsN X n (Xpx, Xpy) (k + 1) = crsN X n (Xpx, Xpy) k := by simpa [crsC, qa2, qb2] using HC2.out
            exact h9
          clear HC2
          go_wp2_with (first | (go_at_call 22; have g1 := hb4; go_must (refine (sign_bg m4 _ j4 _ _ hg4).mono ?_; rintro e w5 ⟨he5, hb5⟩; rw [← HB.out] at he5; subst he5; obtain ⟨⟨d0, d1, d2, d3⟩, ⟨e0, e1, e2, e3⟩, ⟨f0, f1, f2, f3⟩⟩ := KZ w5 (below_step hb5 (below_step hb4 (below_step hb3 (below_step hb2 hb1)))))) | (go_at_call 23; have g1 := hb3; go_must (refine (less_bg nvy npy _ _ lvy lpy Xvy Xpy _ (bvy.kept (hwZ.trans ((below_step hb3 (below_step hb2 hb1)).mono hwZ.size))) (hpy.kept (hwZ.trans ((below_step hb3 (below_step hb2 hb1)).mono hwZ.size))) (small200 svy) (small200 spy)).mono ?_; rintro e w4 ⟨m4, v4, j4, rfl, hg4, hb4⟩; obtain ⟨a4, d4, hv4⟩ := bg_form hg4; subst hv4)) | (go_at_call 22; have g1 := hb2; go_must (refine (sign_bg m2 _ j2 _ _ hg2).mono ?_; rintro e w3 ⟨he3, hb3⟩; rw [← HA.out] at he3; subst he3; obtain ⟨⟨d0, d1, d2, d3⟩, ⟨e0, e1, e2, e3⟩, ⟨f0, f1, f2, f3⟩⟩ := KZ w3 (below_step hb3 (below_step hb2 hb1)))) | (go_at_call 23; have g1 := hb1; go_must (refine (less_bg nuy npy _ _ luy lpy Xuy Xpy _ (buy.kept (hwZ.trans (hb1.mono hwZ.size))) (hpy.kept (hwZ.trans (hb1.mono hwZ.size))) (small200 suy) (small200 spy)).mono ?_; rintro e w2 ⟨m2, v2, j2, rfl, hg2, hb2⟩; obtain ⟨a2, d2, hv2⟩ := bg_form hg2; subst hv2)) | (go_at_call 47; go_must (refine (on_any nux _ _ lux Xux nuy _ _ luy Xuy nvx _ _ lvx Xvx nvy _ _ lvy Xvy npx _ _ lpx Xpx npy _ _ lpy Xpy _ (bux.kept hwZ) sux (buy.kept hwZ) suy (bvx.kept hwZ) svx (bvy.kept hwZ) svy (hpx.kept hwZ) spx (hpy.kept hwZ) spy).mono ?_; rintro e w1 ⟨hb1, he1⟩; rw [← HO.out] at he1; subst he1; obtain ⟨⟨d0, d1, d2, d3⟩, ⟨e0, e1, e2, e3⟩, ⟨f0, f1, f2, f3⟩⟩ := KZ w1 hb1)))
          go_roundw
          case rel => exact ⟨k + 1, by go_num, by rw [HV.out], by omega, hno2.out, below_step (below_step hb5 (below_step hb4 (below_step hb3 (below_step hb2 hb1)))) hWZ⟩
          case measure => simp [intOf]; omega
        · have qa2 : ¬ a ≤ 0 := by omega
          have qb2 : b ≤ 0 := by omega
          by_cases qt : 0 < t
          · have HV : Hid (crsN X n (Xpx, Xpy) (k + 1) = crsN X n (Xpx, Xpy) k + 1) := by
              have h9 : crsN X n (Xpx, Xpy) (k + 1) = crsN X n (Xpx, Xpy) k + 1 := by simpa [crsC, qa, qb, qa2, qb2, qt] using HC2.out
              exact h9
            clear HC2
            go_wp2_with (first | (go_at_call 21; go_must (refine (rturn_any nvx _ _ lvx Xvx nvy _ _ lvy Xvy nux _ _ lux Xux nuy _ _ luy Xuy npx _ _ lpx Xpx npy _ _ lpy Xpy _ (bvx.kept (hwZ.trans ((below_step hb5 (below_step hb4 (below_step hb3 (below_step hb2 hb1)))).mono hwZ.size))) svx (bvy.kept (hwZ.trans ((below_step hb5 (below_step hb4 (below_step hb3 (below_step hb2 hb1)))).mono hwZ.size))) svy (bux.kept (hwZ.trans ((below_step hb5 (below_step hb4 (below_step hb3 (below_step hb2 hb1)))).mono hwZ.size))) sux (buy.kept (hwZ.trans ((below_step hb5 (below_step hb4 (below_step hb3 (below_step hb2 hb1)))).mono hwZ.size))) suy (hpx.kept (hwZ.trans ((below_step hb5 (below_step hb4 (below_step hb3 (below_step hb2 hb1)))).mono hwZ.size))) spx (hpy.kept (hwZ.trans ((below_step hb5 (below_step hb4 (below_step hb3 (below_step hb2 hb1)))).mono hwZ.size))) spy).mono ?_; rintro e w6 ⟨hb6, he6⟩; rw [show PlRd.sgn _ = trnS Xvx Xvy Xux Xuy Xpx Xpy from rfl, ← HT.out] at he6; subst he6; obtain ⟨⟨d0, d1, d2, d3⟩, ⟨e0, e1, e2, e3⟩, ⟨f0, f1, f2, f3⟩⟩ := KZ w6 (below_step hb6 (below_step hb5 (below_step hb4 (below_step hb3 (below_step hb2 hb1))))))) | (go_at_call 22; have g1 := hb4; go_must (refine (sign_bg m4 _ j4 _ _ hg4).mono ?_; rintro e w5 ⟨he5, hb5⟩; rw [← HB.out] at he5; subst he5; obtain ⟨⟨d0, d1, d2, d3⟩, ⟨e0, e1, e2, e3⟩, ⟨f0, f1, f2, f3⟩⟩ := KZ w5 (below_step hb5 (below_step hb4 (below_step hb3 (below_step hb2 hb1)))))) | (go_at_call 23; have g1 := hb3; go_must (refine (less_bg nvy npy _ _ lvy lpy Xvy Xpy _ (bvy.kept (hwZ.trans ((below_step hb3 (below_step hb2 hb1)).mono hwZ.size))) (hpy.kept (hwZ.trans ((below_step hb3 (below_step hb2 hb1)).mono hwZ.size))) (small200 svy) (small200 spy)).mono ?_; rintro e w4 ⟨m4, v4, j4, rfl, hg4, hb4⟩; obtain ⟨a4, d4, hv4⟩ := bg_form hg4; subst hv4)) | (go_at_call 22; have g1 := hb2; go_must (refine (sign_bg m2 _ j2 _ _ hg2).mono ?_; rintro e w3 ⟨he3, hb3⟩; rw [← HA.out] at he3; subst he3; obtain ⟨⟨d0, d1, d2, d3⟩, ⟨e0, e1, e2, e3⟩, ⟨f0, f1, f2, f3⟩⟩ := KZ w3 (below_step hb3 (below_step hb2 hb1)))) | (go_at_call 23; have g1 := hb1; go_must (refine (less_bg nuy npy _ _ luy lpy Xuy Xpy _ (buy.kept (hwZ.trans (hb1.mono hwZ.size))) (hpy.kept (hwZ.trans (hb1.mono hwZ.size))) (small200 suy) (small200 spy)).mono ?_; rintro e w2 ⟨m2, v2, j2, rfl, hg2, hb2⟩; obtain ⟨a2, d2, hv2⟩ := bg_form hg2; subst hv2)) | (go_at_call 47; go_must (refine (on_any nux _ _ lux Xux nuy _ _ luy Xuy nvx _ _ lvx Xvx nvy _ _ lvy Xvy npx _ _ lpx Xpx npy _ _ lpy Xpy _ (bux.kept hwZ) sux (buy.kept hwZ) suy (bvx.kept hwZ) svx (bvy.kept hwZ) svy (hpx.kept hwZ) spx (hpy.kept hwZ) spy).mono ?_; rintro e w1 ⟨hb1, he1⟩; rw [← HO.out] at he1; subst he1; obtain ⟨⟨d0, d1, d2, d3⟩, ⟨e0, e1, e2, e3⟩, ⟨f0, f1, f2, f3⟩⟩ := KZ w1 hb1)))
            go_roundw
            case rel => exact ⟨k + 1, by go_num, by rw [HV.out]; go_num, by omega, hno2.out, below_step (below_step hb6 (below_step hb5 (below_step hb4 (below_step hb3 (below_step hb2 hb1))))) hWZ⟩
            case measure => simp [intOf]; omega
          · have HV : Hid (crsN X n (Xpx, Xpy) (k + 1) = crsN X n (Xpx, Xpy) k) := by
              have h9 : crsN X n (Xpx, Xpy) (k + 1) = crsN X n (Xpx, Xpy) k := by simpa [crsC, qa, qb, qa2, qb2, qt] using HC2.out
              exact h9
            clear HC2
            go_wp2_with (first | (go_at_call 21; go_must (refine (rturn_any nvx _ _ lvx Xvx nvy _ _ lvy Xvy nux _ _ lux Xux nuy _ _ luy Xuy npx _ _ lpx Xpx npy _ _ lpy Xpy _ (bvx.kept (hwZ.trans ((below_step hb5 (below_step hb4 (below_step hb3 (below_step hb2 hb1)))).mono hwZ.size))) svx (bvy.kept (hwZ.trans ((below_step hb5 (below_step hb4 (below_step hb3 (below_step hb2 hb1)))).mono hwZ.size))) svy (bux.kept (hwZ.trans ((below_step hb5 (below_step hb4 (below_step hb3 (below_step hb2 hb1)))).mono hwZ.size))) sux (buy.kept (hwZ.trans ((below_step hb5 (below_step hb4 (below_step hb3 (below_step hb2 hb1)))).mono hwZ.size))) suy (hpx.kept (hwZ.trans ((below_step hb5 (below_step hb4 (below_step hb3 (below_step hb2 hb1)))).mono hwZ.size))) spx (hpy.kept (hwZ.trans ((below_step hb5 (below_step hb4 (below_step hb3 (below_step hb2 hb1)))).mono hwZ.size))) spy).mono ?_; rintro e w6 ⟨hb6, he6⟩; rw [show PlRd.sgn _ = trnS Xvx Xvy Xux Xuy Xpx Xpy from rfl, ← HT.out] at he6; subst he6; obtain ⟨⟨d0, d1, d2, d3⟩, ⟨e0, e1, e2, e3⟩, ⟨f0, f1, f2, f3⟩⟩ := KZ w6 (below_step hb6 (below_step hb5 (below_step hb4 (below_step hb3 (below_step hb2 hb1))))))) | (go_at_call 22; have g1 := hb4; go_must (refine (sign_bg m4 _ j4 _ _ hg4).mono ?_; rintro e w5 ⟨he5, hb5⟩; rw [← HB.out] at he5; subst he5; obtain ⟨⟨d0, d1, d2, d3⟩, ⟨e0, e1, e2, e3⟩, ⟨f0, f1, f2, f3⟩⟩ := KZ w5 (below_step hb5 (below_step hb4 (below_step hb3 (below_step hb2 hb1)))))) | (go_at_call 23; have g1 := hb3; go_must (refine (less_bg nvy npy _ _ lvy lpy Xvy Xpy _ (bvy.kept (hwZ.trans ((below_step hb3 (below_step hb2 hb1)).mono hwZ.size))) (hpy.kept (hwZ.trans ((below_step hb3 (below_step hb2 hb1)).mono hwZ.size))) (small200 svy) (small200 spy)).mono ?_; rintro e w4 ⟨m4, v4, j4, rfl, hg4, hb4⟩; obtain ⟨a4, d4, hv4⟩ := bg_form hg4; subst hv4)) | (go_at_call 22; have g1 := hb2; go_must (refine (sign_bg m2 _ j2 _ _ hg2).mono ?_; rintro e w3 ⟨he3, hb3⟩; rw [← HA.out] at he3; subst he3; obtain ⟨⟨d0, d1, d2, d3⟩, ⟨e0, e1, e2, e3⟩, ⟨f0, f1, f2, f3⟩⟩ := KZ w3 (below_step hb3 (below_step hb2 hb1)))) | (go_at_call 23; have g1 := hb1; go_must (refine (less_bg nuy npy _ _ luy lpy Xuy Xpy _ (buy.kept (hwZ.trans (hb1.mono hwZ.size))) (hpy.kept (hwZ.trans (hb1.mono hwZ.size))) (small200 suy) (small200 spy)).mono ?_; rintro e w2 ⟨m2, v2, j2, rfl, hg2, hb2⟩; obtain ⟨a2, d2, hv2⟩ := bg_form hg2; subst hv2)) | (go_at_call 47; go_must (refine (on_any nux _ _ lux Xux nuy _ _ luy Xuy nvx _ _ lvx Xvx nvy _ _ lvy Xvy npx _ _ lpx Xpx npy _ _ lpy Xpy _ (bux.kept hwZ) sux (buy.kept hwZ) suy (bvx.kept hwZ) svx (bvy.kept hwZ) svy (hpx.kept hwZ) spx (hpy.kept hwZ) spy).mono ?_; rintro e w1 ⟨hb1, he1⟩; rw [← HO.out] at he1; subst he1; obtain ⟨⟨d0, d1, d2, d3⟩, ⟨e0, e1, e2, e3⟩, ⟨f0, f1, f2, f3⟩⟩ := KZ w1 hb1)))
            go_roundw
            case rel => exact ⟨k + 1, by go_num, by rw [HV.out], by omega, hno2.out, below_step (below_step hb6 (below_step hb5 (below_step hb4 (below_step hb3 (below_step hb2 hb1))))) hWZ⟩
            case measure => simp [intOf]; omega
        · have qa2 : a ≤ 0 := by omega
          have qb2 : ¬ b ≤ 0 := by omega
          by_cases qs : 0 < s
          · have HV : Hid (crsN X n (Xpx, Xpy) (k + 1) = crsN X n (Xpx, Xpy) k + 1) := by
              have h9 : crsN X n (Xpx, Xpy) (k + 1) = crsN X n (Xpx, Xpy) k + 1 := by simpa [crsC, qa, qb, qa2, qb2, qs] using HC2.out
              exact h9
            clear HC2
            go_wp2_with (first | (go_at_call 21; go_must (refine (rturn_any nux _ _ lux Xux nuy _ _ luy Xuy nvx _ _ lvx Xvx nvy _ _ lvy Xvy npx _ _ lpx Xpx npy _ _ lpy Xpy _ (bux.kept (hwZ.trans ((below_step hb5 (below_step hb4 (below_step hb3 (below_step hb2 hb1)))).mono hwZ.size))) sux (buy.kept (hwZ.trans ((below_step hb5 (below_step hb4 (below_step hb3 (below_step hb2 hb1)))).mono hwZ.size))) suy (bvx.kept (hwZ.trans ((below_step hb5 (below_step hb4 (below_step hb3 (below_step hb2 hb1)))).mono hwZ.size))) svx (bvy.kept (hwZ.trans ((below_step hb5 (below_step hb4 (below_step hb3 (below_step hb2 hb1)))).mono hwZ.size))) svy (hpx.kept (hwZ.trans ((below_step hb5 (below_step hb4 (below_step hb3 (below_step hb2 hb1)))).mono hwZ.size))) spx (hpy.kept (hwZ.trans ((below_step hb5 (below_step hb4 (below_step hb3 (below_step hb2 hb1)))).mono hwZ.size))) spy).mono ?_; rintro e w6 ⟨hb6, he6⟩; rw [show PlRd.sgn _ = trnS Xux Xuy Xvx Xvy Xpx Xpy from rfl, ← HS.out] at he6; subst he6; obtain ⟨⟨d0, d1, d2, d3⟩, ⟨e0, e1, e2, e3⟩, ⟨f0, f1, f2, f3⟩⟩ := KZ w6 (below_step hb6 (below_step hb5 (below_step hb4 (below_step hb3 (below_step hb2 hb1))))))) | (go_at_call 22; have g1 := hb4; go_must (refine (sign_bg m4 _ j4 _ _ hg4).mono ?_; rintro e w5 ⟨he5, hb5⟩; rw [← HB.out] at he5; subst he5; obtain ⟨⟨d0, d1, d2, d3⟩, ⟨e0, e1, e2, e3⟩, ⟨f0, f1, f2, f3⟩⟩ := KZ w5 (below_step hb5 (below_step hb4 (below_step hb3 (below_step hb2 hb1)))))) | (go_at_call 23; have g1 := hb3; go_must (refine (less_bg nvy npy _ _ lvy lpy Xvy Xpy _ (bvy.kept (hwZ.trans ((below_step hb3 (below_step hb2 hb1)).mono hwZ.size))) (hpy.kept (hwZ.trans ((below_step hb3 (below_step hb2 hb1)).mono hwZ.size))) (small200 svy) (small200 spy)).mono ?_; rintro e w4 ⟨m4, v4, j4, rfl, hg4, hb4⟩; obtain ⟨a4, d4, hv4⟩ := bg_form hg4; subst hv4)) | (go_at_call 22; have g1 := hb2; go_must (refine (sign_bg m2 _ j2 _ _ hg2).mono ?_; rintro e w3 ⟨he3, hb3⟩; rw [← HA.out] at he3; subst he3; obtain ⟨⟨d0, d1, d2, d3⟩, ⟨e0, e1, e2, e3⟩, ⟨f0, f1, f2, f3⟩⟩ := KZ w3 (below_step hb3 (below_step hb2 hb1)))) | (go_at_call 23; have g1 := hb1; go_must (refine (less_bg nuy npy _ _ luy lpy Xuy Xpy _ (buy.kept (hwZ.trans (hb1.mono hwZ.size))) (hpy.kept (hwZ.trans (hb1.mono hwZ.size))) (small200 suy) (small200 spy)).mono ?_; rintro e w2 ⟨m2, v2, j2, rfl, hg2, hb2⟩; obtain ⟨a2, d2, hv2⟩ := bg_form hg2; subst hv2)) | (go_at_call 47; go_must (refine (on_any nux _ _ lux Xux nuy _ _ luy Xuy nvx _ _ lvx Xvx nvy _ _ lvy Xvy npx _ _ lpx Xpx npy _ _ lpy Xpy _ (bux.kept hwZ) sux (buy.kept hwZ) suy (bvx.kept hwZ) svx (bvy.kept hwZ) svy (hpx.kept hwZ) spx (hpy.kept hwZ) spy).mono ?_; rintro e w1 ⟨hb1, he1⟩; rw [← HO.out] at he1; subst he1; obtain ⟨⟨d0, d1, d2, d3⟩, ⟨e0, e1, e2, e3⟩, ⟨f0, f1, f2, f3⟩⟩ := KZ w1 hb1)))
            go_roundw
            case rel => exact ⟨k + 1, by go_num, by rw [HV.out]; go_num, by omega, hno2.out, below_step (below_step hb6 (below_step hb5 (below_step hb4 (below_step hb3 (below_step hb2 hb1))))) hWZ⟩
            case measure => simp [intOf]; omega
          · have HV : Hid (crsN X n (Xpx, Xpy) (k + 1) = crsN X n (Xpx, Xpy) k) := by
              have h9 : crsN X n (Xpx, Xpy) (k + 1) = crsN X n (Xpx, Xpy) k := by simpa [crsC, qa, qb, qa2, qb2, qs] using HC2.out
              exact h9
            clear HC2
            go_wp2_with (first | (go_at_call 21; go_must (refine (rturn_any nux _ _ lux Xux nuy _ _ luy Xuy nvx _ _ lvx Xvx nvy _ _ lvy Xvy npx _ _ lpx Xpx npy _ _ lpy Xpy _ (bux.kept (hwZ.trans ((below_step hb5 (below_step hb4 (below_step hb3 (below_step hb2 hb1)))).mono hwZ.size))) sux (buy.kept (hwZ.trans ((below_step hb5 (below_step hb4 (below_step hb3 (below_step hb2 hb1)))).mono hwZ.size))) suy (bvx.kept (hwZ.trans ((below_step hb5 (below_step hb4 (below_step hb3 (below_step hb2 hb1)))).mono hwZ.size))) svx (bvy.kept (hwZ.trans ((below_step hb5 (below_step hb4 (below_step hb3 (below_step hb2 hb1)))).mono hwZ.size))) svy (hpx.kept (hwZ.trans ((below_step hb5 (below_step hb4 (below_step hb3 (below_step hb2 hb1)))).mono hwZ.size))) spx (hpy.kept (hwZ.trans ((below_step hb5 (below_step hb4 (below_step hb3 (below_step hb2 hb1)))).mono hwZ.size))) spy).mono ?_; rintro e w6 ⟨hb6, he6⟩; rw [show PlRd.sgn _ = trnS Xux Xuy Xvx Xvy Xpx Xpy from rfl, ← HS.out] at he6; subst he6; obtain ⟨⟨d0, d1, d2, d3⟩, ⟨e0, e1, e2, e3⟩, ⟨f0, f1, f2, f3⟩⟩ := KZ w6 (below_step hb6 (below_step hb5 (below_step hb4 (below_step hb3 (below_step hb2 hb1))))))) | (go_at_call 22; have g1 := hb4; go_must (refine (sign_bg m4 _ j4 _ _ hg4).mono ?_; rintro e w5 ⟨he5, hb5⟩; rw [← HB.out] at he5; subst he5; obtain ⟨⟨d0, d1, d2, d3⟩, ⟨e0, e1, e2, e3⟩, ⟨f0, f1, f2, f3⟩⟩ := KZ w5 (below_step hb5 (below_step hb4 (below_step hb3 (below_step hb2 hb1)))))) | (go_at_call 23; have g1 := hb3; go_must (refine (less_bg nvy npy _ _ lvy lpy Xvy Xpy _ (bvy.kept (hwZ.trans ((below_step hb3 (below_step hb2 hb1)).mono hwZ.size))) (hpy.kept (hwZ.trans ((below_step hb3 (below_step hb2 hb1)).mono hwZ.size))) (small200 svy) (small200 spy)).mono ?_; rintro e w4 ⟨m4, v4, j4, rfl, hg4, hb4⟩; obtain ⟨a4, d4, hv4⟩ := bg_form hg4; subst hv4)) | (go_at_call 22; have g1 := hb2; go_must (refine (sign_bg m2 _ j2 _ _ hg2).mono ?_; rintro e w3 ⟨he3, hb3⟩; rw [← HA.out] at he3; subst he3; obtain ⟨⟨d0, d1, d2, d3⟩, ⟨e0, e1, e2, e3⟩, ⟨f0, f1, f2, f3⟩⟩ := KZ w3 (below_step hb3 (below_step hb2 hb1)))) | (go_at_call 23; have g1 := hb1; go_must (refine (less_bg nuy npy _ _ luy lpy Xuy Xpy _ (buy.kept (hwZ.trans (hb1.mono hwZ.size))) (hpy.kept (hwZ.trans (hb1.mono hwZ.size))) (small200 suy) (small200 spy)).mono ?_; rintro e w2 ⟨m2, v2, j2, rfl, hg2, hb2⟩; obtain ⟨a2, d2, hv2⟩ := bg_form hg2; subst hv2)) | (go_at_call 47; go_must (refine (on_any nux _ _ lux Xux nuy _ _ luy Xuy nvx _ _ lvx Xvx nvy _ _ lvy Xvy npx _ _ lpx Xpx npy _ _ lpy Xpy _ (bux.kept hwZ) sux (buy.kept hwZ) suy (bvx.kept hwZ) svx (bvy.kept hwZ) svy (hpx.kept hwZ) spx (hpy.kept hwZ) spy).mono ?_; rintro e w1 ⟨hb1, he1⟩; rw [← HO.out] at he1; subst he1; obtain ⟨⟨d0, d1, d2, d3⟩, ⟨e0, e1, e2, e3⟩, ⟨f0, f1, f2, f3⟩⟩ := KZ w1 hb1)))
            go_roundw
            case rel => exact ⟨k + 1, by go_num, by rw [HV.out], by omega, hno2.out, below_step (below_step hb6 (below_step hb5 (below_step hb4 (below_step hb3 (below_step hb2 hb1))))) hWZ⟩
            case measure => simp [intOf]; omega
        · have qa2 : a ≤ 0 := by omega
          have qb2 : b ≤ 0 := by omega
          have HV : Hid (crsN X n (Xpx, Xpy) (k + 1) = crsN X n (Xpx, Xpy) k) := by
            have h9 : crsN X n (Xpx, Xpy) (k + 1) = crsN X n (Xpx, Xpy) k := by simpa [crsC, qa, qb] using HC2.out
            exact h9
          clear HC2
          go_wp2_with (first | (go_at_call 22; have g1 := hb4; go_must (refine (sign_bg m4 _ j4 _ _ hg4).mono ?_; rintro e w5 ⟨he5, hb5⟩; rw [← HB.out] at he5; subst he5; obtain ⟨⟨d0, d1, d2, d3⟩, ⟨e0, e1, e2, e3⟩, ⟨f0, f1, f2, f3⟩⟩ := KZ w5 (below_step hb5 (below_step hb4 (below_step hb3 (below_step hb2 hb1)))))) | (go_at_call 23; have g1 := hb3; go_must (refine (less_bg nvy npy _ _ lvy lpy Xvy Xpy _ (bvy.kept (hwZ.trans ((below_step hb3 (below_step hb2 hb1)).mono hwZ.size))) (hpy.kept (hwZ.trans ((below_step hb3 (below_step hb2 hb1)).mono hwZ.size))) (small200 svy) (small200 spy)).mono ?_; rintro e w4 ⟨m4, v4, j4, rfl, hg4, hb4⟩; obtain ⟨a4, d4, hv4⟩ := bg_form hg4; subst hv4)) | (go_at_call 22; have g1 := hb2; go_must (refine (sign_bg m2 _ j2 _ _ hg2).mono ?_; rintro e w3 ⟨he3, hb3⟩; rw [← HA.out] at he3; subst he3; obtain ⟨⟨d0, d1, d2, d3⟩, ⟨e0, e1, e2, e3⟩, ⟨f0, f1, f2, f3⟩⟩ := KZ w3 (below_step hb3 (below_step hb2 hb1)))) | (go_at_call 23; have g1 := hb1; go_must (refine (less_bg nuy npy _ _ luy lpy Xuy Xpy _ (buy.kept (hwZ.trans (hb1.mono hwZ.size))) (hpy.kept (hwZ.trans (hb1.mono hwZ.size))) (small200 suy) (small200 spy)).mono ?_; rintro e w2 ⟨m2, v2, j2, rfl, hg2, hb2⟩; obtain ⟨a2, d2, hv2⟩ := bg_form hg2; subst hv2)) | (go_at_call 47; go_must (refine (on_any nux _ _ lux Xux nuy _ _ luy Xuy nvx _ _ lvx Xvx nvy _ _ lvy Xvy npx _ _ lpx Xpx npy _ _ lpy Xpy _ (bux.kept hwZ) sux (buy.kept hwZ) suy (bvx.kept hwZ) svx (bvy.kept hwZ) svy (hpx.kept hwZ) spx (hpy.kept hwZ) spy).mono ?_; rintro e w1 ⟨hb1, he1⟩; rw [← HO.out] at he1; subst he1; obtain ⟨⟨d0, d1, d2, d3⟩, ⟨e0, e1, e2, e3⟩, ⟨f0, f1, f2, f3⟩⟩ := KZ w1 hb1)))
          go_roundw
          case rel => exact ⟨k + 1, by go_num, by rw [HV.out], by omega, hno2.out, below_step (below_step hb5 (below_step hb4 (below_step hb3 (below_step hb2 hb1)))) hWZ⟩
          case measure => simp [intOf]; omega
      · go_wp2_with (first | (go_at_call 22; have g1 := hb4; go_must (refine (sign_bg m4 _ j4 _ _ hg4).mono ?_; rintro e w5 ⟨he5, hb5⟩; rw [← HB.out] at he5; subst he5; obtain ⟨⟨d0, d1, d2, d3⟩, ⟨e0, e1, e2, e3⟩, ⟨f0, f1, f2, f3⟩⟩ := KZ w5 (below_step hb5 (below_step hb4 (below_step hb3 (below_step hb2 hb1)))))) | (go_at_call 23; have g1 := hb3; go_must (refine (less_bg nvy npy _ _ lvy lpy Xvy Xpy _ (bvy.kept (hwZ.trans ((below_step hb3 (below_step hb2 hb1)).mono hwZ.size))) (hpy.kept (hwZ.trans ((below_step hb3 (below_step hb2 hb1)).mono hwZ.size))) (small200 svy) (small200 spy)).mono ?_; rintro e w4 ⟨m4, v4, j4, rfl, hg4, hb4⟩; obtain ⟨a4, d4, hv4⟩ := bg_form hg4; subst hv4)) | (go_at_call 22; have g1 := hb2; go_must (refine (sign_bg m2 _ j2 _ _ hg2).mono ?_; rintro e w3 ⟨he3, hb3⟩; rw [← HA.out] at he3; subst he3; obtain ⟨⟨d0, d1, d2, d3⟩, ⟨e0, e1, e2, e3⟩, ⟨f0, f1, f2, f3⟩⟩ := KZ w3 (below_step hb3 (below_step hb2 hb1)))) | (go_at_call 23; have g1 := hb1; go_must (refine (less_bg nuy npy _ _ luy lpy Xuy Xpy _ (buy.kept (hwZ.trans (hb1.mono hwZ.size))) (hpy.kept (hwZ.trans (hb1.mono hwZ.size))) (small200 suy) (small200 spy)).mono ?_; rintro e w2 ⟨m2, v2, j2, rfl, hg2, hb2⟩; obtain ⟨a2, d2, hv2⟩ := bg_form hg2; subst hv2)) | (go_at_call 47; go_must (refine (on_any nux _ _ lux Xux nuy _ _ luy Xuy nvx _ _ lvx Xvx nvy _ _ lvy Xvy npx _ _ lpx Xpx npy _ _ lpy Xpy _ (bux.kept hwZ) sux (buy.kept hwZ) suy (bvx.kept hwZ) svx (bvy.kept hwZ) svy (hpx.kept hwZ) spx (hpy.kept hwZ) spy).mono ?_; rintro e w1 ⟨hb1, he1⟩; rw [← HO.out] at he1; subst he1; obtain ⟨⟨d0, d1, d2, d3⟩, ⟨e0, e1, e2, e3⟩, ⟨f0, f1, f2, f3⟩⟩ := KZ w1 hb1)))
        go_ret
        exact ⟨(hwZ.trans (hb1.mono hwZ.size)), by rw [ins_on hlt HE2.out]; rfl⟩
    · have hkn : k = n := by omega
      subst hkn
      have hr := ins_off hno
      by_cases h2 : crsN X k (Xpx, Xpy) k % 2 = 1
      · have h3 : Int.tmod (crsN X k (Xpx, Xpy) k : Int) 2 = 1 := by rw [Int.tmod_eq_emod_of_nonneg (by omega)]; omega
        rw [if_pos h2] at hr
        have HR : Hid (insV X k (Xpx, Xpy) = 1) := hr
        clear h2 hr hno
        go_wp2_with fail
        go_ret
        exact ⟨hw.trans (hbel.mono hw.size), by rw [HR.out]; rfl⟩
      · have h3 : Int.tmod (crsN X k (Xpx, Xpy) k : Int) 2 = 0 := by rw [Int.tmod_eq_emod_of_nonneg (by omega)]; omega
        rw [if_neg h2] at hr
        have HR : Hid (insV X k (Xpx, Xpy) = -1) := hr
        clear h2 hr hno
        go_wp2_with fail
        go_ret
        exact ⟨hw.trans (hbel.mono hw.size), by rw [HR.out]; rfl⟩

set_option maxHeartbeats 1000000 in
/-- Of no points: outside. -/
theorem rinside_nil (c : Nat) (a b : Bool) (u v : Value) (w : World) :
    Calls Tryz.prog 30 #[.slice none 0 c, .agg #[.bool a, u, .bool b, v]] w fun e w' => Below w.heap.size w w' ∧ e = .returned (.int .i64 (-1)) := by
  go_enter Tryz.func30, Tryz.ntmps30
  go_wp2
  go_loopw [5, 6] (fun sn si wr => sn = .int .i64 0 ∧ si = .int .i64 0 ∧ Below w.heap.size w wr) (fun _ _ _ => 0)
  case atStart => exact ⟨rfl, rfl, (Below.refl _ w).alloc (Nat.le_refl _) _⟩
  case round =>
    obtain ⟨rfl, rfl, hbel⟩ := hrel
    go_wp2
    go_ret
    exact ⟨hbel, rfl⟩

end Go.Proofs.YtbjjkfmdkmbcfaaGreat
