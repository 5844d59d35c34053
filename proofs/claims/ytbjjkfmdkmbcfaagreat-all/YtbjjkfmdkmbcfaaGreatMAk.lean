import Derived.Test.YtbjjkfmdkmbcfaaGreatMAd
import Derived.Deep.DeepCutAuto
import Derived.Deep.CutBlock
import Derived.Deep.LoopGhost
import Derived.Test.YtbjjkfmdkmbcfaaGreatMLl
namespace Go.Proofs.YtbjjkfmdkmbcfaaGreat
open Go.RowKit
open PlLv

attribute [local go_sem ↓] Go.wp_at_zero Go.wp_at_succ

set_option maxHeartbeats 8000000 in
set_option maxRecDepth 100000 in
theorem rhull_walk (g n c : Nat) (f : Nat → PB) (X : Nat → Int × Int) (w : World) (hn0 : 0 < n) (hn : n ≤ 100000) (hg : g < w.heap.size) (H : ∀ i, i < n → PtAt w g i (f i) (X i)) :
    Calls Tryz.prog 32 #[.slice (some ⟨g, 0, none⟩) n c] w fun e w' => ∃ u, e = .returned u ∧ CW w' w.heap.size u (hullR X n) ∧ Below w.heap.size w w' := by
  obtain ⟨i0, hi, hz0, hz1, hz2⟩ := info_parts infoI3
  have HH : Hid (∀ i, i < n → PtAt w g i (f i) (X i)) := H
  have HR : Hid (hullR X n = hullW X n (firstN X n) n [firstN X n] (bestN X (X (firstN X n)) n)) := by
    unfold Hid hullR
    rw [if_neg (by omega)]
  generalize hullR X n = R at *
  clear H
  have hnb : ((n : Int) == 0) = false := by simp; omega
  go_enter Tryz.func32, Tryz.ntmps32
  go_upto_block 0 with fail
  go_cut [3] (fun s3 wc => s3 = .int .i64 (firstN X n : Nat) ∧ Below w.heap.size w wc)
  case first =>
    clear HR hnb
    go_wp2_with fail
    go_loopg [3, 4] (n - 1) (fun gg s3 s4 wr => ∃ k : Nat, k + gg = n ∧ 1 ≤ k ∧ s4 = .int .i64 k ∧ s3 = .int .i64 (firstN X k : Nat) ∧ Below w.heap.size w wr)
    case atStart => exact ⟨1, by omega, by omega, rfl, by rw [first_one]; rfl, Below.refl _ _⟩
    case round =>
    obtain ⟨k, hkg, hk1, rfl, rfl, hbC⟩ := hrel
    by_cases hlt : k < n
    · obtain ⟨f0, hf0⟩ : ∃ f0, f0 = firstN X k := ⟨_, rfl⟩
      have hfk : f0 < k := by rw [hf0]; exact first_lt X k hk1
      obtain ⟨x, hx⟩ : ∃ x, x = X k := ⟨_, rfl⟩
      obtain ⟨y, hy⟩ : ∃ y, y = X f0 := ⟨_, rfl⟩
      obtain ⟨⟨nkx, vkx, lkx, nky, vky, lky⟩, hu⟩ : ∃ q, PtAt w g k q x := ⟨_, hx ▸ HH.out k hlt⟩
      have HPk : Hid (PbX w ⟨nkx, vkx, lkx, nky, vky, lky⟩ x) := hu.px
      have HCk : Hid (∀ w', Below w.heap.size w w' → (w'.cell? ⟨g, k * 4, none⟩ = some (.bool nkx) ∧ w'.cell? ⟨g, k * 4 + 1, none⟩ = some vkx ∧ w'.cell? ⟨g, k * 4 + 2, none⟩ = some (.bool nky) ∧ w'.cell? ⟨g, k * 4 + 3, none⟩ = some vky)) := fun w' hb => by
        have hc : ∀ j, w'.cell? ⟨g, j, none⟩ = w.cell? ⟨g, j, none⟩ := fun j => hb.cell (p := ⟨g, j, none⟩) hg
        rw [hc, hc, hc, hc]
        exact hu.1
      clear hu
      obtain ⟨⟨nfx, vfx, lfx, nfy, vfy, lfy⟩, hu⟩ : ∃ q, PtAt w g f0 q y := ⟨_, hy ▸ HH.out f0 (by omega)⟩
      have HPf : Hid (PbX w ⟨nfx, vfx, lfx, nfy, vfy, lfy⟩ y) := hu.px
      have HCf : Hid (∀ w', Below w.heap.size w w' → (w'.cell? ⟨g, f0 * 4, none⟩ = some (.bool nfx) ∧ w'.cell? ⟨g, f0 * 4 + 1, none⟩ = some vfx ∧ w'.cell? ⟨g, f0 * 4 + 2, none⟩ = some (.bool nfy) ∧ w'.cell? ⟨g, f0 * 4 + 3, none⟩ = some vfy)) := fun w' hb => by
        have hc : ∀ j, w'.cell? ⟨g, j, none⟩ = w.cell? ⟨g, j, none⟩ := fun j => hb.cell (p := ⟨g, j, none⟩) hg
        rw [hc, hc, hc, hc]
        exact hu.1
      clear hu
      obtain ⟨s, hs⟩ : ∃ s, s = PlRd.sgn (x.1 - y.1) := ⟨_, rfl⟩
      obtain ⟨t, ht⟩ : ∃ t, t = PlRd.sgn (x.2 - y.2) := ⟨_, rfl⟩
      have HV : Hid (firstN X (k + 1) = if s < 0 ∨ (s = 0 ∧ t < 0) then k else f0) := by
        unfold Hid
        rw [firstN, ← hf0, ← hx, ← hy]
        have e : (x.1 < y.1 ∨ (x.1 = y.1 ∧ x.2 < y.2)) ↔ (s < 0 ∨ (s = 0 ∧ t < 0)) := by
          rw [hs, ht]
          unfold PlRd.sgn
          constructor
          · intro h
            (repeat split) <;> omega
          · intro h
            revert h
            (repeat split) <;> omega
        by_cases q : x.1 < y.1 ∨ (x.1 = y.1 ∧ x.2 < y.2)
        · rw [if_pos q, if_pos (e.1 q)]
        · rw [if_neg q, if_neg (fun h => q (e.2 h))]
      have Hs : Hid (s = PlRd.sgn (x.1 - y.1)) := hs
      have Ht : Hid (t = PlRd.sgn (x.2 - y.2)) := ht
      rw [← hf0]
      clear hf0 hx hy hs ht
      have KS : ∀ w', Below w.heap.size w w' → (w'.cell? ⟨g, k * 4, none⟩ = some (.bool nkx) ∧ w'.cell? ⟨g, k * 4 + 1, none⟩ = some vkx ∧ w'.cell? ⟨g, k * 4 + 2, none⟩ = some (.bool nky) ∧ w'.cell? ⟨g, k * 4 + 3, none⟩ = some vky) ∧ (w'.cell? ⟨g, f0 * 4, none⟩ = some (.bool nfx) ∧ w'.cell? ⟨g, f0 * 4 + 1, none⟩ = some vfx ∧ w'.cell? ⟨g, f0 * 4 + 2, none⟩ = some (.bool nfy) ∧ w'.cell? ⟨g, f0 * 4 + 3, none⟩ = some vfy) := fun w' hb => ⟨HCk.out w' hb, HCf.out w' hb⟩
      have hW9 := hbC
      have hS := KS _ hbC
      have hsz := hbC.size
      have hgr : g < wr.heap.size := by omega
      have hik : (k : Int) < (n : Int) := by omega
      have hif : (f0 : Int) < (n : Int) := by omega
      go_upto_region 7 with fail
      go_cut [5] (fun sz wz => sz = .int .i64 s ∧ Below w.heap.size w wz)
      case first =>
        go_region_held3 (fun w' : World => (w'.cell? ⟨g, k * 4, none⟩ = some (.bool nkx) ∧ w'.cell? ⟨g, k * 4 + 1, none⟩ = some vkx ∧ w'.cell? ⟨g, k * 4 + 2, none⟩ = some (.bool nky) ∧ w'.cell? ⟨g, k * 4 + 3, none⟩ = some vky) ∧ (w'.cell? ⟨g, f0 * 4, none⟩ = some (.bool nfx) ∧ w'.cell? ⟨g, f0 * 4 + 1, none⟩ = some vfx ∧ w'.cell? ⟨g, f0 * 4 + 2, none⟩ = some (.bool nfy) ∧ w'.cell? ⟨g, f0 * 4 + 3, none⟩ = some vfy)) (exact KS _ (by repeat (with_reducible first | refine below_alloc _ ?_ | refine Below.drew ?_ | exact hW9 | exact Below.refl _ _))) (first | (go_at_call 22; go_must (refine (sign_bg m3 _ k3 _ _ hg3).mono ?_; rintro e w4 ⟨he4, hb4⟩; rw [← Hs.out] at he4; subst he4; have hW9 : Below w.heap.size w w4 := hW9.trans (hb4.mono hW9.size))) | (go_at_call 23; go_must (refine (less_bg nkx nfx _ _ lkx lfx _ _ _ (HPk.out.bx.kept (by repeat (with_reducible first | refine below_alloc _ ?_ | refine Below.drew ?_ | exact hW9 | exact Below.refl _ _))) (HPf.out.bx.kept (by repeat (with_reducible first | refine below_alloc _ ?_ | refine Below.drew ?_ | exact hW9 | exact Below.refl _ _))) (small200 HPk.out.sx) (small200 HPf.out.sx)).mono ?_; rintro e w3 ⟨m3, v3, k3, rfl, hg3, hb3⟩; have hW9 : Below w.heap.size w w3 := hbC.trans ((below_step hb3 (by repeat (with_reducible first | refine Below.drew ?_ | exact Below.refl _ _))).mono hbC.size))))
        all_goals
          go_wp2
          go_meet
          exact ⟨rfl, hW9⟩
      case rest =>
      obtain ⟨rfl, hbz⟩ := hcut
      clear hS hW9 hgr hsz hbC
      have hbC := hbz
      clear hbz
      have hW9 := hbC
      have hS := KS _ hbC
      have hsz := hbC.size
      have hgr : g < wc.heap.size := by omega
      go_upto_region 8 with fail
      go_cut [6] (fun sz wz => sz = .int .i64 t ∧ Below w.heap.size w wz)
      case first =>
        go_region_held3 (fun w' : World => (w'.cell? ⟨g, k * 4, none⟩ = some (.bool nkx) ∧ w'.cell? ⟨g, k * 4 + 1, none⟩ = some vkx ∧ w'.cell? ⟨g, k * 4 + 2, none⟩ = some (.bool nky) ∧ w'.cell? ⟨g, k * 4 + 3, none⟩ = some vky) ∧ (w'.cell? ⟨g, f0 * 4, none⟩ = some (.bool nfx) ∧ w'.cell? ⟨g, f0 * 4 + 1, none⟩ = some vfx ∧ w'.cell? ⟨g, f0 * 4 + 2, none⟩ = some (.bool nfy) ∧ w'.cell? ⟨g, f0 * 4 + 3, none⟩ = some vfy)) (exact KS _ (by repeat (with_reducible first | refine below_alloc _ ?_ | refine Below.drew ?_ | exact hW9 | exact Below.refl _ _))) (first | (go_at_call 22; go_must (refine (sign_bg m3 _ k3 _ _ hg3).mono ?_; rintro e w4 ⟨he4, hb4⟩; rw [← Ht.out] at he4; subst he4; have hW9 : Below w.heap.size w w4 := hW9.trans (hb4.mono hW9.size))) | (go_at_call 23; go_must (refine (less_bg nky nfy _ _ lky lfy _ _ _ (HPk.out.bY.kept (by repeat (with_reducible first | refine below_alloc _ ?_ | refine Below.drew ?_ | exact hW9 | exact Below.refl _ _))) (HPf.out.bY.kept (by repeat (with_reducible first | refine below_alloc _ ?_ | refine Below.drew ?_ | exact hW9 | exact Below.refl _ _))) (small200 HPk.out.sy) (small200 HPf.out.sy)).mono ?_; rintro e w3 ⟨m3, v3, k3, rfl, hg3, hb3⟩; have hW9 : Below w.heap.size w w3 := hbC.trans ((below_step hb3 (by repeat (with_reducible first | refine Below.drew ?_ | exact Below.refl _ _))).mono hbC.size))))
        all_goals
          go_wp2
          go_meet
          exact ⟨rfl, hW9⟩
      case rest =>
      obtain ⟨rfl, hbz⟩ := hcut
      clear hS hW9 hgr hsz hbC
      have hbC := hbz
      clear hbz
      have hW9 := hbC
      have hS := KS _ hbC
      have hsz := hbC.size
      have hgr : g < wc.heap.size := by omega
      clear hS hW9 hgr hsz KS Hs Ht
      by_cases t1 : s < 0
      · go_wp2_with fail
        go_roundg (n - (k + 1))
        case measure => omega
        case rel => exact ⟨k + 1, by omega, by omega, by go_num, by rw [HV.out, if_pos (.inl t1)], hbC⟩
      · by_cases t2 : s = 0
        · have t4 : (s == 0) = true := by simp [t2]
          by_cases t3 : t < 0
          · go_wp2_with fail
            go_roundg (n - (k + 1))
            case measure => omega
            case rel => exact ⟨k + 1, by omega, by omega, by go_num, by rw [HV.out, if_pos (.inr ⟨t2, t3⟩)], hbC⟩
          · go_wp2_with fail
            go_roundg (n - (k + 1))
            case measure => omega
            case rel => exact ⟨k + 1, by omega, by omega, by go_num, by rw [HV.out, if_neg (by omega)], hbC⟩
        · have t4 : (s == 0) = false := by simp [t2]
          go_wp2_with fail
          go_roundg (n - (k + 1))
          case measure => omega
          case rel => exact ⟨k + 1, by omega, by omega, by go_num, by rw [HV.out, if_neg (by omega)], hbC⟩
    · have hkn : k = n := by omega
      subst hkn
      go_wp2
      go_meet
      exact ⟨rfl, hbC⟩
  case rest =>
  obtain ⟨rfl, hbF⟩ := hcut
  obtain ⟨F, hF⟩ : ∃ F, F = firstN X n := ⟨_, rfl⟩
  have hFn : F < n := by rw [hF]; exact first_lt X n hn0
  rw [← hF] at HR ⊢
  clear hF hnb
  obtain ⟨W, hW⟩ : ∃ z, z = wc := ⟨_, rfl⟩
  subst hW
  have hsz := hbF.size
  have HN : Hid (∀ a, a < n → ∀ U, Below w.heap.size w U → Calls Tryz.prog 50 #[.slice (some ⟨g, 0, none⟩) n c, .int .i64 a] U fun e w' => e = .returned (.int .i64 (bestZ (bestN X (X a) n))) ∧ Below U.heap.size U w') := fun a ha U hU => next_walk g n c a f X U hn ha (by have := hU.size; omega) fun i hi => (HH.out i hi).kept hg hU
  go_upto_block 1 with (go_at_call 50; go_must (refine (HN.out F hFn _ (below_alloc _ hbF)).mono ?_; rintro e w1 ⟨rfl, hb1⟩))
  have hC1 : CW w1 w.heap.size (.slice (some ⟨W.heap.size, 0, none⟩) 1 1) [F] := row_below (cw_one W F hsz) hb1
  have hB1 : Below w.heap.size w w1 := (below_alloc _ hbF).trans (hb1.mono (by simp; omega))
  obtain ⟨b0, hb0⟩ : ∃ b0, b0 = bestN X (X F) n := ⟨_, rfl⟩
  have hbn : ∀ a, b0 = some a → a < n := fun a ha => best_lt X (X F) n a (by rw [← hb0]; exact ha)
  rw [← hb0] at HR ⊢
  clear hb0 hb1 hsz hbF
  go_wp2_with fail
  go_loopg [7, 8, 9] n (fun gg s7 s8 s9 wr => ∃ (k : Nat) (out : List Nat) (at' : Option Nat), k + gg = n ∧ s9 = .int .i64 k ∧ s8 = .int .i64 (bestZ at') ∧ CW wr w.heap.size s7 out ∧ out.length = k + 1 ∧ (∀ a, at' = some a → a < n) ∧ hullW X n F gg out at' = R ∧ Below w.heap.size w wr)
  case atStart => exact ⟨0, [F], b0, Nat.zero_add _, rfl, rfl, hC1, rfl, hbn, HR.out.symm, hB1⟩
  case round =>
    clear hC1 hB1 hbn HR
    obtain ⟨k, out, at', hkg, rfl, rfl, hC, hol, han, hw, hbC⟩ := hrel
    obtain ⟨o7, c7, h7⟩ := row_form hC
    rw [hol] at h7
    subst h7
    by_cases hlt : k < n
    · cases at' with
      | none =>
        obtain ⟨g', rfl⟩ : ∃ g', gk = g' + 1 := ⟨gk - 1, by omega⟩
        rw [hullW] at hw
        subst hw
        rw [show bestZ none = -1 from rfl]
        go_wp2
        go_ret
        exact ⟨_, rfl, hC, hbC⟩
      | some a =>
        have haN := han a rfl
        obtain ⟨x, hx⟩ : ∃ x, x = X a := ⟨_, rfl⟩
        obtain ⟨y, hy⟩ : ∃ y, y = X F := ⟨_, rfl⟩
        obtain ⟨⟨nax, vax, lax, nay, vay, lay⟩, hu⟩ : ∃ q, PtAt w g a q x := ⟨_, hx ▸ HH.out a haN⟩
        have HPa : Hid (PbX w ⟨nax, vax, lax, nay, vay, lay⟩ x) := hu.px
        have HCa : Hid (∀ w', Below w.heap.size w w' → (w'.cell? ⟨g, a * 4, none⟩ = some (.bool nax) ∧ w'.cell? ⟨g, a * 4 + 1, none⟩ = some vax ∧ w'.cell? ⟨g, a * 4 + 2, none⟩ = some (.bool nay) ∧ w'.cell? ⟨g, a * 4 + 3, none⟩ = some vay)) := fun w' hb => by
          have hc : ∀ j, w'.cell? ⟨g, j, none⟩ = w.cell? ⟨g, j, none⟩ := fun j => hb.cell (p := ⟨g, j, none⟩) hg
          rw [hc, hc, hc, hc]
          exact hu.1
        clear hu
        obtain ⟨⟨nfx, vfx, lfx, nfy, vfy, lfy⟩, hu⟩ : ∃ q, PtAt w g F q y := ⟨_, hy ▸ HH.out F hFn⟩
        have HPf : Hid (PbX w ⟨nfx, vfx, lfx, nfy, vfy, lfy⟩ y) := hu.px
        have HCf : Hid (∀ w', Below w.heap.size w w' → (w'.cell? ⟨g, F * 4, none⟩ = some (.bool nfx) ∧ w'.cell? ⟨g, F * 4 + 1, none⟩ = some vfx ∧ w'.cell? ⟨g, F * 4 + 2, none⟩ = some (.bool nfy) ∧ w'.cell? ⟨g, F * 4 + 3, none⟩ = some vfy)) := fun w' hb => by
          have hc : ∀ j, w'.cell? ⟨g, j, none⟩ = w.cell? ⟨g, j, none⟩ := fun j => hb.cell (p := ⟨g, j, none⟩) hg
          rw [hc, hc, hc, hc]
          exact hu.1
        clear hu
        obtain ⟨g', rfl⟩ : ∃ g', gk = g' + 1 := ⟨gk - 1, by omega⟩
        have HX : Hid (x = X a) := hx
        have HW : Hid (R = if x = y then out else hullW X n F g' (out ++ [a]) (bestN X (X a) n)) := by
          unfold Hid
          rw [← hw, hullW, ← hx, ← hy]
        have HSA : Hid (∀ U, Below w.heap.size w U → Calls Tryz.prog 51 #[.agg #[.bool nax, vax, .bool nay, vay], .agg #[.bool nfx, vfx, .bool nfy, vfy]] U fun e w' => e = .returned (.bool (decide (x = y))) ∧ Below U.heap.size U w') := fun U hU => same_px (a := ⟨nax, vax, lax, nay, vay, lay⟩) (b := ⟨nfx, vfx, lfx, nfy, vfy, lfy⟩) (HPa.out.kept hU) (HPf.out.kept hU)
        have KS : ∀ w', Below w.heap.size w w' → (w'.cell? ⟨g, a * 4, none⟩ = some (.bool nax) ∧ w'.cell? ⟨g, a * 4 + 1, none⟩ = some vax ∧ w'.cell? ⟨g, a * 4 + 2, none⟩ = some (.bool nay) ∧ w'.cell? ⟨g, a * 4 + 3, none⟩ = some vay) ∧ (w'.cell? ⟨g, F * 4, none⟩ = some (.bool nfx) ∧ w'.cell? ⟨g, F * 4 + 1, none⟩ = some vfx ∧ w'.cell? ⟨g, F * 4 + 2, none⟩ = some (.bool nfy) ∧ w'.cell? ⟨g, F * 4 + 3, none⟩ = some vfy) := fun w' hb => ⟨HCa.out w' hb, HCf.out w' hb⟩
        have HC7 : Hid (CW wr w.heap.size (.slice o7 (k + 1) c7) out) := hC
        have HOL : Hid (out.length = k + 1) := hol
        clear hx hy hw hC hol han
        have hW9 := hbC
        have hS := KS _ hbC
        have hsz := hbC.size
        have hgr : g < wr.heap.size := by omega
        have hik : (k : Int) < (n : Int) := by omega
        have hia : (a : Int) < (n : Int) := by omega
        have hia0 : ¬ (a : Int) < 0 := by omega
        have hif : (F : Int) < (n : Int) := by omega
        rw [show bestZ (some a) = (a : Int) from rfl]
        go_upto_region 16 with fail
        go_cut [10] (fun sz wz => sz = .bool (decide (x = y)) ∧ Below w.heap.size w wz ∧ Below wr.heap.size wr wz)
        case first =>
          go_region_held3 (fun w' : World => (w'.cell? ⟨g, a * 4, none⟩ = some (.bool nax) ∧ w'.cell? ⟨g, a * 4 + 1, none⟩ = some vax ∧ w'.cell? ⟨g, a * 4 + 2, none⟩ = some (.bool nay) ∧ w'.cell? ⟨g, a * 4 + 3, none⟩ = some vay) ∧ (w'.cell? ⟨g, F * 4, none⟩ = some (.bool nfx) ∧ w'.cell? ⟨g, F * 4 + 1, none⟩ = some vfx ∧ w'.cell? ⟨g, F * 4 + 2, none⟩ = some (.bool nfy) ∧ w'.cell? ⟨g, F * 4 + 3, none⟩ = some vfy)) (exact KS _ (by repeat (with_reducible first | refine below_alloc _ ?_ | refine Below.drew ?_ | exact hW9 | exact Below.refl _ _))) (first | (go_at_call 51; go_must (refine (HSA.out _ (by repeat (with_reducible first | refine below_alloc _ ?_ | refine Below.drew ?_ | exact hW9 | exact Below.refl _ _))).mono ?_; rintro e wk ⟨rfl, hbk⟩; have hW8 : Below wr.heap.size wr wk := below_step hbk (by repeat (with_reducible first | refine Below.drew ?_ | exact Below.refl _ _)); have hW9 : Below w.heap.size w wk := hbC.trans (hW8.mono hbC.size))))
          all_goals
            go_wp2
            go_meet
            exact ⟨rfl, hW9, hW8⟩
        case rest =>
        obtain ⟨rfl, hbz, hbr⟩ := hcut
        have HC8 : Hid (CW wc w.heap.size (.slice o7 (k + 1) c7) out) := row_below HC7.out hbr
        clear hS hW9 hgr hbC HC7 KS HSA hbr hsz
        by_cases hxy : x = y
        · have hd : decide (x = y) = true := decide_eq_true hxy
          rw [hd]
          have e : R = out := by rw [HW.out, if_pos hxy]
          subst e
          clear hd
          go_wp2
          go_ret
          exact ⟨_, rfl, HC8.out, hbz⟩
        · have hd : decide (x = y) = false := decide_eq_false hxy
          rw [hd]
          have HW2 : Hid (hullW X n F g' (out ++ [a]) (bestN X (X a) n) = R) := by
            unfold Hid
            rw [HW.out, if_neg hxy]
          have hsz := hbz.size
          clear hd HW
          go_wp2_with (first | (at_builtin; go_must (refine wpList_append_own _ rfl _ _ 41 rfl w.heap.size 3 i0 _ 1 8 Tryz.underlying41 hi hz0 hz1 hz2 rfl (by decide) _ (k + 1) (out.map nV) rfl (cw_len HOL.out (row_below HC8.out (below_one _ _))) ⟨_, 0, none⟩ 1 1 [nV a] rfl rfl (cell_one_new _ _ _) (by intro u hu; simp at hu; subst hu; rfl) (by unfold maxLen; omega) (by omega) (by simp; omega) ?_; intro v2 w2 h1 h2 _; have hb2 : Below w.heap.size w w2 := cw_below hbz (row_below HC8.out (below_one _ _)) h2; obtain ⟨o8, c8, h8⟩ := row_form h1; subst h8)) | (go_at_call 50; go_must (refine (HN.out a haN _ hb2).mono ?_; rintro e w3 ⟨rfl, hb3⟩)))
          have hC3 : CW w3 w.heap.size (.slice o8 (k + 1 + 1) c8) (out ++ [a]) := by
            refine row_below (cw_push HOL.out h1) hb3
          have hB3 : Below w.heap.size w w3 := hb2.trans (hb3.mono hb2.size)
          go_roundg g'
          case measure => omega
          case rel => exact ⟨k + 1, out ++ [a], bestN X (X a) n, by omega, by go_num, rfl, hC3, by have := HOL.out; simp; omega, fun b hb => best_lt X (X a) n b hb, HW2.out, hB3⟩
    · have hg0 : gk = 0 := by omega
      subst hg0
      rw [hullW] at hw
      subst hw
      have hnk : k = n := by omega
      subst hnk
      go_wp2
      go_ret
      exact ⟨_, rfl, hC, hbC⟩

end Go.Proofs.YtbjjkfmdkmbcfaaGreat

namespace Go.Proofs.YtbjjkfmdkmbcfaaGreat
open Go.RowKit
open PlLv

attribute [local go_sem ↓] Go.wp_at_zero Go.wp_at_succ

theorem grown_of_below {w w' : World} {r : Option Nat} (h : Below w.heap.size w w') : w.grownBy w' r := ⟨h.os, h.tape, h.output, h.size, fun k hk _ => h.block k hk⟩

theorem grown_drew {w w' : World} {r : Option Nat} (h : w.grownBy w' r) : w.grownBy w'.drew r := ⟨h.os, h.tape, h.output, h.size, h.block⟩

theorem below_of_grown {w w' : World} {A : Nat} (h : w.grownBy w' (some A)) (hA : A ≤ w.heap.size) : Below A w w' := ⟨h.os, h.tape, h.output, h.size, fun k hk => h.block k (by omega) (by simp; omega)⟩

set_option maxHeartbeats 8000000 in
set_option maxRecDepth 100000 in
theorem whole_g (A n : Nat) (v : Value) (ps : List (Nat × Nat)) (w : World) (hA : w.heap[A]? = some (.cells (ptCells (ps ++ tail3)).toArray 24 (0, 0))) (hv : SrcAt w v n ps) (hn : ps.length = n) (hnb : n ≤ 8796093021952) :
    Calls Tryz.prog 29 #[.slice (some ⟨A, 0, none⟩) (n + 3 : Nat) (n + 3 : Nat), v] w fun e w' => e = .returned (.bool true) ∧ w.grownBy w' (some A) := by
  have hAl : A < w.heap.size := lt_of_row hA
  have hql : (ps ++ tail3).length = n + 3 := by simp [tail3, hn]
  obtain ⟨qs, hqs⟩ : ∃ qs, qs = ps ++ tail3 := ⟨_, rfl⟩
  have HL : Hid (Calls Tryz.prog 27 #[v] w fun e w' => e = .returned (.slice (some ⟨w.heap.size, 0, none⟩) (n + 3 : Nat) (n + 3 : Nat)) ∧ w'.heap[w.heap.size]? = some (.cells (ptCells qs).toArray 24 (0, 0)) ∧ Below w.heap.size w w') := by rw [hqs]; exact lent_any v n ps w hv hn hnb
  obtain ⟨sp, sc, hvf⟩ := hv.form
  subst hvf
  rw [← hqs] at hA hql
  clear hv hqs
  have HA : Hid (w.heap[A]? = some (.cells (ptCells qs).toArray 24 (0, 0))) := hA
  clear hA
  go_enter Tryz.func29, Tryz.ntmps29
  go_wp2_with (go_at_call 27; go_must (refine HL.out.mono ?_; rintro e w1 ⟨rfl, hH, hb1⟩))
  have RH : Hid (w1.heap[w.heap.size]? = some (.cells (ptCells qs).toArray 24 (0, 0))) := hH
  have RA : WRow w1 A qs 0 := row_of_full (by rw [hb1.block _ hAl]; exact HA.out) 0
  have hlt1 : w.heap.size < w1.heap.size := lt_of_row hH
  clear hH
  go_loopw [6, 7] (fun so si wr => ∃ k : Nat, si = .int .i64 k ∧ so = .bool true ∧ k ≤ n + 3 ∧ WRow wr A qs k ∧ Hid (wr.heap[w.heap.size]? = some (.cells (ptCells qs).toArray 24 (0, 0))) ∧ w.grownBy wr (some A)) (fun _ si _ => n + 3 - (intOf si).toNat)
  case atStart => exact ⟨0, rfl, rfl, Nat.zero_le _, RA, RH, grown_of_below hb1⟩
  case round =>
    obtain ⟨k, rfl, rfl, hk, R, RHr, hbel⟩ := hrel
    clear RA RH
    by_cases hlt : k < n + 3
    · obtain ⟨x, y, hxy⟩ : ∃ x y, (x, y) = qs.getD k (0, 0) := ⟨_, _, rfl⟩
      have hca := R.cells (by omega)
      have hch := (row_of_full RHr.out k).cells (by omega)
      rw [← hxy] at hca hch
      simp only at hca hch
      obtain ⟨ca, fa0, fa1⟩ := hca
      obtain ⟨ch, _, _⟩ := hch
      have hne : w.heap.size ≠ A := by omega
      have R2 := R.put (x := .int .u64 99) (y := .int .u64 0)
      have RH2 : Hid (((wr.setCell ⟨A, k * 2, none⟩ (.int .u64 99)).setCell ⟨A, k * 2 + 1, none⟩ (.int .u64 0)).heap[w.heap.size]? = some (.cells (ptCells qs).toArray 24 (0, 0))) := by
        unfold Hid
        rw [Below.heap_setCell _ ⟨A, k * 2 + 1, none⟩ _ _ hne, Below.heap_setCell _ ⟨A, k * 2, none⟩ _ _ hne]
        exact RHr.out
      have hb2 : w.grownBy ((wr.setCell ⟨A, k * 2, none⟩ (.int .u64 99)).setCell ⟨A, k * 2 + 1, none⟩ (.int .u64 0)) (some A) := grown_set (grown_set hbel)
      clear R RHr hxy
      go_wp2_with fail
      go_region_held3 (fun w' : World => (w'.cell? ⟨A, k * 2, none⟩ = some (.int .u64 x) ∧ w'.cell? ⟨A, k * 2 + 1, none⟩ = some (.int .u64 y)) ∧ (w'.cell? ⟨w.heap.size, k * 2, none⟩ = some (.int .u64 x) ∧ w'.cell? ⟨w.heap.size, k * 2 + 1, none⟩ = some (.int .u64 y))) (exact ⟨ca, ch⟩) (fail)
      all_goals
        go_wp2
        go_roundw
        case rel => exact ⟨k + 1, by go_num, rfl, by omega, R2, RH2, grown_drew hb2⟩
        case measure => simp [intOf]; omega
    · have hkn : k = n + 3 := by omega
      subst hkn
      clear R RHr
      go_wp2
      go_ret
      exact ⟨rfl, hbel⟩

end Go.Proofs.YtbjjkfmdkmbcfaaGreat
