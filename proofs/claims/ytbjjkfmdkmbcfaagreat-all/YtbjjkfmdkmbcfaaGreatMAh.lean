import Derived.Test.YtbjjkfmdkmbcfaaGreatMAa
import Derived.Deep.DeepCutAuto
import Derived.Deep.CutBlock
import Derived.Laws.AppendOwn
import Derived.Tactics
import Derived.Below
namespace Go.Proofs.YtbjjkfmdkmbcfaaGreat
open Go.RowKit
open PlLv

attribute [local go_sem ↓] Go.wp_at_zero Go.wp_at_succ

def bestS (X : Nat → Int × Int) (A x : Int × Int) (k : Nat) : Option Nat → Option Nat
  | none => if x = A then none else some k
  | some b => if x = A then some b else if HL.cr A (X b) x < 0 ∨ (HL.cr A (X b) x = 0 ∧ HL.d2 A (X b) < HL.d2 A x) then some k else some b

/-- Which of the first k is taken to be next, by the reference. -/
def bestN (X : Nat → Int × Int) (a : Int × Int) : Nat → Option Nat
  | 0 => none
  | k + 1 => bestS X a (X k) k (bestN X a k)

def bestZ : Option Nat → Int
  | none => -1
  | some b => b

theorem best_lt (X : Nat → Int × Int) (a : Int × Int) : ∀ k b, bestN X a k = some b → b < k := by
  intro k
  induction k with
  | zero => intro b h; cases h
  | succ k ih =>
    intro b h
    rw [bestN] at h
    cases hk : bestN X a k with
    | none =>
      rw [hk, bestS] at h
      split at h
      · cases h
      · cases h; omega
    | some b' =>
      rw [hk, bestS] at h
      have := ih b' hk
      split at h
      · cases h; omega
      · split at h
        · cases h; omega
        · cases h; omega

theorem best_succ {X : Nat → Int × Int} {A x : Int × Int} {k : Nat} {bs : Option Nat} (hx : x = X k) (hb : bs = bestN X A k) : bestN X A (k + 1) = bestS X A x k bs := by
  subst hx hb
  rw [bestN]

theorem hid_of {p : Prop} (h : p) : Hid p := h

set_option maxHeartbeats 8000000 in
set_option maxRecDepth 100000 in
theorem next_walk (g n c at' : Nat) (f : Nat → PB) (X : Nat → Int × Int) (w : World) (hn : n ≤ 100000) (hat : at' < n) (hg : g < w.heap.size) (H : ∀ i, i < n → PtAt w g i (f i) (X i)) :
    Calls Tryz.prog 50 #[.slice (some ⟨g, 0, none⟩) n c, .int .i64 at'] w fun e w' => e = .returned (.int .i64 (bestZ (bestN X (X at') n))) ∧ Below w.heap.size w w' := by
  have HH : Hid (∀ i, i < n → PtAt w g i (f i) (X i)) := H
  obtain ⟨A, hA⟩ : ∃ A, A = X at' := ⟨_, rfl⟩
  rw [← hA]
  obtain ⟨⟨nax, vax, lax, nay, vay, lay⟩, ha⟩ : ∃ q, PtAt w g at' q A := ⟨_, hA ▸ H at' hat⟩
  have HPA : Hid (PbX w ⟨nax, vax, lax, nay, vay, lay⟩ A) := ha.px
  have HCA : Hid (∀ w', Below w.heap.size w w' → (w'.cell? ⟨g, at' * 4, none⟩ = some (.bool nax) ∧ w'.cell? ⟨g, at' * 4 + 1, none⟩ = some vax ∧ w'.cell? ⟨g, at' * 4 + 2, none⟩ = some (.bool nay) ∧ w'.cell? ⟨g, at' * 4 + 3, none⟩ = some vay)) := fun w' hb => by
    have hc : ∀ j, w'.cell? ⟨g, j, none⟩ = w.cell? ⟨g, j, none⟩ := fun j => hb.cell (p := ⟨g, j, none⟩) hg
    rw [hc, hc, hc, hc]
    exact ha.1
  clear H hA ha
  go_enter Tryz.func50, Tryz.ntmps50
  go_wp2
  go_loopw [5, 6] (fun s5 s6 wr => ∃ k : Nat, s6 = .int .i64 k ∧ k ≤ n ∧ s5 = .int .i64 (bestZ (bestN X A k)) ∧ Below w.heap.size w wr) (fun _ s6 _ => n - (intOf s6).toNat)
  case atStart => exact ⟨0, rfl, Nat.zero_le _, rfl, Below.refl _ _⟩
  case round =>
    obtain ⟨k, rfl, hk, rfl, hbel⟩ := hrel
    by_cases hlt : k < n
    · obtain ⟨x, hx⟩ : ∃ x, x = X k := ⟨_, rfl⟩
      obtain ⟨⟨nkx, vkx, lkx, nky, vky, lky⟩, hu⟩ : ∃ q, PtAt w g k q x := ⟨_, hx ▸ HH.out k hlt⟩
      have HPK : Hid (PbX w ⟨nkx, vkx, lkx, nky, vky, lky⟩ x) := hu.px
      have HCK : Hid (∀ w', Below w.heap.size w w' → (w'.cell? ⟨g, k * 4, none⟩ = some (.bool nkx) ∧ w'.cell? ⟨g, k * 4 + 1, none⟩ = some vkx ∧ w'.cell? ⟨g, k * 4 + 2, none⟩ = some (.bool nky) ∧ w'.cell? ⟨g, k * 4 + 3, none⟩ = some vky)) := fun w' hb => by
        have hc : ∀ j, w'.cell? ⟨g, j, none⟩ = w.cell? ⟨g, j, none⟩ := fun j => hb.cell (p := ⟨g, j, none⟩) hg
        rw [hc, hc, hc, hc]
        exact hu.1
      have HXK : Hid (x = X k) := hx
      have HSA : Hid (∀ U, Below w.heap.size w U → Calls Tryz.prog 51 #[.agg #[.bool nkx, vkx, .bool nky, vky], .agg #[.bool nax, vax, .bool nay, vay]] U fun e w' => e = .returned (.bool (decide (x = A))) ∧ Below U.heap.size U w') := fun U hU => same_px (a := ⟨nkx, vkx, lkx, nky, vky, lky⟩) (b := ⟨nax, vax, lax, nay, vay, lay⟩) (HPK.out.kept hU) (HPA.out.kept hU)
      clear hu hx
      obtain ⟨bs, hbs⟩ : ∃ bs, bs = bestN X A k := ⟨_, rfl⟩
      have hblt : ∀ b, bs = some b → b < k := fun b hb => best_lt X A k b (by rw [← hbs]; exact hb)
      have HB := hid_of (best_succ HXK.out hbs)
      rw [← hbs]
      have hW9 := hbel
      have hsz := hbel.size
      have hgr : g < wr.heap.size := by omega
      have hik : (k : Int) < (n : Int) := by omega
      have hia : (at' : Int) < (n : Int) := by omega
      have KS : ∀ w', Below w.heap.size w w' → (w'.cell? ⟨g, k * 4, none⟩ = some (.bool nkx) ∧ w'.cell? ⟨g, k * 4 + 1, none⟩ = some vkx ∧ w'.cell? ⟨g, k * 4 + 2, none⟩ = some (.bool nky) ∧ w'.cell? ⟨g, k * 4 + 3, none⟩ = some vky) ∧ (w'.cell? ⟨g, at' * 4, none⟩ = some (.bool nax) ∧ w'.cell? ⟨g, at' * 4 + 1, none⟩ = some vax ∧ w'.cell? ⟨g, at' * 4 + 2, none⟩ = some (.bool nay) ∧ w'.cell? ⟨g, at' * 4 + 3, none⟩ = some vay) := fun w' hb => ⟨HCK.out w' hb, HCA.out w' hb⟩
      have hS := KS wr hbel
      clear hbs
      go_upto_region 5 with fail
      go_cut [7] (fun s7 wc => s7 = .bool (decide (x = A)) ∧ Below w.heap.size w wc)
      case first =>
        go_region_held3 (fun w' : World => (w'.cell? ⟨g, k * 4, none⟩ = some (.bool nkx) ∧ w'.cell? ⟨g, k * 4 + 1, none⟩ = some vkx ∧ w'.cell? ⟨g, k * 4 + 2, none⟩ = some (.bool nky) ∧ w'.cell? ⟨g, k * 4 + 3, none⟩ = some vky) ∧ (w'.cell? ⟨g, at' * 4, none⟩ = some (.bool nax) ∧ w'.cell? ⟨g, at' * 4 + 1, none⟩ = some vax ∧ w'.cell? ⟨g, at' * 4 + 2, none⟩ = some (.bool nay) ∧ w'.cell? ⟨g, at' * 4 + 3, none⟩ = some vay)) (exact KS _ (by repeat (with_reducible first | refine below_alloc _ ?_ | refine Below.drew ?_ | exact hW9 | exact Below.refl _ _))) (first | (go_at_call 51; go_must (refine (HSA.out _ (by repeat (with_reducible first | refine below_alloc _ ?_ | refine Below.drew ?_ | exact hW9 | exact Below.refl _ _))).mono ?_; rintro e wk ⟨rfl, hbk⟩; have hW9 : Below w.heap.size w wk := hbel.trans ((below_step hbk (by repeat (with_reducible first | refine Below.drew ?_ | exact Below.refl _ _))).mono hbel.size))))
        all_goals
          go_wp2
          go_meet
          exact ⟨rfl, hW9⟩
      case rest =>
      obtain ⟨rfl, hbc⟩ := hcut
      clear hS hW9 hgr hsz hbel
      have hsz := hbc.size
      have hgr : g < wc.heap.size := by omega
      by_cases hxa : x = A
      · have HV : Hid (bestN X A (k + 1) = bs) := by
          unfold Hid
          rw [HB.out]
          cases bs with
          | none => simp [bestS, hxa]
          | some b => simp [bestS, hxa]
        have hd : decide (x = A) = true := decide_eq_true hxa
        rw [hd]
        clear HB hd
        go_wp2_with fail
        go_roundw
        case rel => exact ⟨k + 1, by go_num, by omega, by rw [HV.out], hbc⟩
        case measure => simp [intOf]; omega
      · have hd : decide (x = A) = false := decide_eq_false hxa
        rw [hd]
        cases bs with
        | none =>
          have HV : Hid (bestN X A (k + 1) = some k) := by
            unfold Hid
            rw [HB.out]
            simp [bestS, hxa]
          clear HB hd
          unfold bestZ
          go_wp2_with fail
          go_roundw
          case rel => exact ⟨k + 1, by go_num, by omega, by rw [HV.out, bestZ], hbc⟩
          case measure => simp [intOf]; omega
        | some b =>
          have hbk := hblt b rfl
          obtain ⟨y, hy⟩ : ∃ y, y = X b := ⟨_, rfl⟩
          obtain ⟨⟨nbx, vbx, lbx, nby, vby, lby⟩, hu⟩ : ∃ q, PtAt w g b q y := ⟨_, hy ▸ HH.out b (by omega)⟩
          have HPB : Hid (PbX w ⟨nbx, vbx, lbx, nby, vby, lby⟩ y) := hu.px
          have HCB : Hid (∀ w', Below w.heap.size w w' → (w'.cell? ⟨g, b * 4, none⟩ = some (.bool nbx) ∧ w'.cell? ⟨g, b * 4 + 1, none⟩ = some vbx ∧ w'.cell? ⟨g, b * 4 + 2, none⟩ = some (.bool nby) ∧ w'.cell? ⟨g, b * 4 + 3, none⟩ = some vby)) := fun w' hb => by
            have hc : ∀ j, w'.cell? ⟨g, j, none⟩ = w.cell? ⟨g, j, none⟩ := fun j => hb.cell (p := ⟨g, j, none⟩) hg
            rw [hc, hc, hc, hc]
            exact hu.1
          obtain ⟨t, ht⟩ : ∃ t, t = PlRd.sgn (HL.cr A y x) := ⟨_, rfl⟩
          obtain ⟨fr, hfr⟩ : ∃ fr, fr = PlRd.sgn (HL.d2 A x - HL.d2 A y) := ⟨_, rfl⟩
          have HV : Hid (bestN X A (k + 1) = if t < 0 ∨ (t = 0 ∧ 0 < fr) then some k else some b) := by
            unfold Hid
            rw [HB.out, bestS, if_neg hxa, ← hy]
            have e : (HL.cr A y x < 0 ∨ (HL.cr A y x = 0 ∧ HL.d2 A y < HL.d2 A x)) ↔ (t < 0 ∨ (t = 0 ∧ 0 < fr)) := by
              rw [ht, hfr]
              unfold PlRd.sgn
              constructor
              · intro h
                (repeat split) <;> omega
              · intro h
                revert h
                (repeat split) <;> omega
            by_cases q : HL.cr A y x < 0 ∨ (HL.cr A y x = 0 ∧ HL.d2 A y < HL.d2 A x)
            · rw [if_pos q, if_pos (e.1 q)]
            · rw [if_neg q, if_neg (fun h => q (e.2 h))]
          have HTU : Hid (∀ U, Below w.heap.size w U → Calls Tryz.prog 21 #[.agg #[.bool nax, vax, .bool nay, vay], .agg #[.bool nbx, vbx, .bool nby, vby], .agg #[.bool nkx, vkx, .bool nky, vky]] U fun e w' => Below U.heap.size U w' ∧ e = .returned (.int .i64 t)) := fun U hU => by
            rw [ht]
            exact rturn_px (a := ⟨nax, vax, lax, nay, vay, lay⟩) (b := ⟨nbx, vbx, lbx, nby, vby, lby⟩) (c := ⟨nkx, vkx, lkx, nky, vky, lky⟩) (HPA.out.kept hU) (HPB.out.kept hU) (HPK.out.kept hU)
          have HQK : Hid (∀ U, Below w.heap.size w U → Calls Tryz.prog 24 #[.agg #[.bool nax, vax, .bool nay, vay], .agg #[.bool nkx, vkx, .bool nky, vky]] U fun e w' => ∃ nc vc lc, e = .returned (.agg #[.bool nc, vc]) ∧ Bg w' nc vc lc (HL.d2 A x) ∧ Below U.heap.size U w') := fun U hU => rsquare_px (a := ⟨nax, vax, lax, nay, vay, lay⟩) (b := ⟨nkx, vkx, lkx, nky, vky, lky⟩) (HPA.out.kept hU) (HPK.out.kept hU)
          have HQB : Hid (∀ U, Below w.heap.size w U → Calls Tryz.prog 24 #[.agg #[.bool nax, vax, .bool nay, vay], .agg #[.bool nbx, vbx, .bool nby, vby]] U fun e w' => ∃ nc vc lc, e = .returned (.agg #[.bool nc, vc]) ∧ Bg w' nc vc lc (HL.d2 A y) ∧ Below U.heap.size U w') := fun U hU => rsquare_px (a := ⟨nax, vax, lax, nay, vay, lay⟩) (b := ⟨nbx, vbx, lbx, nby, vby, lby⟩) (HPA.out.kept hU) (HPB.out.kept hU)
          have HSM : Hid (Small (HL.d2 A x) ∧ Small (HL.d2 A y)) := ⟨small_of (sumsq_lt HPK.out.sx HPA.out.sx HPK.out.sy HPA.out.sy) (by decide), small_of (sumsq_lt HPB.out.sx HPA.out.sx HPB.out.sy HPA.out.sy) (by decide)⟩
          have HFR : Hid (fr = PlRd.sgn (HL.d2 A x - HL.d2 A y)) := hfr
          have KB : ∀ w', Below w.heap.size w w' → (w'.cell? ⟨g, k * 4, none⟩ = some (.bool nkx) ∧ w'.cell? ⟨g, k * 4 + 1, none⟩ = some vkx ∧ w'.cell? ⟨g, k * 4 + 2, none⟩ = some (.bool nky) ∧ w'.cell? ⟨g, k * 4 + 3, none⟩ = some vky) ∧ (w'.cell? ⟨g, at' * 4, none⟩ = some (.bool nax) ∧ w'.cell? ⟨g, at' * 4 + 1, none⟩ = some vax ∧ w'.cell? ⟨g, at' * 4 + 2, none⟩ = some (.bool nay) ∧ w'.cell? ⟨g, at' * 4 + 3, none⟩ = some vay) ∧ (w'.cell? ⟨g, b * 4, none⟩ = some (.bool nbx) ∧ w'.cell? ⟨g, b * 4 + 1, none⟩ = some vbx ∧ w'.cell? ⟨g, b * 4 + 2, none⟩ = some (.bool nby) ∧ w'.cell? ⟨g, b * 4 + 3, none⟩ = some vby) := fun w' hb => ⟨HCK.out w' hb, HCA.out w' hb, HCB.out w' hb⟩
          have hS := KB wc hbc
          have hib : (b : Int) < (n : Int) := by omega
          have hib0 : ¬ (b : Int) < 0 := by omega
          have hW9 := hbc
          clear HB hd hu hy ht hfr KS HSA
          unfold bestZ
          go_upto_region 9 with fail
          go_cut [8] (fun s8 wz => s8 = .int .i64 t ∧ Below w.heap.size w wz)
          case first =>
            go_region_held3 (fun w' : World => (w'.cell? ⟨g, k * 4, none⟩ = some (.bool nkx) ∧ w'.cell? ⟨g, k * 4 + 1, none⟩ = some vkx ∧ w'.cell? ⟨g, k * 4 + 2, none⟩ = some (.bool nky) ∧ w'.cell? ⟨g, k * 4 + 3, none⟩ = some vky) ∧ (w'.cell? ⟨g, at' * 4, none⟩ = some (.bool nax) ∧ w'.cell? ⟨g, at' * 4 + 1, none⟩ = some vax ∧ w'.cell? ⟨g, at' * 4 + 2, none⟩ = some (.bool nay) ∧ w'.cell? ⟨g, at' * 4 + 3, none⟩ = some vay) ∧ (w'.cell? ⟨g, b * 4, none⟩ = some (.bool nbx) ∧ w'.cell? ⟨g, b * 4 + 1, none⟩ = some vbx ∧ w'.cell? ⟨g, b * 4 + 2, none⟩ = some (.bool nby) ∧ w'.cell? ⟨g, b * 4 + 3, none⟩ = some vby)) (exact KB _ (by repeat (with_reducible first | refine below_alloc _ ?_ | refine Below.drew ?_ | exact hW9 | exact Below.refl _ _))) (first | (go_at_call 21; go_must (refine (HTU.out _ (by repeat (with_reducible first | refine below_alloc _ ?_ | refine Below.drew ?_ | exact hW9 | exact Below.refl _ _))).mono ?_; rintro e wk ⟨hbk, rfl⟩; have hW9 : Below w.heap.size w wk := hbc.trans ((below_step hbk (by repeat (with_reducible first | refine Below.drew ?_ | exact Below.refl _ _))).mono hbc.size))))
            all_goals
              go_wp2
              go_meet
              exact ⟨rfl, hW9⟩
          case rest =>
          obtain ⟨rfl, hbz⟩ := hcut
          obtain ⟨Z, hZ⟩ : ∃ z, z = wc := ⟨_, rfl⟩
          subst hZ
          clear hS hW9 hgr hsz HTU
          have hS := KB Z hbz
          have hsz := hbz.size
          have hgr : g < Z.heap.size := by omega
          have hW9 := hbz
          go_upto_region 10 with fail
          go_cut [9] (fun s9 wz => s9 = .int .i64 fr ∧ Below w.heap.size w wz)
          case first =>
            go_region_held3 (fun w' : World => (w'.cell? ⟨g, k * 4, none⟩ = some (.bool nkx) ∧ w'.cell? ⟨g, k * 4 + 1, none⟩ = some vkx ∧ w'.cell? ⟨g, k * 4 + 2, none⟩ = some (.bool nky) ∧ w'.cell? ⟨g, k * 4 + 3, none⟩ = some vky) ∧ (w'.cell? ⟨g, at' * 4, none⟩ = some (.bool nax) ∧ w'.cell? ⟨g, at' * 4 + 1, none⟩ = some vax ∧ w'.cell? ⟨g, at' * 4 + 2, none⟩ = some (.bool nay) ∧ w'.cell? ⟨g, at' * 4 + 3, none⟩ = some vay) ∧ (w'.cell? ⟨g, b * 4, none⟩ = some (.bool nbx) ∧ w'.cell? ⟨g, b * 4 + 1, none⟩ = some vbx ∧ w'.cell? ⟨g, b * 4 + 2, none⟩ = some (.bool nby) ∧ w'.cell? ⟨g, b * 4 + 3, none⟩ = some vby)) (exact KB _ (by repeat (with_reducible first | refine below_alloc _ ?_ | refine Below.drew ?_ | exact hW9 | exact Below.refl _ _))) (first | (go_at_call 22; go_must (refine (sign_bg m3 _ k3 _ _ hg3).mono ?_; rintro e w4 ⟨he4, hb4⟩; rw [← HFR.out] at he4; subst he4; have hW9 : Below w.heap.size w w4 := hW9.trans (hb4.mono hW9.size))) | (go_at_call 23; go_must (refine (less_bg m1 m2 _ _ k1 k2 _ _ _ (hg1.kept hb2) hg2 HSM.out.1 HSM.out.2).mono ?_; rintro e w3 ⟨m3, v3, k3, rfl, hg3, hb3⟩; have hW9 : Below w.heap.size w w3 := hW9.trans (hb3.mono hW9.size))) | (go_at_call 24; have g1 := hb1; go_must (refine (HQB.out _ hW9).mono ?_; rintro e w2 ⟨m2, v2, k2, rfl, hg2, hb2⟩; have hW9 : Below w.heap.size w w2 := hW9.trans (hb2.mono hW9.size))) | (go_at_call 24; go_must (refine (HQK.out _ (by repeat (with_reducible first | refine below_alloc _ ?_ | refine Below.drew ?_ | exact hW9 | exact Below.refl _ _))).mono ?_; rintro e w1 ⟨m1, v1, k1, rfl, hg1, hb1⟩; have hW9 : Below w.heap.size w w1 := hbz.trans ((below_step hb1 (by repeat (with_reducible first | refine Below.drew ?_ | exact Below.refl _ _))).mono hbz.size))))
            all_goals
              go_wp2
              go_meet
              exact ⟨rfl, hW9⟩
          case rest =>
          obtain ⟨rfl, hbY⟩ := hcut
          clear hS hW9 hgr hsz HQK HQB HSM HFR KB
          by_cases t1 : t < 0
          · go_wp2_with fail
            go_roundw
            case rel => exact ⟨k + 1, by go_num, by omega, by rw [HV.out, if_pos (.inl t1), bestZ], hbY⟩
            case measure => simp [intOf]; omega
          · by_cases t2 : t = 0
            · by_cases t3 : 0 < fr
              · have t4 : (t == 0) = true := by simp [t2]
                go_wp2_with fail
                go_roundw
                case rel => exact ⟨k + 1, by go_num, by omega, by rw [HV.out, if_pos (.inr ⟨t2, t3⟩), bestZ], hbY⟩
                case measure => simp [intOf]; omega
              · have t4 : (t == 0) = true := by simp [t2]
                go_wp2_with fail
                go_roundw
                case rel => exact ⟨k + 1, by go_num, by omega, by rw [HV.out, if_neg (by omega), bestZ], hbY⟩
                case measure => simp [intOf]; omega
            · have t4 : (t == 0) = false := by simp [t2]
              go_wp2_with fail
              go_roundw
              case rel => exact ⟨k + 1, by go_num, by omega, by rw [HV.out, if_neg (by omega), bestZ], hbY⟩
              case measure => simp [intOf]; omega
    · have hkn : k = n := by omega
      subst hkn
      go_wp2
      go_ret
      exact ⟨rfl, hbel⟩

end Go.Proofs.YtbjjkfmdkmbcfaaGreat

namespace Go.Proofs.YtbjjkfmdkmbcfaaGreat

/-- A list of the book: so many of one mark. -/
def Mks (w : World) (base : Nat) (v : Value) (n : Nat) (M : Value) : Prop := w.ownsRow base 3 1 v n (List.replicate n M)

theorem run_append_marks {P : Program} (w : World) (base : Nat) (t ty : TypeId) (i : TypeInfo) (z : Value) (ht : P.underlying t = some (.slice 3)) (hi : P.info? 3 = some i) (hz : i.zero = some z)
    (hsize : i.size = 1) (hby : i.bytes = 8) (hzs : z.cells.size = 1) (M : Value) (h1 : M.oneCell' = true)
    (v : Value) (n : Nat) (hown : Mks w base v n M)
    (a : Addr) (m c : Nat) (hnews : ∀ j u, (List.replicate m M)[j]? = some u → w.cell? (a.add j) = some u)
    (h63 : n + m ≤ maxLen) (hbytes : (n + m) * 8 ≤ 140737488355328) (hbase : base ≤ w.heap.size) :
    ∃ v' w', (Builtin.append_ #[t, t] ty #[v, .slice (some a) m c]).run P w = .ok v' w' ∧ Mks w' base v' (n + m) M ∧ w.grownBy w' v.ownBlock ∧
      ∀ b2 v2 n2, Mks w b2 v2 n2 M → Mks w' b2 v2 n2 M := by
  have hrr : List.replicate n M ++ List.replicate m M = List.replicate (n + m) M := List.replicate_append_replicate
  have h1' : ∀ u ∈ List.replicate m M, u.oneCell' = true := fun u hu => by rw [List.eq_of_mem_replicate hu]; exact h1
  have hl : (List.replicate m M).length = m * i.size := by rw [hsize]; simp
  rcases hown.2 with ⟨rfl, rfl⟩ | ⟨g, cap, cur, rfl, hbg, hg, hnc, hcm, hcs, htake⟩
  · obtain ⟨v', w', hr, h2, h3, h4⟩ := run_append_own (P := P) w base t ty 3 i z 1 8 ht hi hz hsize hby hzs (by decide) _ 0 _ hown a m c (List.replicate m M) (by simp) hnews h1' h63 hbytes hbase
    rw [hrr] at h2
    exact ⟨v', w', hr, h2, h3, fun b2 v2 n2 hm => hm.kept h3 (by cases h : v2.ownBlock <;> simp [Value.ownBlock])⟩
  · by_cases hroom : n + m ≤ cap
    · have hfit : n * i.size + (List.replicate m M).length ≤ cur.size := by rw [hl, hcs, hsize]; omega
      have hr := run_append_room (P := P) w t ty 3 i ht hi g n cap cur hg a m c (List.replicate m M) hl hnews h1' hroom hfit
      have hgr : w.grownBy (w.setRow g (cur.toList.take (n * i.size) ++ List.replicate m M ++ cur.toList.drop (n * i.size + (List.replicate m M).length)).toArray) (some g) := ⟨rfl, rfl, rfl, by simp, fun k _ hk => setRow_other w g k _ (fun e => hk (by simp [e]))⟩
      have hsz : (cur.toList.take (n * i.size) ++ List.replicate m M ++ cur.toList.drop (n * i.size + (List.replicate m M).length)).toArray.size = cap * 1 := by
        simp only [List.size_toArray, List.length_append, List.length_take, List.length_drop, Array.length_toList, List.length_replicate, hsize]
        omega
      refine ⟨_, _, hr, ⟨by simp, .inr ⟨g, cap, _, rfl, hbg, setRow_heap w g cur _ 3 _ hg, hroom, hcm, hsz, ?_⟩⟩, hgr, ?_⟩
      · rw [hsize, htake, hrr]
        have : (List.replicate (n + m) M).length = (n + m) * 1 := by simp
        rw [← this]
        exact List.take_left
      · intro b2 v2 n2 hm
        by_cases hb2 : v2.ownBlock = some g
        · refine ⟨hm.1, ?_⟩
          rcases hm.2 with ⟨rfl, h0⟩ | ⟨g2, cap2, cur2, rfl, hbg2, hg2, hnc2, hcm2, hcs2, htake2⟩
          · exact .inl ⟨rfl, h0⟩
          · simp only [Value.ownBlock, Option.some.injEq] at hb2
            subst hb2
            have e : cur2 = cur := by
              rw [hg] at hg2
              simp only [Option.some.injEq, Obj.cells.injEq] at hg2
              exact hg2.1.symm
            subst e
            have ec : cap2 = cap := by omega
            subst ec
            refine .inr ⟨g2, cap2, _, rfl, hbg2, setRow_heap w g2 cur2 _ 3 _ hg, hnc2, hcm2, hsz, ?_⟩
            apply List.ext_getElem?
            intro j
            have e1 : (cur2.toList.take (n * 1))[j]? = (List.replicate n M)[j]? := by rw [htake]
            have e2 : (cur2.toList.take (n2 * 1))[j]? = (List.replicate n2 M)[j]? := by rw [htake2]
            rw [List.getElem?_take] at e1 e2
            rw [List.getElem?_take]
            by_cases hj : j < n2
            · rw [if_pos (by omega)] at e2 ⊢
              rw [← e2, hsize]
              simp only [Nat.mul_one]
              by_cases hjn : j < n
              · rw [List.append_assoc, List.getElem?_append_left (by simp; omega), List.getElem?_take, if_pos hjn]
              · by_cases hjm : j < n + m
                · rw [List.append_assoc, List.getElem?_append_right (by simp; omega), List.getElem?_append_left (by simp; omega), e2, List.getElem?_replicate, List.getElem?_replicate, if_pos (by simp; omega), if_pos hj]
                · rw [List.getElem?_append_right (by simp; omega), List.getElem?_drop]
                  congr 1
                  simp
                  omega
            · rw [if_neg (by omega), List.getElem?_eq_none (by simp; omega)]
        · exact hm.kept hgr (.inr hb2)
    · have holds : ∀ j u, (List.replicate n M)[j]? = some u → w.cell? ((⟨g, 0, none⟩ : Addr).add j) = some u := World.ownsRow.cells hown (g := g) rfl
      have hr := run_append_grow (P := P) w t ty 3 i z ht hi hz ⟨g, 0, none⟩ n cap (List.replicate n M) (by rw [hsize]; simp) holds a m c (List.replicate m M) hl hnews (by omega) (by simp only [maxLen] at h63; omega) (by rw [hby]; exact growslice_fits (by omega) hbytes)
      have hgr : ∀ row, w.grownBy (w.drew.alloc (.cells ((List.replicate n M).toArray ++ (List.replicate m M).toArray ++ Builtin.zeroCells z.cells (grownCap w (n + m) cap 3 - (n + m))) 3)) row := fun row => ⟨rfl, rfl, rfl, by simp, fun k hk _ => Go.RowKit.Below.heap_alloc w.drew _ k hk⟩
      have hge := grownCap_ge w (n + m) cap 3
      have hcm' : grownCap w (n + m) cap 3 ≤ maxLen := grownCap_le_maxLen w (n + m) cap 3 h63
      refine ⟨_, _, hr, ⟨by simp, .inr ⟨w.heap.size, _, _, rfl, hbase, heap_alloc_new w.drew _, hge, hcm', ?_, ?_⟩⟩, hgr _, fun b2 v2 n2 hm => hm.kept (hgr none) (by cases h : v2.ownBlock <;> simp)⟩
      · simp only [Array.size_append, List.size_toArray, size_zeroCells, hzs, List.length_replicate]
        omega
      · simp only [Array.toList_append, List.append_assoc]
        rw [← List.append_assoc, hrr]
        have : (List.replicate (n + m) M).length = (n + m) * 1 := by simp
        rw [← this]
        exact List.take_left

theorem wpList_append_marks {P : Program} {w : World} {ops : Array Oper} {rest : List Oper} {o : Oper} {a : Act} {Q : Exit → Act → World → Prop} (hgd : o.guard = none) (s x : Operand) (t : TypeId)
    (ho : o.op = .call { callee := .builtin .append, args := #[s, x], argTypes := #[t, t] })
    (base : Nat) (i : TypeInfo) (z : Value) (ht : P.underlying t = some (.slice 3)) (hi : P.info? 3 = some i) (hz : i.zero = some z)
    (hsize : i.size = 1) (hby : i.bytes = 8) (hzs : z.cells.size = 1) (M : Value) (h1 : M.oneCell' = true)
    (v : Value) (n : Nat) (hs : a.eval s = v) (hown : Mks w base v n M)
    (ad : Addr) (m c : Nat) (hx : a.eval x = .slice (some ad) m c) (hnews : ∀ j u, (List.replicate m M)[j]? = some u → w.cell? (ad.add j) = some u)
    (h63 : n + m ≤ maxLen) (hbytes : (n + m) * 8 ≤ 140737488355328) (hbase : base ≤ w.heap.size)
    (h : ∀ v' w', Mks w' base v' (n + m) M → w.grownBy w' v.ownBlock → (∀ b2 v2 n2, Mks w b2 v2 n2 M → Mks w' b2 v2 n2 M) → wpList P ops Q rest (a.put o.dst v') w') : wpList P ops Q (o :: rest) a w := by
  refine wpList_plain hgd fun K hK => ?_
  obtain ⟨v', w', hr, h2, h3, h4⟩ := run_append_marks (P := P) w base t o.type i z ht hi hz hsize hby hzs M h1 v n hown ad m c hnews h63 hbytes hbase
  unfold Oper.wp execOp
  simp only [ho, resolve, invoke, builtin, Sem.run_bind, Sem.run_pure, Result.andThen_ok, List.map_toArray, List.map_cons, List.map_nil, hs, hx, hr]
  exact hK _ _ (h v' w' h2 h3 h4)

end Go.Proofs.YtbjjkfmdkmbcfaaGreat

namespace Go.Proofs.YtbjjkfmdkmbcfaaGreat
open Go.RowKit

theorem row_same {w w' : World} {base : Nat} {e : TypeId} {size : Nat} {v : Value} {n : Nat} {xs : List Value} (h : w.ownsRow base e size v n xs) (hs : ∀ g cur, v.ownBlock = some g → w.heap[g]? = some (.cells cur e (0, 0)) → w'.heap[g]? = w.heap[g]?) : w'.ownsRow base e size v n xs := by
  refine ⟨h.1, ?_⟩
  rcases h.2 with hn | ⟨g, cap, cur, rfl, hb, hgg, rest⟩
  · exact .inl hn
  · refine .inr ⟨g, cap, cur, rfl, hb, ?_, rest⟩
    rw [hs g cur rfl hgg]
    exact hgg

theorem row_below {w w' : World} {base : Nat} {e : TypeId} {size : Nat} {v : Value} {n : Nat} {xs : List Value} (h : w.ownsRow base e size v n xs) (hb : Below w.heap.size w w') : w'.ownsRow base e size v n xs :=
  row_same h fun g _ _ hg => hb.block g (Array.getElem?_eq_some_iff.1 hg).1

theorem row_mono {w : World} {base base' : Nat} {e : TypeId} {size : Nat} {v : Value} {n : Nat} {xs : List Value} (h : w.ownsRow base e size v n xs) (hb : base' ≤ base) : w.ownsRow base' e size v n xs := by
  refine ⟨h.1, ?_⟩
  rcases h.2 with hn | ⟨g, cap, cur, h1, h2, rest⟩
  · exact .inl hn
  · exact .inr ⟨g, cap, cur, h1, Nat.le_trans hb h2, rest⟩

/-- The mark of the i-th list. -/
def mkV (i : Nat) : Value := .int .i64 (-1000 - ((i / 4 : Nat) : Int))

/-- The book: what came out. -/
structure Bk (w : World) (base box : Nat) (lv : Value) (ls : List Value) : Prop where
  le : base ≤ box
  box : w.heap[box]? = some (.cells #[lv] 38 (0, 0))
  row : w.ownsRow base 41 1 lv ls.length ls
  each : ∀ i (h : i < ls.length), ∃ n, Mks w base ls[i] n (mkV i)

theorem Bk.lt {w : World} {base box : Nat} {lv : Value} {ls : List Value} (h : Bk w base box lv ls) : box < w.heap.size := (Array.getElem?_eq_some_iff.1 h.box).1

theorem Bk.cell {w : World} {base box : Nat} {lv : Value} {ls : List Value} (h : Bk w base box lv ls) : w.cell? ⟨box, 0, none⟩ = some lv := by
  simp [World.cell?, h.box]

theorem Bk.frozen {w : World} {base box : Nat} {lv : Value} {ls : List Value} (h : Bk w base box lv ls) : w.frozen? ⟨box, 0, none⟩ = false := by
  simp [World.frozen?, h.box]

theorem Bk.form {w : World} {base box : Nat} {lv : Value} {ls : List Value} (h : Bk w base box lv ls) : ∃ o c, lv = .slice o ls.length c := by
  rcases h.row.2 with ⟨h1, h2⟩ | ⟨g, cap, cur, h1, _⟩
  · exact ⟨none, 0, by rw [h1, h2]⟩
  · exact ⟨_, cap, h1⟩

theorem Bk.kept {w w' : World} {base box : Nat} {lv : Value} {ls : List Value} (h : Bk w base box lv ls) (hb : Below w.heap.size w w') : Bk w' base box lv ls :=
  ⟨h.le, (hb.block _ h.lt).trans h.box, row_below h.row hb, fun i hi => by
    obtain ⟨n, hn⟩ := h.each i hi
    exact ⟨n, row_below hn hb⟩⟩

/-- Where the one row that is written holds numbers of another's. -/
theorem Bk.grown {w w' : World} {base box g0 : Nat} {cur0 : Array Value} {lv : Value} {ls : List Value} (h : Bk w base box lv ls) (hg : w.grownBy w' (some g0)) (h0 : w.heap[g0]? = some (.cells cur0 3 (0, 0))) (hd : ∀ i (h : i < ls.length), ls[i].ownBlock ≠ some g0) : Bk w' base box lv ls := by
  have key : ∀ g o, w.heap[g]? = some o → g ≠ g0 → w'.heap[g]? = w.heap[g]? := fun g o ho hne => hg.block g (Array.getElem?_eq_some_iff.1 ho).1 (by simpa using hne)
  refine ⟨h.le, ?_, ?_, ?_⟩
  · rw [key box _ h.box, h.box]
    rintro rfl
    rw [h.box] at h0
    simp only [Option.some.injEq, Obj.cells.injEq] at h0
    exact absurd h0.2.1 (by decide)
  · refine row_same h.row fun g cur _ hgg => key g _ hgg ?_
    rintro rfl
    rw [hgg] at h0
    simp only [Option.some.injEq, Obj.cells.injEq] at h0
    exact absurd h0.2.1 (by decide)
  · intro i hi
    obtain ⟨n, hn⟩ := h.each i hi
    refine ⟨n, row_same hn fun g cur hv hgg => key g _ hgg ?_⟩
    rintro rfl
    exact hd i hi hv

/-- One list more stands in the book. -/
theorem Bk.push {w w1 w2 : World} {base box : Nat} {lv v' l : Value} {ls : List Value} (h : Bk w base box lv ls) (hl : ∃ n, Mks w base l n (mkV ls.length)) (h0 : Below w.heap.size w w1) (h1 : w2.ownsRow base 41 1 v' (ls.length + 1) (ls ++ [l])) (h2 : w1.grownBy w2 lv.ownBlock) :
    Bk (w2.setCell ⟨box, 0, none⟩ v') base box v' (ls ++ [l]) ∧ (∀ b2 v2 n2 M, Mks w b2 v2 n2 M → Mks (w2.setCell ⟨box, 0, none⟩ v') b2 v2 n2 M) ∧ Below base w (w2.setCell ⟨box, 0, none⟩ v') := by
  have hrow : ∀ k, lv.ownBlock = some k → base ≤ k ∧ ∃ cur, w.heap[k]? = some (.cells cur 41 (0, 0)) := by
    intro k hk
    rcases h.row.2 with ⟨e, _⟩ | ⟨g, cap, cur, e, hb, hg, _⟩
    · rw [e] at hk; cases hk
    · rw [e] at hk
      simp only [Value.ownBlock, Option.some.injEq] at hk
      subst hk
      exact ⟨hb, cur, hg⟩
  have old : ∀ g o, w.heap[g]? = some o → lv.ownBlock ≠ some g → w2.heap[g]? = w.heap[g]? := fun g o ho hne => by
    have hlt := (Array.getElem?_eq_some_iff.1 ho).1
    rw [h2.block g (Nat.lt_of_lt_of_le hlt h0.size) (fun e => hne e.symm), h0.block g hlt]
  have hbx : w2.heap[box]? = some (.cells #[lv] 38 (0, 0)) := by
    rw [old box _ h.box, h.box]
    intro e
    obtain ⟨_, cur, hc⟩ := hrow box e
    rw [h.box] at hc
    simp only [Option.some.injEq, Obj.cells.injEq] at hc
    exact absurd hc.2.1 (by decide)
  have K : ∀ b2 v2 n2 M, Mks w b2 v2 n2 M → Mks (w2.setCell ⟨box, 0, none⟩ v') b2 v2 n2 M := by
    intro b2 v2 n2 M hm
    refine row_same hm fun g cur hv hg => ?_
    have e1 : g ≠ box := by
      rintro rfl
      rw [h.box] at hg
      simp only [Option.some.injEq, Obj.cells.injEq] at hg
      exact absurd hg.2.1 (by decide)
    rw [Below.heap_setCell _ _ _ _ e1]
    refine old g _ hg fun e => ?_
    obtain ⟨_, cur', hc⟩ := hrow g e
    rw [hg] at hc
    simp only [Option.some.injEq, Obj.cells.injEq] at hc
    exact absurd hc.2.1 (by decide)
  refine ⟨⟨h.le, ?_, ?_, ?_⟩, K, ?_⟩
  · rw [heap_setCell_same _ box 0 _ _ _ hbx]
    rfl
  · rw [List.length_append]
    refine row_same h1 fun g cur _ hg => ?_
    refine Below.heap_setCell _ _ _ _ ?_
    rintro rfl
    rw [hbx] at hg
    simp only [Option.some.injEq, Obj.cells.injEq] at hg
    exact absurd hg.2.1 (by decide)
  · intro i hi
    rw [List.length_append] at hi
    simp only [List.length_cons, List.length_nil] at hi
    by_cases e : i < ls.length
    · obtain ⟨n, hn⟩ := h.each i e
      refine ⟨n, ?_⟩
      rw [List.getElem_append_left e]
      exact K _ _ _ _ hn
    · have e2 : i = ls.length := by omega
      subst e2
      obtain ⟨n, hn⟩ := hl
      refine ⟨n, ?_⟩
      rw [List.getElem_concat_length rfl]
      exact K _ _ _ _ hn
  · have hbw : Below base w w1 := h0.mono (Nat.le_trans h.le (Nat.le_of_lt h.lt))
    exact (hbw.grown h2 (Nat.le_trans (Nat.le_trans h.le (Nat.le_of_lt h.lt)) h0.size) fun k hk => (hrow k hk).1).setCell h.le _

/-- A row of numbers of which the first k are the mark. -/
def MRow (w : World) (B n k : Nat) (M : Value) : Prop := ∃ cur : Array Value, w.heap[B]? = some (.cells cur 3 (0, 0)) ∧ cur.size = n ∧ ∀ j, j < k → cur[j]? = some M

theorem MRow.cell {w : World} {B n k : Nat} {M : Value} (h : MRow w B n k M) (hk : k < n) : ∃ u, w.cell? ⟨B, k, none⟩ = some u ∧ w.frozen? ⟨B, k, none⟩ = false := by
  obtain ⟨cur, hg, hs, _⟩ := h
  refine ⟨cur[k], ?_, ?_⟩
  · simp [World.cell?, hg, hs, hk]
  · simp [World.frozen?, hg]

theorem MRow.put {w : World} {B n k : Nat} {M : Value} (h : MRow w B n k M) (hk : k < n) : MRow (w.setCell ⟨B, k, none⟩ M) B n (k + 1) M := by
  obtain ⟨cur, hg, hs, hc⟩ := h
  refine ⟨_, heap_setCell_same _ B k _ _ _ hg, by simpa using hs, fun j hj => ?_⟩
  by_cases e : j = k
  · subst e
    rw [Array.getElem?_setIfInBounds_self_of_lt (by omega)]
  · rw [Array.getElem?_setIfInBounds_ne (by omega)]
    exact hc j (by omega)

theorem MRow.marks {w : World} {B n k base : Nat} {M : Value} (h : MRow w B n k M) (hk : k ≤ n) (hn : n ≤ maxLen) (hb : base ≤ B) : Mks w base (.slice (some ⟨B, 0, none⟩) k n) k M := by
  obtain ⟨cur, hg, hs, hc⟩ := h
  refine ⟨by simp, .inr ⟨B, n, cur, rfl, hb, hg, hk, hn, by omega, ?_⟩⟩
  apply List.ext_getElem?
  intro j
  rw [List.getElem?_take]
  by_cases hj : j < k
  · rw [if_pos (by omega), Array.getElem?_toList, hc j hj, List.getElem?_replicate, if_pos hj]
  · rw [if_neg (by omega), List.getElem?_eq_none (by simp; omega)]

theorem Mks.form {w : World} {base : Nat} {v : Value} {n : Nat} {M : Value} (h : Mks w base v n M) : ∃ p c, v = .slice p n c := by
  rcases h.2 with ⟨h1, h2⟩ | ⟨g, cap, cur, h1, _⟩
  · exact ⟨none, 0, by rw [h1, h2]⟩
  · exact ⟨_, cap, h1⟩

theorem Mks.cells {w : World} {base : Nat} {v : Value} {n : Nat} {M : Value} (h : Mks w base v n M) (hn : n ≠ 0) : ∃ g c, v = .slice (some ⟨g, 0, none⟩) n c ∧ g < w.heap.size ∧ ∀ j, j < n → w.cell? ⟨g, j, none⟩ = some M := by
  rcases h.2 with ⟨h1, h2⟩ | ⟨g, cap, cur, h1, hb, hg, hc, hm, hs, ht⟩
  · exact absurd h2 hn
  · refine ⟨g, cap, h1, (Array.getElem?_eq_some_iff.1 hg).1, fun j hj => ?_⟩
    have h3 : (cur.toList.take (n * 1))[j]? = (List.replicate n M)[j]? := by rw [ht]
    rw [List.getElem?_take, if_pos (by omega), Array.getElem?_toList, List.getElem?_replicate, if_pos hj] at h3
    simp [World.cell?, hg, h3]

theorem Bk.cells {w : World} {base box : Nat} {lv : Value} {ls : List Value} (h : Bk w base box lv ls) (hn : ls.length ≠ 0) : ∃ g c, lv = .slice (some ⟨g, 0, none⟩) ls.length c ∧ g < w.heap.size ∧ ∀ j (hj : j < ls.length), w.cell? ⟨g, j, none⟩ = some ls[j] := by
  rcases h.row.2 with ⟨h1, h2⟩ | ⟨g, cap, cur, h1, hb, hg, hc, hm, hs, ht⟩
  · exact absurd h2 hn
  · refine ⟨g, cap, h1, (Array.getElem?_eq_some_iff.1 hg).1, fun j hj => ?_⟩
    have h3 : (cur.toList.take (ls.length * 1))[j]? = ls[j]? := by rw [ht]
    rw [List.getElem?_take, if_pos (by omega), Array.getElem?_toList, List.getElem?_eq_getElem hj] at h3
    simp [World.cell?, hg, h3]

end Go.Proofs.YtbjjkfmdkmbcfaaGreat
