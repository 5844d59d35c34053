import Derived.Test.YtleebikdnjbieaaNm
import Derived.Deep.RegionHeld3
import Derived.Deep.DeepCutAuto
import Derived.Deep.DrawnRows
namespace Go.Proofs.Ytleebikdnjbieaa
open Go.RowKit
open PlRd

attribute [local go_sem ↓] Go.wp_at_zero Go.wp_at_succ

/-- A coordinate that may be, in units. -/
def Co (b : Nat) (x : Int) : Prop := Is b x ∧ (2 : Int) ^ 974 ∣ x ∧ x.natAbs ≤ 2 ^ 1174

theorem Co.neg {b : Nat} {x : Int} (h : Co b x) : Co (b ^^^ 9223372036854775808) (-x) :=
  ⟨is_neg h.1, Int.dvd_neg.2 h.2.1, by rw [Int.natAbs_neg]; exact h.2.2⟩

theorem pa_two {a b : Nat} {x y : Int} (h : Co a x) (h2 : Co b y) : Pa [x, y] 974 1 1174 := by
  refine ⟨?_, ?_, by simp, ?_⟩
  · intro p hp; simp at hp; rcases hp with rfl | rfl
    · exact h.1.fl
    · exact h2.1.fl
  · intro p hp; simp at hp; rcases hp with rfl | rfl
    · exact h.2.1
    · exact h2.2.1
  · intro p hp; simp at hp; rcases hp with rfl | rfl
    · exact h.2.2
    · exact h2.2.2

/-- 'Sum(x, y)' of two coordinates. -/
theorem sum2 (g x y : Nat) (X Y : Int) (w : World) (hc0 : w.cell? ⟨g, 0, none⟩ = some (.float .f64 x)) (hc1 : w.cell? ⟨g, 1, none⟩ = some (.float .f64 y)) (hg : g < w.heap.size) (hx : Co x X) (hy : Co y Y) :
    Calls Try.prog 45 #[.slice (some ⟨g, 0, none⟩) 2 2] w fun e w' => ∃ v' cs, e = .returned v' ∧ NumS w' w.heap.size v' cs ∧ IsL cs (sumAll [X, Y]) ∧ Below w.heap.size w w' := by
  refine sum_walk g 2 2 [x, y] [X, Y] _ w rfl (by decide) (fun t ht => ?_) hg ⟨hx.1, hy.1, trivial⟩ (Nat.le_refl _) (lim_of (pa_two hx hy).abs (by decide))
  match t, ht with
  | 0, _ => exact hc0
  | 1, _ => exact hc1

theorem nm_two {a b : Nat} {x y : Int} (h : Co a x) (h2 : Co b y) : Nm (sumAll [x, y]) 974 1 1176 := (pa_two h h2).sum

/-- The product of two differences. -/
theorem prod2 (v v2 : Value) (base base2 : Nat) (bs cs : List Nat) (xs ys : List Int) (w : World) (hv : NumS w base v bs) (hv2 : NumS w base2 v2 cs) (his : IsL bs xs) (his2 : IsL cs ys) (h : Nm xs 974 1 1176) (h2 : Nm ys 974 1 1176) :
    Calls Try.prog 44 #[v, v2] w fun e w' => ∃ v' ds, e = .returned v' ∧ NumS w' w.heap.size v' ds ∧ IsL ds (sumAll (prodParts xs ys)) ∧ Below w.heap.size w w' :=
  product_nm v v2 base base2 bs cs xs ys 974 1 1176 974 1 1176 w hv hv2 his his2 h h2 (by decide) (by decide) (by decide) (by decide)

theorem bcell {W w1 : World} (hb : Below W.heap.size W w1) : (∀ b o, b < W.heap.size → w1.cell? ⟨b, o, none⟩ = W.cell? ⟨b, o, none⟩) ∧ (∀ b o, b < W.heap.size → w1.frozen? ⟨b, o, none⟩ = W.frozen? ⟨b, o, none⟩) :=
  ⟨fun b o h => hb.cell (p := ⟨b, o, none⟩) h, fun b o h => hb.frozen (p := ⟨b, o, none⟩) h⟩

theorem below_step {W X w1 : World} (hb : Below X.heap.size X w1) (h : Below W.heap.size W X) : Below W.heap.size W w1 := h.trans (hb.mono h.size)

theorem kept_alloc {W w2 : World} {o : Obj} {base : Nat} {v : Value} {bs : List Nat} (h : NumS W base v bs) (hb : Below (W.alloc o).heap.size (W.alloc o) w2) : NumS w2 base v bs :=
  h.kept (((Below.refl _ W).alloc (Nat.le_refl _) o).trans (hb.mono (by simp)))

theorem NumS.alloc {w : World} {b : Nat} {v : Value} {bs : List Nat} (h : NumS w b v bs) (o : Obj) : NumS (w.alloc o) b v bs := h.kept ((Below.refl _ w).alloc (Nat.le_refl _) o)

theorem terms2 {w : World} {v1 v2 : Value} {bs cs : List Nat} {xs ys : List Int} (hn1 : NumS w 0 v1 bs) (hn2 : NumS w 0 v2 cs) (h1 : IsL bs xs) (h2 : IsL cs ys) (t : TypeId) : Terms (w.alloc (.cells #[v1, v2] t)) w.heap.size 2 [v1, v2] [bs, cs] [xs, ys] := by
  refine ⟨rfl, rfl, rfl, by simp, fun i hi => ?_, fun i hi => ?_, fun i hi => ?_⟩
  all_goals
    match i, hi with
    | 0, _ => first | exact hn1.alloc _ | exact h1 | simp [go_sem]
    | 1, _ => first | exact hn2.alloc _ | exact h2 | simp [go_sem]

/-- 'Total(m, n)'. -/
theorem total2a (v1 v2 : Value) (bs cs : List Nat) (xs ys : List Int) (d k e : Nat) (w : World) (t : TypeId) (hn1 : NumS w 0 v1 bs) (hn2 : NumS w 0 v2 cs) (h1 : IsL bs xs) (h2 : IsL cs ys) (p1 : Pa xs d k e) (p2 : Pa ys d k e) (hk : k ≤ 8) (he : k + 1 + e ≤ 2080) :
    Calls Try.prog 34 #[.slice (some ⟨w.heap.size, 0, none⟩) 2 2] (w.alloc (.cells #[v1, v2] t)) fun e' w' => ∃ v' ds, e' = .returned v' ∧ NumS w' 0 v' ds ∧ IsL ds (sumAll (xs ++ ys)) ∧ Below (w.alloc (.cells #[v1, v2] t)).heap.size (w.alloc (.cells #[v1, v2] t)) w' := by
  have ef : [xs, ys].flatten = xs ++ ys := by simp
  have hp := p1.append p2
  have l1 := len_of p1.len (by omega)
  have l2 := len_of p2.len (by omega)
  rw [← h1.length] at l1
  rw [← h2.length] at l2
  have := total_any w.heap.size 2 2 [v1, v2] [bs, cs] [xs, ys] _ (w.alloc (.cells #[v1, v2] t)) (by decide) (terms2 hn1 hn2 h1 h2 t) (by simp; omega) (Nat.le_refl _) (by rw [ef]; exact lim_of hp.abs he)
  refine this.mono ?_
  rintro e' w' ⟨v', ds, rfl, hn, hi, hb⟩
  rw [ef] at hi
  exact ⟨v', ds, rfl, hn.base (Nat.zero_le _), hi, hb⟩

theorem total2 (v1 v2 : Value) (bs cs : List Nat) (xs ys : List Int) (d k e : Nat) (w : World) (t : TypeId) (hn1 : NumS w 0 v1 bs) (hn2 : NumS w 0 v2 cs) (h1 : IsL bs xs) (h2 : IsL cs ys) (p1 : Pa xs d k e) (p2 : Pa ys d k e) (hk : k ≤ 8) (he : k + 1 + e ≤ 2080) :
    Calls Try.prog 34 #[.slice (some ⟨w.heap.size, 0, none⟩) 2 2] (w.alloc (.cells #[v1, v2] t)) fun e' w' => ∃ v' ds, e' = .returned v' ∧ NumS w' 0 v' ds ∧ IsL ds (sumAll (xs ++ ys)) ∧ Below w.heap.size w w' := by
  refine (total2a v1 v2 bs cs xs ys d k e w t hn1 hn2 h1 h2 p1 p2 hk he).mono ?_
  rintro e' w' ⟨v', ds, rfl, hn, hi, hb⟩
  exact ⟨v', ds, rfl, hn, hi, ((Below.refl _ w).alloc (Nat.le_refl _) _).trans (hb.mono (by simp))⟩

set_option maxHeartbeats 4000000 in
set_option maxRecDepth 100000 in
theorem turn_any (ax ay bx by' cx cy : Nat) (AX AY BX BY CX CY : Int) (w : World) (hax : Co ax AX) (hay : Co ay AY) (hbx : Co bx BX) (hby : Co by' BY) (hcx : Co cx CX) (hcy : Co cy CY) :
    Calls Try.prog 31 #[.agg #[.float .f64 ax, .float .f64 ay], .agg #[.float .f64 bx, .float .f64 by'], .agg #[.float .f64 cx, .float .f64 cy]] w fun e w' => ∃ v' ds, e = .returned v' ∧ NumS w' 0 v' ds ∧
      IsL ds (sumAll (sumAll (prodParts (sumAll [BX, -AX]) (sumAll [CY, -AY])) ++ (sumAll (prodParts (sumAll [BY, -AY]) (sumAll [CX, -AX]))).map (- ·))) ∧ Below w.heap.size w w' := by
  go_enter Try.func31, Try.ntmps31
  go_wp2
  generalize hW : World.alloc (World.alloc (World.alloc w _) _) _ = W
  have hWs : W.heap.size = w.heap.size + 3 := by subst hW; simp
  have hWb : Below w.heap.size w W := by
    subst hW
    exact ((((Below.refl _ w).alloc (Nat.le_refl _) _).alloc (by simp) _).alloc (by simp; omega) _)
  have KS : ∀ w', Below W.heap.size W w' → (w'.cell? ⟨w.heap.size, 0, none⟩ = some (.float .f64 ax) ∧ w'.cell? ⟨w.heap.size, 1, none⟩ = some (.float .f64 ay) ∧ w'.cell? ⟨w.heap.size + 1, 0, none⟩ = some (.float .f64 bx) ∧ w'.cell? ⟨w.heap.size + 1, 1, none⟩ = some (.float .f64 by') ∧ w'.cell? ⟨w.heap.size + 1 + 1, 0, none⟩ = some (.float .f64 cx) ∧ w'.cell? ⟨w.heap.size + 1 + 1, 1, none⟩ = some (.float .f64 cy)) ∧ Below W.heap.size W w' := by
    intro w' hb
    obtain ⟨hc, _⟩ := bcell hb
    refine ⟨⟨?_, ?_, ?_, ?_, ?_, ?_⟩, hb⟩
    all_goals rw [hc _ _ (by omega)]; subst hW; simp [go_sem]
  clear hW hWs
  go_cut [7] (fun v7 wc => ∃ ds, NumS wc 0 v7 ds ∧ IsL ds (sumAll (prodParts (sumAll [BX, -AX]) (sumAll [CY, -AY]))) ∧ Below W.heap.size W wc)
  case first =>
    go_region_held3 (fun w' => (w'.cell? ⟨w.heap.size, 0, none⟩ = some (.float .f64 ax) ∧ w'.cell? ⟨w.heap.size, 1, none⟩ = some (.float .f64 ay) ∧ w'.cell? ⟨w.heap.size + 1, 0, none⟩ = some (.float .f64 bx) ∧ w'.cell? ⟨w.heap.size + 1, 1, none⟩ = some (.float .f64 by') ∧ w'.cell? ⟨w.heap.size + 1 + 1, 0, none⟩ = some (.float .f64 cx) ∧ w'.cell? ⟨w.heap.size + 1 + 1, 1, none⟩ = some (.float .f64 cy)) ∧ Below W.heap.size W w') (first | exact KS _ (Below.refl _ _).drew | (go_split_ands; first | exact KS _ (below_step hb3 (by assumption)) | exact KS _ (below_step hb2 (by assumption)) | exact KS _ (below_step hb1 (by assumption)) | exact KS _ (Below.alloc (by assumption) (Below.size (by assumption)) _) | exact KS _ (Below.drew (by assumption)) | exact KS _ (by assumption))) (first | (go_at_call 45; refine (sum2 _ bx (ax ^^^ 9223372036854775808) BX (-AX) _ ?_ ?_ ?_ hbx hax.neg).mono ?_; (focus first | (simp [go_sem]; done) | (rw [(bcell hb1).1 _ _ (by simp <;> omega)]; simp [go_sem]; done)); (focus first | (simp [go_sem]; done) | (rw [(bcell hb1).1 _ _ (by simp <;> omega)]; simp [go_sem]; done)); (focus first | (simp; done) | (simp; omega) | (have := hb1.size; simp at this; omega) | (have := hb1.size; simp at this ⊢; omega)); rintro e w1 ⟨v1, cs1, rfl, hn1, hi1, hb1⟩) | (go_at_call 45; refine (sum2 _ cy (ay ^^^ 9223372036854775808) CY (-AY) _ ?_ ?_ ?_ hcy hay.neg).mono ?_; (focus first | (simp [go_sem]; done) | (rw [(bcell hb1).1 _ _ (by simp <;> omega)]; simp [go_sem]; done)); (focus first | (simp [go_sem]; done) | (rw [(bcell hb1).1 _ _ (by simp <;> omega)]; simp [go_sem]; done)); (focus first | (simp; done) | (simp; omega) | (have := hb1.size; simp at this; omega) | (have := hb1.size; simp at this ⊢; omega)); rintro e w2 ⟨v2, cs2, rfl, hn2, hi2, hb2⟩) | (go_at_call 44; refine (prod2 _ _ 0 0 _ _ _ _ _ ?_ (hn2.base (Nat.zero_le _)) hi1 hi2 (nm_two hbx hax.neg) (nm_two hcy hay.neg)).mono ?_; (focus first | exact (hn1.kept hb2).base (Nat.zero_le _) | exact (kept_alloc hn1 hb2).base (Nat.zero_le _)); rintro e w3 ⟨v3, cs3, rfl, hn3, hi3, hb3⟩))
    all_goals
      go_wp2_with fail
      go_meet
      exact ⟨cs3, hn3.base (Nat.zero_le _), hi3, by go_split_ands; assumption⟩
  case rest =>
    obtain ⟨dl, hnl, hil, hbl⟩ := hcut
    have KT : ∀ w', Below wc.heap.size wc w' → (w'.cell? ⟨w.heap.size, 0, none⟩ = some (.float .f64 ax) ∧ w'.cell? ⟨w.heap.size, 1, none⟩ = some (.float .f64 ay) ∧ w'.cell? ⟨w.heap.size + 1, 0, none⟩ = some (.float .f64 bx) ∧ w'.cell? ⟨w.heap.size + 1, 1, none⟩ = some (.float .f64 by') ∧ w'.cell? ⟨w.heap.size + 1 + 1, 0, none⟩ = some (.float .f64 cx) ∧ w'.cell? ⟨w.heap.size + 1 + 1, 1, none⟩ = some (.float .f64 cy)) ∧ Below wc.heap.size wc w' := fun w' h => ⟨(KS w' (below_step h hbl)).1, h⟩
    clear KS
    have hT0 := KT wc (Below.refl _ _)
    go_wp2
    go_cut [8] (fun v8 wd => ∃ ds, NumS wd 0 v8 ds ∧ IsL ds (sumAll (prodParts (sumAll [BY, -AY]) (sumAll [CX, -AX]))) ∧ Below wc.heap.size wc wd)
    case first =>
      go_region_held3 (fun w' => (w'.cell? ⟨w.heap.size, 0, none⟩ = some (.float .f64 ax) ∧ w'.cell? ⟨w.heap.size, 1, none⟩ = some (.float .f64 ay) ∧ w'.cell? ⟨w.heap.size + 1, 0, none⟩ = some (.float .f64 bx) ∧ w'.cell? ⟨w.heap.size + 1, 1, none⟩ = some (.float .f64 by') ∧ w'.cell? ⟨w.heap.size + 1 + 1, 0, none⟩ = some (.float .f64 cx) ∧ w'.cell? ⟨w.heap.size + 1 + 1, 1, none⟩ = some (.float .f64 cy)) ∧ Below wc.heap.size wc w') (first | exact KT _ (Below.refl _ _).drew | (go_split_ands; first | exact KT _ (below_step hb3 (by assumption)) | exact KT _ (below_step hb2 (by assumption)) | exact KT _ (below_step hb1 (by assumption)) | exact KT _ (Below.alloc (by assumption) (Below.size (by assumption)) _) | exact KT _ (Below.drew (by assumption)) | exact KT _ (by assumption))) (first | (go_at_call 45; refine (sum2 _ by' (ay ^^^ 9223372036854775808) BY (-AY) _ ?_ ?_ ?_ hby hay.neg).mono ?_; (focus first | (simp [go_sem]; done) | (rw [(bcell hb1).1 _ _ (by simp <;> omega)]; simp [go_sem]; done)); (focus first | (simp [go_sem]; done) | (rw [(bcell hb1).1 _ _ (by simp <;> omega)]; simp [go_sem]; done)); (focus first | (simp; done) | (simp; omega) | (have := hb1.size; simp at this; omega) | (have := hb1.size; simp at this ⊢; omega)); rintro e w1 ⟨v1, cs1, rfl, hn1, hi1, hb1⟩) | (go_at_call 45; refine (sum2 _ cx (ax ^^^ 9223372036854775808) CX (-AX) _ ?_ ?_ ?_ hcx hax.neg).mono ?_; (focus first | (simp [go_sem]; done) | (rw [(bcell hb1).1 _ _ (by simp <;> omega)]; simp [go_sem]; done)); (focus first | (simp [go_sem]; done) | (rw [(bcell hb1).1 _ _ (by simp <;> omega)]; simp [go_sem]; done)); (focus first | (simp; done) | (simp; omega) | (have := hb1.size; simp at this; omega) | (have := hb1.size; simp at this ⊢; omega)); rintro e w2 ⟨v2, cs2, rfl, hn2, hi2, hb2⟩) | (go_at_call 44; refine (prod2 _ _ 0 0 _ _ _ _ _ ?_ (hn2.base (Nat.zero_le _)) hi1 hi2 (nm_two hby hay.neg) (nm_two hcx hax.neg)).mono ?_; (focus first | exact (hn1.kept hb2).base (Nat.zero_le _) | exact (kept_alloc hn1 hb2).base (Nat.zero_le _)); rintro e w3 ⟨v3, cs3, rfl, hn3, hi3, hb3⟩))
      all_goals
        go_wp2_with fail
        go_meet
        exact ⟨cs3, hn3.base (Nat.zero_le _), hi3, by go_split_ands; assumption⟩
    case rest =>
      obtain ⟨dr, hnr, hir, hbr⟩ := hcut
      have pl : Nm (sumAll (prodParts (sumAll [BX, -AX]) (sumAll [CY, -AY]))) 874 3 1283 := ((nm_two hbx hax.neg).prod (nm_two hcy hay.neg) (by decide) (by decide)).sum
      have pr : Nm (sumAll (prodParts (sumAll [BY, -AY]) (sumAll [CX, -AX]))) 874 3 1283 := ((nm_two hby hay.neg).prod (nm_two hcx hax.neg) (by decide) (by decide)).sum
      have hnl' := hnl.kept hbr
      have hlr : dr.length ≤ 1000000 := by have := len_of pr.len (by decide); rw [← hir.length] at this; omega
      have HP : Hid (Pa (sumAll (prodParts (sumAll [BX, -AX]) (sumAll [CY, -AY]))) 874 3 1283 ∧ Pa ((sumAll (prodParts (sumAll [BY, -AY]) (sumAll [CX, -AX]))).map (- ·)) 874 3 1283) := ⟨pl.toPa, pr.toPa.neg⟩
      have hin := negs_is hir
      clear pl pr hnl KT hT0
      obtain ⟨g7, c7, hv7, _, _, _⟩ := hnl'.cases
      subst hv7
      go_wp2_with (first | (go_at_call 35; refine (negative_any _ 0 dr _ hnr.1 hlr).mono ?_; rintro e w4 ⟨v4, rfl, hn4, hb4⟩; have hn7 := hnl'.kept hb4; have hn4' := hn4.base (Nat.zero_le _); obtain ⟨g4, c4, hv4, _, _, _⟩ := hn4.cases; subst hv4) | (go_at_call 34; go_must (refine (total2 _ _ _ _ _ _ 874 3 1283 _ 70 hn7 hn4' hil hin HP.out.1 HP.out.2 (by decide) (by decide)).mono ?_; rintro e w5 ⟨v5, cs5, rfl, hn5, hi5, hb5⟩)))
      go_ret
      exact ⟨v5, cs5, rfl, hn5, hi5, hWb.trans ((below_step hb5 (below_step hb4 (below_step hbr hbl))).mono hWb.size)⟩

end Go.Proofs.Ytleebikdnjbieaa
