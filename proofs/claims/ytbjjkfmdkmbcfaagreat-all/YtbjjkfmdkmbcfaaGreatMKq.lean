import Derived.Test.YtbjjkfmdkmbcfaaGreatMOe
import Derived.Deep.RegionHeld3
namespace Go.Proofs.YtbjjkfmdkmbcfaaGreat
open Go.RowKit
open PlRd

attribute [local go_sem ↓] Go.wp_at_zero Go.wp_at_succ

set_option maxHeartbeats 8000000 in
set_option maxRecDepth 100000 in
theorem circle_ok (ax ay bx by' cx cy dx dy : Nat) (w : World) (h64 : ∀ p ∈ [(ax, ay), (bx, by'), (cx, cy), (dx, dy)], p.1 < 2 ^ 64 ∧ p.2 < 2 ^ 64) (hok : okPts [(ax, ay), (bx, by'), (cx, cy), (dx, dy)] = true) :
    Calls Tryz.prog 18 #[.agg #[.int .u64 ax, .int .u64 ay], .agg #[.int .u64 bx, .int .u64 by'], .agg #[.int .u64 cx, .int .u64 cy], .agg #[.int .u64 dx, .int .u64 dy]] w fun e w' => Below w.heap.size w w' ∧ e = .returned (.tuple #[.int .i64 (sgn (circI (valB ax - valB dx) (valB ay - valB dy) (valB bx - valB dx) (valB by' - valB dy) (valB cx - valB dx) (valB cy - valB dy))), .int .i64 0]) := by
  obtain ⟨⟨hax, hay⟩, ⟨hbx, hby⟩, ⟨hcx, hcy⟩, ⟨hdx, hdy⟩⟩ := cos4_of_ok hok
  obtain ⟨XA, hXA⟩ : ∃ X, X = valB ax - valB dx := ⟨_, rfl⟩
  obtain ⟨YA, hYA⟩ : ∃ X, X = valB ay - valB dy := ⟨_, rfl⟩
  obtain ⟨XB, hXB⟩ : ∃ X, X = valB bx - valB dx := ⟨_, rfl⟩
  obtain ⟨YB, hYB⟩ : ∃ X, X = valB by' - valB dy := ⟨_, rfl⟩
  obtain ⟨XC, hXC⟩ : ∃ X, X = valB cx - valB dx := ⟨_, rfl⟩
  obtain ⟨YC, hYC⟩ : ∃ X, X = valB cy - valB dy := ⟨_, rfl⟩
  rw [← hXA, ← hYA, ← hXB, ← hYB, ← hXC, ← hYC]
  have HWA : Hid (∀ V, Calls Tryz.prog 38 #[.agg #[.float .f64 dx, .float .f64 dy], .agg #[.float .f64 ax, .float .f64 ay]] V fun e w' => ∃ v1 v2, e = .returned (.agg #[v1, v2]) ∧ Nv w' v1 0 XA 974 1 1176 ∧ Nv w' v2 0 YA 974 1 1176 ∧ Below V.heap.size V w') := fun V => by rw [hXA, hYA]; exact wayFrom_any dx dy ax ay _ _ _ _ V hdx hdy hax hay
  have HWB : Hid (∀ V, Calls Tryz.prog 38 #[.agg #[.float .f64 dx, .float .f64 dy], .agg #[.float .f64 bx, .float .f64 by']] V fun e w' => ∃ v1 v2, e = .returned (.agg #[v1, v2]) ∧ Nv w' v1 0 XB 974 1 1176 ∧ Nv w' v2 0 YB 974 1 1176 ∧ Below V.heap.size V w') := fun V => by rw [hXB, hYB]; exact wayFrom_any dx dy bx by' _ _ _ _ V hdx hdy hbx hby
  have HWC : Hid (∀ V, Calls Tryz.prog 38 #[.agg #[.float .f64 dx, .float .f64 dy], .agg #[.float .f64 cx, .float .f64 cy]] V fun e w' => ∃ v1 v2, e = .returned (.agg #[v1, v2]) ∧ Nv w' v1 0 XC 974 1 1176 ∧ Nv w' v2 0 YC 974 1 1176 ∧ Below V.heap.size V w') := fun V => by rw [hXC, hYC]; exact wayFrom_any dx dy cx cy _ _ _ _ V hdx hdy hcx hcy
  clear hXA hYA hXB hYB hXC hYC hax hay hbx hby hcx hcy hdx hdy
  go_enter Tryz.func18, Tryz.ntmps18
  go_wp2_with (go_at_call 35; go_must (refine (spots4_ok _ ax ay bx by' cx cy dx dy _ h64 (by simp [go_sem]) (by simp [go_sem]) (by simp [go_sem]) (by simp [go_sem]) (by simp [go_sem]) (by simp [go_sem]) (by simp [go_sem]) (by simp [go_sem]) (by simp) hok).mono ?_; rintro e W ⟨hb, rfl, hcs, hG⟩))
  have hw : Below w.heap.size w W := by
    refine Below.trans ?_ (hb.mono (by simp; omega))
    repeat (first | exact Below.refl _ _ | refine Below.drew ?_ | refine Below.alloc ?_ (by simp <;> omega) _)
  simp only [World.size_alloc] at hcs hG
  have KS : ∀ w', Below W.heap.size W w' → (w'.cell? ⟨w.heap.size + 1 + 1 + 1 + 1 + 1, 0, none⟩ = some (.float .f64 ax) ∧ w'.cell? ⟨w.heap.size + 1 + 1 + 1 + 1 + 1, 1, none⟩ = some (.float .f64 ay) ∧ w'.cell? ⟨w.heap.size + 1 + 1 + 1 + 1 + 1, 2, none⟩ = some (.float .f64 bx) ∧ w'.cell? ⟨w.heap.size + 1 + 1 + 1 + 1 + 1, 3, none⟩ = some (.float .f64 by') ∧ w'.cell? ⟨w.heap.size + 1 + 1 + 1 + 1 + 1, 4, none⟩ = some (.float .f64 cx) ∧ w'.cell? ⟨w.heap.size + 1 + 1 + 1 + 1 + 1, 5, none⟩ = some (.float .f64 cy) ∧ w'.cell? ⟨w.heap.size + 1 + 1 + 1 + 1 + 1, 6, none⟩ = some (.float .f64 dx) ∧ w'.cell? ⟨w.heap.size + 1 + 1 + 1 + 1 + 1, 7, none⟩ = some (.float .f64 dy)) := by
    intro w' h
    obtain ⟨hc, _⟩ := bcell h
    simp only [hc _ _ hG]
    exact hcs
  have hS0 := KS W (Below.refl _ _)
  clear hb hcs
  go_cut [12, 13, 14] (fun v12 v13 v14 wc => ∃ (p q r : Nat) (u1 u2 v1 v2 s1 s2 : Value), v12 = .pointer (some ⟨p, 0, none⟩) ∧ v13 = .pointer (some ⟨q, 0, none⟩) ∧ v14 = .pointer (some ⟨r, 0, none⟩) ∧ WayAt wc p u1 u2 XA YA ∧ WayAt wc q v1 v2 XB YB ∧ WayAt wc r s1 s2 XC YC ∧ Below W.heap.size W wc)
  case first =>
    refine wp_region_noPanic ?_
    refine circ_region (w.heap.size + 1 + 1 + 1 + 1 + 1) _ _ _ _ _ _ _ _ _ _ _ _ _ _ _ _ _ _ _ _ _ _ _ ax ay bx by' cx cy dx dy W _ (fun _ _ _ _ _ h => h) KS (circ_states (w.heap.size + 1 + 1 + 1 + 1 + 1) _ _ _ _ _ _ _ _ _ _ _ _ _ _ _ _ _ _ _ _ _ _ _ ax ay bx by' cx cy dx dy XA YA XB YB XC YC W _ KS HWA HWB HWC ?_)
    intro p q r ga1 na1 ca1 gb1 nb1 cb1 ga2 na2 ca2 gb2 nb2 cb2 ga3 na3 ca3 gb3 nb3 cb3 y h1 h2 h3 h4
    refine NoPanic.normal ?_
    dsimp only
    go_wp2_with fail
    go_meet
    exact ⟨p, q, r, _, _, _, _, _, _, rfl, rfl, rfl, h1, h2, h3, h4⟩
  case rest =>
    obtain ⟨p, q, r, u1, u2, v1, v2, s1, s2, hv12, hv13, hv14, HA, HB, HC, hbc⟩ := hcut
    subst hv12 hv13 hv14
    obtain ⟨p0g, p0n, p0c, e1⟩ := HA.nx.form
    obtain ⟨p1g, p1n, p1c, e2⟩ := HA.ny.form
    obtain ⟨q0g, q0n, q0c, e3⟩ := HB.nx.form
    obtain ⟨q1g, q1n, q1c, e4⟩ := HB.ny.form
    obtain ⟨r0g, r0n, r0c, e5⟩ := HC.nx.form
    obtain ⟨r1g, r1n, r1c, e6⟩ := HC.ny.form
    subst e1 e2 e3 e4 e5 e6
    have KT : ∀ w', Below wc.heap.size wc w' → (w'.cell? ⟨p, 0, none⟩ = some (.slice (some ⟨p0g, 0, none⟩) p0n p0c) ∧ w'.cell? ⟨p, 1, none⟩ = some (.slice (some ⟨p1g, 0, none⟩) p1n p1c) ∧ w'.cell? ⟨q, 0, none⟩ = some (.slice (some ⟨q0g, 0, none⟩) q0n q0c) ∧ w'.cell? ⟨q, 1, none⟩ = some (.slice (some ⟨q1g, 0, none⟩) q1n q1c) ∧ w'.cell? ⟨r, 0, none⟩ = some (.slice (some ⟨r0g, 0, none⟩) r0n r0c) ∧ w'.cell? ⟨r, 1, none⟩ = some (.slice (some ⟨r1g, 0, none⟩) r1n r1c)) := fun w' hb => ⟨(HA.kept hb).cs.1, (HA.kept hb).cs.2, (HB.kept hb).cs.1, (HB.kept hb).cs.2, (HC.kept hb).cs.1, (HC.kept hb).cs.2⟩
    have hT0 := KT wc (Below.refl _ _)
    clear KS hS0 HWA HWB HWC
    go_wp2_with fail
    go_region_held3 (fun w' : World => (w'.cell? ⟨p, 0, none⟩ = some (.slice (some ⟨p0g, 0, none⟩) p0n p0c) ∧ w'.cell? ⟨p, 1, none⟩ = some (.slice (some ⟨p1g, 0, none⟩) p1n p1c) ∧ w'.cell? ⟨q, 0, none⟩ = some (.slice (some ⟨q0g, 0, none⟩) q0n q0c) ∧ w'.cell? ⟨q, 1, none⟩ = some (.slice (some ⟨q1g, 0, none⟩) q1n q1c) ∧ w'.cell? ⟨r, 0, none⟩ = some (.slice (some ⟨r0g, 0, none⟩) r0n r0c) ∧ w'.cell? ⟨r, 1, none⟩ = some (.slice (some ⟨r1g, 0, none⟩) r1n r1c))) (exact KT _ (by repeat (first | exact hV10 | exact hV9 | exact hV8 | exact hV7 | exact hV6 | exact hV5 | exact hV4 | exact hV3 | exact hV2 | exact hV1 | exact Below.refl _ _ | refine Below.drew ?_ | refine below_alloc _ ?_))) (first | (go_at_call 41; go_must (refine (sign_nv _ 3 _ 674 11 1525 _ hn10 (by decide)).mono ?_; rintro e y11 ⟨rfl, rfl⟩)) | (go_at_call 39; go_must (refine (total3_nv _ _ _ 3 _ _ _ 674 9 1513 _ _ hn3.toPv hn6.toPv hn9.toPv (by decide) (by decide)).mono ?_; rintro e y10 ⟨v10, rfl, hn10, hb10⟩; obtain ⟨g10, n10, c10, hv10⟩ := hn10.form; subst hv10; have hV10 : Below wc.heap.size wc y10 := below_step hb10 (by repeat (first | exact hV9 | exact hV8 | exact hV7 | exact hV6 | exact hV5 | exact hV4 | exact hV3 | exact hV2 | exact hV1 | exact Below.refl _ _ | refine Below.drew ?_ | refine below_alloc _ ?_)))) | (go_at_call 42; have gg := hb8; go_must (refine (prod4_nv _ _ _ _ _ hn7 hn8).mono ?_; rintro e y9 ⟨v9, rfl, hn9, hb9⟩; obtain ⟨g9, n9, c9, hv9⟩ := hn9.form; subst hv9; have hV9 : Below wc.heap.size wc y9 := below_step hb9 (by repeat (first | exact hV8 | exact hV7 | exact hV6 | exact hV5 | exact hV4 | exact hV3 | exact hV2 | exact hV1 | exact Below.refl _ _ | refine Below.drew ?_ | refine below_alloc _ ?_)); replace hn3 := hn3.kept hb9; replace hn6 := hn6.kept hb9)) | (go_at_call 43; have gg := hb7; go_must (refine (cross_any _ _ _ _ XA YA XB YB _ (HA.kept (by repeat (first | exact hV7 | exact hV6 | exact hV5 | exact hV4 | exact hV3 | exact hV2 | exact hV1 | exact Below.refl _ _ | refine Below.drew ?_ | refine below_alloc _ ?_))).nx (HA.kept (by repeat (first | exact hV7 | exact hV6 | exact hV5 | exact hV4 | exact hV3 | exact hV2 | exact hV1 | exact Below.refl _ _ | refine Below.drew ?_ | refine below_alloc _ ?_))).ny (HB.kept (by repeat (first | exact hV7 | exact hV6 | exact hV5 | exact hV4 | exact hV3 | exact hV2 | exact hV1 | exact Below.refl _ _ | refine Below.drew ?_ | refine below_alloc _ ?_))).nx (HB.kept (by repeat (first | exact hV7 | exact hV6 | exact hV5 | exact hV4 | exact hV3 | exact hV2 | exact hV1 | exact Below.refl _ _ | refine Below.drew ?_ | refine below_alloc _ ?_))).ny).mono ?_; rintro e y8 ⟨v8, rfl, hn8, hb8⟩; obtain ⟨g8, n8, c8, hv8⟩ := hn8.form; subst hv8; have hV8 : Below wc.heap.size wc y8 := below_step hb8 (by repeat (first | exact hV7 | exact hV6 | exact hV5 | exact hV4 | exact hV3 | exact hV2 | exact hV1 | exact Below.refl _ _ | refine Below.drew ?_ | refine below_alloc _ ?_)); replace hn3 := hn3.kept hb8; replace hn6 := hn6.kept hb8; replace hn7 := hn7.kept hb8)) | (go_at_call 37; have gg := hb6; go_must (refine (length2_any _ _ XC YC _ (HC.kept (by repeat (first | exact hV6 | exact hV5 | exact hV4 | exact hV3 | exact hV2 | exact hV1 | exact Below.refl _ _ | refine Below.drew ?_ | refine below_alloc _ ?_))).nx (HC.kept (by repeat (first | exact hV6 | exact hV5 | exact hV4 | exact hV3 | exact hV2 | exact hV1 | exact Below.refl _ _ | refine Below.drew ?_ | refine below_alloc _ ?_))).ny).mono ?_; rintro e y7 ⟨v7, rfl, hn7, hb7⟩; obtain ⟨g7, n7, c7, hv7⟩ := hn7.form; subst hv7; have hV7 : Below wc.heap.size wc y7 := below_step hb7 (by repeat (first | exact hV6 | exact hV5 | exact hV4 | exact hV3 | exact hV2 | exact hV1 | exact Below.refl _ _ | refine Below.drew ?_ | refine below_alloc _ ?_)); replace hn3 := hn3.kept hb7; replace hn6 := hn6.kept hb7)) | (go_at_call 42; have gg := hb5; go_must (refine (prod4_nv _ _ _ _ _ hn4 hn5).mono ?_; rintro e y6 ⟨v6, rfl, hn6, hb6⟩; obtain ⟨g6, n6, c6, hv6⟩ := hn6.form; subst hv6; have hV6 : Below wc.heap.size wc y6 := below_step hb6 (by repeat (first | exact hV5 | exact hV4 | exact hV3 | exact hV2 | exact hV1 | exact Below.refl _ _ | refine Below.drew ?_ | refine below_alloc _ ?_)); replace hn3 := hn3.kept hb6)) | (go_at_call 43; have gg := hb4; go_must (refine (cross_any _ _ _ _ XC YC XA YA _ (HC.kept (by repeat (first | exact hV4 | exact hV3 | exact hV2 | exact hV1 | exact Below.refl _ _ | refine Below.drew ?_ | refine below_alloc _ ?_))).nx (HC.kept (by repeat (first | exact hV4 | exact hV3 | exact hV2 | exact hV1 | exact Below.refl _ _ | refine Below.drew ?_ | refine below_alloc _ ?_))).ny (HA.kept (by repeat (first | exact hV4 | exact hV3 | exact hV2 | exact hV1 | exact Below.refl _ _ | refine Below.drew ?_ | refine below_alloc _ ?_))).nx (HA.kept (by repeat (first | exact hV4 | exact hV3 | exact hV2 | exact hV1 | exact Below.refl _ _ | refine Below.drew ?_ | refine below_alloc _ ?_))).ny).mono ?_; rintro e y5 ⟨v5, rfl, hn5, hb5⟩; obtain ⟨g5, n5, c5, hv5⟩ := hn5.form; subst hv5; have hV5 : Below wc.heap.size wc y5 := below_step hb5 (by repeat (first | exact hV4 | exact hV3 | exact hV2 | exact hV1 | exact Below.refl _ _ | refine Below.drew ?_ | refine below_alloc _ ?_)); replace hn3 := hn3.kept hb5; replace hn4 := hn4.kept hb5)) | (go_at_call 37; have gg := hb3; go_must (refine (length2_any _ _ XB YB _ (HB.kept (by repeat (first | exact hV3 | exact hV2 | exact hV1 | exact Below.refl _ _ | refine Below.drew ?_ | refine below_alloc _ ?_))).nx (HB.kept (by repeat (first | exact hV3 | exact hV2 | exact hV1 | exact Below.refl _ _ | refine Below.drew ?_ | refine below_alloc _ ?_))).ny).mono ?_; rintro e y4 ⟨v4, rfl, hn4, hb4⟩; obtain ⟨g4, n4, c4, hv4⟩ := hn4.form; subst hv4; have hV4 : Below wc.heap.size wc y4 := below_step hb4 (by repeat (first | exact hV3 | exact hV2 | exact hV1 | exact Below.refl _ _ | refine Below.drew ?_ | refine below_alloc _ ?_)); replace hn3 := hn3.kept hb4)) | (go_at_call 42; have gg := hb2; go_must (refine (prod4_nv _ _ _ _ _ hn1 hn2).mono ?_; rintro e y3 ⟨v3, rfl, hn3, hb3⟩; obtain ⟨g3, n3, c3, hv3⟩ := hn3.form; subst hv3; have hV3 : Below wc.heap.size wc y3 := below_step hb3 (by repeat (first | exact hV2 | exact hV1 | exact Below.refl _ _ | refine Below.drew ?_ | refine below_alloc _ ?_)))) | (go_at_call 43; have gg := hb1; go_must (refine (cross_any _ _ _ _ XB YB XC YC _ (HB.kept (by repeat (first | exact hV1 | exact Below.refl _ _ | refine Below.drew ?_ | refine below_alloc _ ?_))).nx (HB.kept (by repeat (first | exact hV1 | exact Below.refl _ _ | refine Below.drew ?_ | refine below_alloc _ ?_))).ny (HC.kept (by repeat (first | exact hV1 | exact Below.refl _ _ | refine Below.drew ?_ | refine below_alloc _ ?_))).nx (HC.kept (by repeat (first | exact hV1 | exact Below.refl _ _ | refine Below.drew ?_ | refine below_alloc _ ?_))).ny).mono ?_; rintro e y2 ⟨v2, rfl, hn2, hb2⟩; obtain ⟨g2, n2, c2, hv2⟩ := hn2.form; subst hv2; have hV2 : Below wc.heap.size wc y2 := below_step hb2 (by repeat (first | exact hV1 | exact Below.refl _ _ | refine Below.drew ?_ | refine below_alloc _ ?_)); replace hn1 := hn1.kept hb2)) | (go_at_call 37; go_must (refine (length2_any _ _ XA YA _ (HA.kept (by repeat (first | exact Below.refl _ _ | refine Below.drew ?_ | refine below_alloc _ ?_))).nx (HA.kept (by repeat (first | exact Below.refl _ _ | refine Below.drew ?_ | refine below_alloc _ ?_))).ny).mono ?_; rintro e y1 ⟨v1, rfl, hn1, hb1⟩; obtain ⟨g1, n1, c1, hv1⟩ := hn1.form; subst hv1; have hV1 : Below wc.heap.size wc y1 := below_step hb1 (by repeat (first | exact Below.refl _ _ | refine Below.drew ?_ | refine below_alloc _ ?_)))))
    all_goals
      go_wp2
      go_ret2
      exact ⟨hw.trans ((below_step hV10 hbc).mono hw.size), rfl⟩

end Go.Proofs.YtbjjkfmdkmbcfaaGreat

namespace PlKq
open Go
section
variable {P : Program} {ops : Array Oper} {Q : Exit → Act → World → Prop} {md : Region.Mode} {S : World → Prop} {L : Nat}

/-- Whatever order is picked from here on, and S holds behind every operation that is carried out, but for the last one, number L. -/
def wpAnyK (P : Program) (md : Region.Mode) (ops : Array Oper) (Q : Exit → Act → World → Prop) (S : World → Prop) (L : Nat) : Nat → Array Bool → Act → World → Prop
  | 0, listed, a, w => Region.ready md ops listed = [] ∧ Q .normal a w
  | fuel + 1, listed, a, w =>
    (Region.ready md ops listed = [] → Q .normal a w) ∧
    ∀ i ∈ Region.ready md ops listed, wpOp P ops Q i (fun a' w' => (i ≠ L → S w') ∧ wpAnyK P md ops Q S L fuel (listed.setIfInBounds i true) a' w') a w

theorem wpAny_of_K : ∀ (fuel : Nat) (listed : Array Bool) (a : Act) (w : World), wpAnyK P md ops Q S L fuel listed a w → wpAny P md ops Q fuel listed a w
  | 0, _, _, _, h => h
  | fuel + 1, _, _, _, h => ⟨h.1, fun i hi => wpOp_mono (fun a' w' h' => wpAny_of_K fuel _ a' w' h'.2) (h.2 i hi)⟩

/-- An operation that yields its value in every world that meets S may be taken first, if number L waits for it. -/
theorem wpAnyK_first {i : Nat} {oi : Oper} {v : Value} (hi : ops[i]? = some oi) (hsel : ∀ (j : Nat) (o : Oper) cs b, ops[j]? = some o → o.op ≠ .select cs b)
    (hQ : ∀ c a w, Q (.panic c) (a.put oi.dst v) w → Q (.panic c) a w) (hL : ∀ oL, ops[L]? = some oL → ∃ e ∈ oL.after, Region.binds md e = true ∧ e.on = i) :
    ∀ (fuel : Nat) (listed : Array Bool) (a : Act) (w : World),
      (∀ j oj, ops[j]? = some oj → j ≠ i → listed.getD j true = false → (∀ e ∈ oj.after, Region.binds md e = true → e.on ≠ i) → oi.apart ops oj = true) →
      i ∈ Region.ready md ops listed → YieldsIf P ops S oi v a → S w →
      wpAnyK P md ops Q S L fuel (listed.setIfInBounds i true) (a.put oi.dst v) w → wpAnyK P md ops Q S L (fuel + 1) listed a w := by
  intro fuel
  induction fuel with
  | zero =>
    intro listed a w _ hr hy hS H
    refine ⟨fun h => (by rw [h] at hr; cases hr), fun j hj => ?_⟩
    by_cases hji : j = i
    · subst hji; exact hy.wpOp hi hS ⟨fun _ => hS, H⟩
    · have := ready_mono hj hji
      rw [H.1] at this
      cases this
  | succ fuel ih =>
    intro listed a w hfree hr hy hS H
    refine ⟨fun h => (by rw [h] at hr; cases hr), fun j hj => ?_⟩
    by_cases hji : j = i
    · subst hji; exact hy.wpOp hi hS ⟨fun _ => hS, H⟩
    · have h1 := H.2 j (ready_mono hj hji)
      obtain ⟨hjun, oj, hoj, hall⟩ := mem_ready.1 hj
      have hnot : ∀ e ∈ oj.after, Region.binds md e = true → e.on ≠ i := fun e he hb heq => by
        have h1 := hall e he hb
        have h0 := (mem_ready.1 hr).1
        rw [heq] at h1
        rcases Nat.lt_or_ge i listed.size with h' | h'
        · simp [h'] at h0 h1; rw [h0] at h1; cases h1
        · simp [Array.getElem?_eq_none h'] at h1
      have hjL : j ≠ L := by
        rintro rfl
        obtain ⟨e, he, hb, heq⟩ := hL oj hoj
        exact hnot e he hb heq
      have h2 := wpOp_putIf hoj (hfree j oj hoj hji hjun hnot) (fun cs b => hsel i oi cs b hi) (fun cs b => hsel j oj cs b hoj) hQ hy h1
      have hfree' : ∀ k ok, ops[k]? = some ok → k ≠ i → (listed.setIfInBounds j true).getD k true = false →
          (∀ e ∈ ok.after, Region.binds md e = true → e.on ≠ i) → oi.apart ops ok = true := fun k ok hk hki hun hno => by
        refine hfree k ok hk hki ?_ hno
        by_cases hjk : j = k
        · subst hjk; exact hjun
        · rw [getD_set_ne true hjk] at hun; exact hun
      refine wpOp_mono (fun a' w' h3 => ⟨h3.2.1, ih (listed.setIfInBounds j true) a' w' hfree' (ready_mono hr (Ne.symm hji)) h3.1 (h3.2.1 hjL) ?_⟩) h2
      rw [Array.setIfInBounds_comm _ _ hji]
      exact h3.2.2

theorem wpAnyK_take {i : Nat} {oi : Oper} {v : Value} {fuel : Nat} {listed : Array Bool} {a : Act} {w : World} (hi : ops[i]? = some oi)
    (hs : Region.noSelect ops = true) (hf : Region.free md ops listed i = true) (hr : (Region.ready md ops listed).contains i = true)
    (hL : (match ops[L]? with | some o => o.after.toList.any (fun e => Region.binds md e && e.on == i) | none => true) = true)
    (hQ : ∀ c a w, Q (.panic c) (a.put oi.dst v) w → Q (.panic c) a w) (hy : YieldsIf P ops S oi v a) (hS : S w)
    (h : wpAnyK P md ops Q S L fuel (listed.setIfInBounds i true) (a.put oi.dst v) w) : wpAnyK P md ops Q S L (fuel + 1) listed a w := by
  refine wpAnyK_first hi (Region.noSelect_spec hs) hQ (fun oL ho => ?_) fuel listed a w (Region.free_spec hi hf) (by simpa using hr) hy hS h
  rw [ho] at hL
  simp only [List.any_eq_true, Bool.and_eq_true, beq_iff_eq] at hL
  obtain ⟨e, he, hb, ho2⟩ := hL
  exact ⟨e, by simpa using he, hb, ho2⟩

theorem wpAnyK_step {i : Nat} {o : Oper} {fuel : Nat} {listed : Array Bool} {a : Act} {w : World} (hr : Region.ready md ops listed = [i]) (ho : ops[i]? = some o)
    (h : ∀ K' : Act → World → Prop, Shut (∀ a w, (i ≠ L → S w) → wpAnyK P md ops Q S L fuel (listed.setIfInBounds i true) a w → K' a w) → if Region.wanted o (yielded ops a.tmps) = true then Oper.wp P o a w K' Q else K' (a.put o.dst undef) w) :
    wpAnyK P md ops Q S L (fuel + 1) listed a w := by
  refine ⟨fun h0 => (by rw [hr] at h0; cases h0), fun j hj => ?_⟩
  rw [hr] at hj
  rcases List.mem_singleton.1 hj with rfl
  exact wpOp_step ho (fun K' hK => h K' (fun a w hS hW => hK a w ⟨hS, hW⟩))

theorem wpAnyK_done {listed : Array Bool} {a : Act} {w : World} (hr : Region.ready md ops listed = []) (h : Q .normal a w) :
    ∀ fuel, wpAnyK P md ops Q S L fuel listed a w
  | 0 => ⟨hr, h⟩
  | _ + 1 => ⟨fun _ => h, by rw [hr]; simp⟩

theorem wp_region_K {id : Nat} {a : Act} {w : World} (hm : P.follows .mixedOrders = true)
    (h : wpAnyK P .any ops Q S L ops.size (Array.replicate ops.size false) a w.drew) : (Code.region id ops true).wp P Q a w :=
  wp_region_any hm (wpAny_of_K _ _ _ _ h)

end
end PlKq
