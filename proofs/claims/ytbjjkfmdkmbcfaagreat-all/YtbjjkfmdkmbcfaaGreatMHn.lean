import Derived.Test.YtbjjkfmdkmbcfaaGreatMHm
import Derived.Deep.QuietTactic
import Derived.BigQuiet
namespace Go.Proofs.YtbjjkfmdkmbcfaaGreat
open Go.Shelf Go.RowKit Go.Lib Go.Sort
open HL (cr lx popW chainR)

attribute [local go_sem ↓] Go.wp_at_zero Go.wp_at_succ

theorem trn_cr (a b c : Int × Int) : trn a.1 a.2 b.1 b.2 c.1 c.2 = PlRd.sgn (cr a b c) := rfl
theorem trn_le (a b c : Int × Int) : trn a.1 a.2 b.1 b.2 c.1 c.2 ≤ 0 ↔ cr a b c ≤ 0 := by
  rw [trn_cr]
  unfold PlRd.sgn
  repeat' split
  all_goals omega

theorem CV.push {w wr w1 : World} {v v' : Value} {xs : List Nat} {n x : Nat} {ob : Obj} (h0 : ∀ ob, (wr.alloc ob).ownsRow w.heap.size 3 1 v n (xs.map encN)) (h1 : w1.ownsRow w.heap.size 3 1 v' (n + 1) (xs.map encN ++ [.int .i64 (x : Int)])) (h2 : (wr.alloc ob).grownBy w1 v.ownBlock) (hb : Below w.heap.size w wr) : CV w1 w.heap.size v' (xs ++ [x]) ∧ Below w.heap.size w w1 := by
  have hl : xs.length = n := by
    have := (h0 ob).1
    simpa using this
  refine ⟨?_, ?_⟩
  · unfold CV
    rw [List.map_append, List.length_append, hl]
    exact h1
  · exact (hb.alloc hb.size ob).grown h2 (by simpa using Nat.le_succ_of_le hb.size) fun g hg => ((h0 ob).lt g hg).1

set_option maxHeartbeats 8000000 in
set_option maxRecDepth 100000 in
theorem leftTurns_any (G n c BO co : Nat) (f : Nat → Nat × Nat) (X : Nat → Int × Int) (o : List Nat) (w : World) (_ : n ≤ 100000) (hol : o.length ≤ 100000) (H : SpX w G n f X) (ho : ∀ i ∈ o, i < n) (hO : ∀ j (hj : j < o.length), w.cell? ⟨BO, j, none⟩ = some (encN o[j])) (hBO : BO < w.heap.size) :
    Calls Tryz.prog 67 #[.slice (some ⟨G, 0, none⟩) n c, .slice (some ⟨BO, 0, none⟩) o.length co] w fun e w' => ∃ v, e = .returned v ∧ CV w' w.heap.size v (chainR X [] o).reverse ∧ Below w.heap.size w w' := by
  obtain ⟨i0, hi, hz0, hz1, hz2⟩ := info_parts infoI
  have HX : Hid (SpX w G n f X) := H
  have HO : Hid (∀ j (hj : j < o.length), w.cell? ⟨BO, j, none⟩ = some (encN o[j])) := hO
  have HM : Hid (∀ i ∈ o, i < n) := ho
  clear H hO ho
  go_enter Tryz.func67, Tryz.ntmps67
  go_wp2
  go_loopw [5, 10] (fun sc si wr => ∃ (k : Nat) (s : List Nat), si = .int .i64 k ∧ k ≤ o.length ∧ CV wr w.heap.size sc s.reverse ∧ chainR X [] o = chainR X s (o.drop k) ∧ s.length ≤ k ∧ (∀ i ∈ s, i < n) ∧ Below w.heap.size w wr) (fun _ si _ => o.length - (intOf si).toNat)
  case atStart => exact ⟨0, [], rfl, Nat.zero_le _, World.ownsRow_nil _ _ _ _, by rw [List.drop_zero], Nat.le_refl _, fun i hi => by simp at hi, Below.refl _ _⟩
  case round =>
    obtain ⟨k, s, rfl, hk, hC, hch, hsl, hsm, hbel⟩ := hrel
    by_cases hlt : k < o.length
    · obtain ⟨x, hx⟩ : ∃ x, x = o[k] := ⟨_, rfl⟩
      have hcx : wr.cell? ⟨BO, k, none⟩ = some (.int .i64 (x : Int)) := by
        rw [hbel.cell (p := ⟨BO, k, none⟩) hBO, HO.out k hlt, hx]
        rfl
      have hxn : x < n := by rw [hx]; exact HM.out _ (List.getElem_mem hlt)
      have HDR : Hid (o.drop k = x :: o.drop (k + 1)) := by rw [hx]; exact (List.drop_eq_getElem_cons hlt)
      have HCH : Hid (chainR X [] o = chainR X s (o.drop k)) := hch
      clear hx hch
      go_wp2_with fail
      go_loopg [5] s.length (fun g s5 wr2 => ∃ s' : List Nat, s'.length ≤ g ∧ CV wr2 w.heap.size s5 s'.reverse ∧ popW X x s' = popW X x s ∧ s'.length ≤ s.length ∧ (∀ i ∈ s', i < n) ∧ Below w.heap.size w wr2)
      case atStart => exact ⟨s, Nat.le_refl _, hC, rfl, Nat.le_refl _, hsm, hbel⟩
      case round =>
        obtain ⟨s', hg', hC1, hpop, hl1, hm1, hb1⟩ := hrel
        clear hC hsm hcx hbel
        rcases s' with _ | ⟨b, _ | ⟨a, r⟩⟩
        · have HPOP : Hid (popW X x s = []) := hpop.symm
          have HMX : Hid (∀ i ∈ x :: ([] : List Nat), i < n) := fun i hi => by simp at hi; omega
          obtain ⟨p, cc, hv⟩ := hC1.form
          subst hv
          simp only [List.reverse_nil, List.length_nil] at hC1 ⊢
          go_wp2_with fail
          have cb : decide ((0 : Int) ≥ 2) = false := by decide
          go_quiet (fail)
          have hb1 : Below w.heap.size w (wr.drewN nq) := ⟨hb1.os, hb1.tape, hb1.output, hb1.size, hb1.block⟩
          have hC1 : CV (wr.drewN nq) w.heap.size (.slice p 0 cc) [] := hC1
          generalize wr.drewN nq = wr at *
          have hsz1 := hb1.size
          have HOo : Hid (∀ ob, (wr.alloc ob).ownsRow w.heap.size 3 1 _ 0 (([] : List Nat).map encN)) := fun ob => hC1.alloc ob
          clear hC1
          go_wp2_with (at_builtin; go_must (refine wpList_append_own _ rfl _ _ 41 rfl w.heap.size 3 i0 (.int .i64 0) 1 8 Tryz.underlying41 hi hz0 hz1 hz2 rfl (by decide) _ 0 (([] : List Nat).map encN) rfl (HOo.out _) ⟨_, 0, none⟩ 1 1 [.int .i64 (x : Int)] rfl rfl (cell_one_new _ _ _) (by intro u hu; simp at hu; subst hu; rfl) (by unfold maxLen; omega) (by omega) (by simp; omega) ?_; intro v' w1 h1 h2 _))
          have hend := CV.push HOo.out h1 h2 hb1
          clear h1 h2 HOo
          go_roundw
          case rel => exact ⟨k + 1, x :: ([] : List Nat), by go_num, by omega, hend.1, by rw [HCH.out, HDR.out, chainR, ← HPOP.out], (by first | (simp; done) | (simp; omega)), HMX.out, hend.2⟩
          case measure => simp [intOf]; omega
        · have HPOP : Hid (popW X x s = [b]) := hpop.symm
          have HMX : Hid (∀ i ∈ x :: [b], i < n) := fun i hi => by
            rcases List.mem_cons.1 hi with e | e
            · omega
            · exact hm1 i e
          obtain ⟨p, cc, hv⟩ := hC1.form
          subst hv
          have hl1' : 1 ≤ s.length := hl1
          simp only [List.reverse_singleton, List.length_singleton] at hC1 ⊢
          go_wp2_with fail
          have cb : decide ((1 : Int) ≥ 2) = false := by decide
          go_quiet (fail)
          have hb1 : Below w.heap.size w (wr.drewN nq) := ⟨hb1.os, hb1.tape, hb1.output, hb1.size, hb1.block⟩
          have hC1 : CV (wr.drewN nq) w.heap.size (.slice p 1 cc) [b] := hC1
          generalize wr.drewN nq = wr at *
          have hsz1 := hb1.size
          have HOo : Hid (∀ ob, (wr.alloc ob).ownsRow w.heap.size 3 1 _ 1 ([b].map encN)) := fun ob => hC1.alloc ob
          clear hC1
          go_wp2_with (at_builtin; go_must (refine wpList_append_own _ rfl _ _ 41 rfl w.heap.size 3 i0 (.int .i64 0) 1 8 Tryz.underlying41 hi hz0 hz1 hz2 rfl (by decide) _ 1 ([b].map encN) rfl (HOo.out _) ⟨_, 0, none⟩ 1 1 [.int .i64 (x : Int)] rfl rfl (cell_one_new _ _ _) (by intro u hu; simp at hu; subst hu; rfl) (by unfold maxLen; omega) (by omega) (by simp; omega) ?_; intro v' w1 h1 h2 _))
          have hend := CV.push HOo.out h1 h2 hb1
          clear h1 h2 HOo
          go_roundw
          case rel => exact ⟨k + 1, x :: [b], by go_num, by omega, hend.1, by rw [HCH.out, HDR.out, chainR, ← HPOP.out], (by first | (simp; done) | (simp; omega)), HMX.out, hend.2⟩
          case measure => simp [intOf]; omega
        · obtain ⟨m, hm⟩ : ∃ m, m = r.length + 2 := ⟨_, rfl⟩
          have hlen : (b :: a :: r).reverse.length = m := by simp [hm]
          have han : a < n := hm1 a (by simp)
          have hbn : b < n := hm1 b (by simp)
          obtain ⟨g0, c0, hv, hbg, hlc, hcm, hcells, htake⟩ := hC1.full (by simp)
          have ca := hcells (m - 2) (by omega)
          have cb := hcells (m - 1) (by omega)
          rw [show (b :: a :: r).reverse[m - 2]'(by omega) = a by simp [hm]] at ca
          rw [show (b :: a :: r).reverse[m - 1]'(by omega) = b by simp [hm]] at cb
          have hta := htake (m - 1) (by omega)
          rw [show (b :: a :: r).reverse.take (m - 1) = (a :: r).reverse by rw [List.reverse_cons, List.take_append_of_le_length (by simp [hm]), List.take_of_length_le (by simp [hm])]] at hta
          clear hcells htake
          subst hv
          rw [hlen] at hC1 hlc ⊢
          unfold encN at ca cb
          have hXr := HX.out.kept hb1
          obtain ⟨qa, xa0, xa1⟩ := hXr.cs a han
          obtain ⟨qb, xb0, xb1⟩ := hXr.cs b hbn
          obtain ⟨qx, xx0, xx1⟩ := hXr.cs x hxn
          have HT : Hid (∀ V, Calls Tryz.prog 36 #[.agg #[.float .f64 (f a).1, .float .f64 (f a).2], .agg #[.float .f64 (f b).1, .float .f64 (f b).2], .agg #[.float .f64 (f x).1, .float .f64 (f x).2]] V fun e w' => e = .returned (.int .i64 (trn (X a).1 (X a).2 (X b).1 (X b).2 (X x).1 (X x).2)) ∧ Below V.heap.size V w') := fun V => turn_cr _ _ _ _ _ _ _ _ _ _ _ _ V xa0 xa1 xb0 xb1 xx0 xx1
          have hGl : G < w.heap.size := HX.out.lt
          clear hXr xa0 xa1 xb0 xb1 xx0 xx1
          obtain ⟨t, ht⟩ : ∃ t, t = trn (X a).1 (X a).2 (X b).1 (X b).2 (X x).1 (X x).2 := ⟨_, rfl⟩
          rw [← ht] at HT
          have HTT : Hid (t ≤ 0 ↔ cr (X a) (X b) (X x) ≤ 0) := by rw [ht]; exact trn_le _ _ _
          clear ht
          generalize (f a).1 = ax at *
          generalize (f a).2 = ay at *
          generalize (f b).1 = bx at *
          generalize (f b).2 = by' at *
          generalize (f x).1 = xx at *
          generalize (f x).2 = xy at *
          have KS : ∀ w', Below wr.heap.size wr w' → (w'.cell? ⟨g0, m - 2, none⟩ = some (.int .i64 (a : Int)) ∧ w'.cell? ⟨g0, m - 1, none⟩ = some (.int .i64 (b : Int)) ∧ (w'.cell? ⟨G, a * 2, none⟩ = some (.float .f64 ax) ∧ w'.cell? ⟨G, a * 2 + 1, none⟩ = some (.float .f64 ay)) ∧ (w'.cell? ⟨G, b * 2, none⟩ = some (.float .f64 bx) ∧ w'.cell? ⟨G, b * 2 + 1, none⟩ = some (.float .f64 by')) ∧ (w'.cell? ⟨G, x * 2, none⟩ = some (.float .f64 xx) ∧ w'.cell? ⟨G, x * 2 + 1, none⟩ = some (.float .f64 xy))) := by
            intro w' hb
            obtain ⟨hc, _⟩ := bcell hb
            have hg0 : g0 < wr.heap.size := by
              have h9 := ca
              unfold World.cell? at h9
              rw [← Nat.not_le]
              intro hle
              rw [Array.getElem?_eq_none hle] at h9
              simp at h9
            have hGw : G < wr.heap.size := by have := hb1.size; omega
            rw [hc _ _ hg0, hc _ _ hg0, hc _ _ hGw, hc _ _ hGw, hc _ _ hGw, hc _ _ hGw, hc _ _ hGw, hc _ _ hGw]
            exact ⟨ca, cb, qa, qb, qx⟩
          have hmb : m ≤ 100000 := by simp at hl1; omega
          have j9 : 2 ≤ m := by omega
          have j10 : decide ((m : Int) ≥ 2) = true := decide_eq_true (by omega)
          have j11 : decide ((2 : Int) ≤ (m : Int)) = true := decide_eq_true (by omega)
          have i1 : (0 : Int) ≤ (m : Int) - 1 := by omega
          have i2 : (m : Int) - 1 < (m : Int) := by omega
          have i3 : ((m : Int) - 1).toNat = m - 1 := by omega
          have i4 : (0 : Int) ≤ (m : Int) - 2 := by omega
          have i5 : (m : Int) - 2 < (m : Int) := by omega
          have i6 : ((m : Int) - 2).toNat = m - 2 := by omega
          have i7 : IntKind.i64.wrap ((m : Int) - 1) = (m : Int) - 1 := by rw [IntKind.wrap_i64]; omega
          have i8 : IntKind.i64.wrap ((m : Int) - 2) = (m : Int) - 2 := by rw [IntKind.wrap_i64]; omega
          have i9 : (2 : Int) ≤ (m : Int) := by omega
          have i10 : (1 : Int) ≤ (m : Int) := by omega
          have i11 : (m : Int) - 1 ≤ (c0 : Int) := by omega
          have i12 : (a : Int) < (n : Int) := by omega
          have i13 : (b : Int) < (n : Int) := by omega
          have i14 : (x : Int) < (n : Int) := by omega
          have HMr : Hid (m = r.length + 2) := hm
          have HLE : Hid ((b :: a :: r).length ≤ s.length) := hl1
          clear hm hlen hl1
          by_cases htl : t ≤ 0
          · go_wp2_with fail
            go_region_held3 (fun w' : World => (w'.cell? ⟨g0, m - 2, none⟩ = some (.int .i64 (a : Int)) ∧ w'.cell? ⟨g0, m - 1, none⟩ = some (.int .i64 (b : Int)) ∧ (w'.cell? ⟨G, a * 2, none⟩ = some (.float .f64 ax) ∧ w'.cell? ⟨G, a * 2 + 1, none⟩ = some (.float .f64 ay)) ∧ (w'.cell? ⟨G, b * 2, none⟩ = some (.float .f64 bx) ∧ w'.cell? ⟨G, b * 2 + 1, none⟩ = some (.float .f64 by')) ∧ (w'.cell? ⟨G, x * 2, none⟩ = some (.float .f64 xx) ∧ w'.cell? ⟨G, x * 2 + 1, none⟩ = some (.float .f64 xy)))) (exact KS _ (by repeat (with_reducible first | refine Below.drew ?_ | exact hw3 | exact Below.refl _ _))) (first | (go_at_call 36; go_must (refine (HT.out _).mono ?_; rintro e w3 ⟨rfl, hb3⟩; have hw3 : Below wr.heap.size wr w3 := below_step hb3 (by repeat (with_reducible first | refine Below.drew ?_ | exact Below.refl _ _)))))
            all_goals
              have hT2 := hta.kept hw3
              have hG2 : r.length + 1 < gk := by have h9 : r.length + 2 ≤ gk := hg'; omega
              go_wp2
              go_roundg (r.length + 1)
              case measure => exact hG2
              case rel => exact ⟨a :: r, Nat.le_refl _, hT2, by rw [← hpop, popW, if_pos (HTT.out.1 htl)], by have h9 := HLE.out; simp at h9 ⊢; omega, fun i hi => hm1 i (List.mem_cons_of_mem _ hi), below_step hw3 hb1⟩
          · have HPOP : Hid (popW X x s = b :: a :: r) := by
              unfold Hid
              rw [← hpop, popW, if_neg (fun h => htl (HTT.out.2 h))]
            have HMX : Hid (∀ i ∈ x :: b :: a :: r, i < n) := fun i hi => by
              rcases List.mem_cons.1 hi with e | e
              · omega
              · exact hm1 i e
            go_wp2_with fail
            go_region_held3 (fun w' : World => (w'.cell? ⟨g0, m - 2, none⟩ = some (.int .i64 (a : Int)) ∧ w'.cell? ⟨g0, m - 1, none⟩ = some (.int .i64 (b : Int)) ∧ (w'.cell? ⟨G, a * 2, none⟩ = some (.float .f64 ax) ∧ w'.cell? ⟨G, a * 2 + 1, none⟩ = some (.float .f64 ay)) ∧ (w'.cell? ⟨G, b * 2, none⟩ = some (.float .f64 bx) ∧ w'.cell? ⟨G, b * 2 + 1, none⟩ = some (.float .f64 by')) ∧ (w'.cell? ⟨G, x * 2, none⟩ = some (.float .f64 xx) ∧ w'.cell? ⟨G, x * 2 + 1, none⟩ = some (.float .f64 xy)))) (exact KS _ (by repeat (with_reducible first | refine Below.drew ?_ | exact hw3 | exact Below.refl _ _))) (first | (go_at_call 36; go_must (refine (HT.out _).mono ?_; rintro e w3 ⟨rfl, hb3⟩; have hw3 : Below wr.heap.size wr w3 := below_step hb3 (by repeat (with_reducible first | refine Below.drew ?_ | exact Below.refl _ _)))))
            all_goals
              have hC2 := CV.ofLen (m := m) (by have := HMr.out; simp; omega) (hC1.kept hw3)
              have hb2 := below_step hw3 hb1
              clear hC1 hb1 KS ca cb qa qb qx hw3 hta hb3 hpop hg'
              rename_i hHeld
              clear hHeld
              have hC1 := hC2
              have hb1 := hb2
              clear hC2 hb2
              have hl9 : m ≤ s.length := by have h9 := HLE.out; have h8 := HMr.out; simp at h9; omega
              generalize w3 = wr at *
              have hsz1 := hb1.size
              have HOo : Hid (∀ ob, (wr.alloc ob).ownsRow w.heap.size 3 1 _ m ((b :: a :: r).reverse.map encN)) := fun ob => hC1.alloc ob
              clear hC1
              go_wp2_with (at_builtin; go_must (refine wpList_append_own _ rfl _ _ 41 rfl w.heap.size 3 i0 (.int .i64 0) 1 8 Tryz.underlying41 hi hz0 hz1 hz2 rfl (by decide) _ m ((b :: a :: r).reverse.map encN) rfl (HOo.out _) ⟨_, 0, none⟩ 1 1 [.int .i64 (x : Int)] rfl rfl (cell_one_new _ _ _) (by intro u hu; simp at hu; subst hu; rfl) (by unfold maxLen; omega) (by omega) (by simp; omega) ?_; intro v' w1 h1 h2 _))
              have hend := CV.push HOo.out h1 h2 hb1
              clear h1 h2 HOo
              go_roundw
              case rel => exact ⟨k + 1, x :: (b :: a :: r), by go_num, by omega, (by rw [List.reverse_cons]; exact hend.1), by rw [HCH.out, HDR.out, chainR, ← HPOP.out], (by have h9 := HLE.out; simp at h9 ⊢; omega), HMX.out, hend.2⟩
              case measure => simp [intOf]; omega
    · have hkn : k = o.length := by omega
      subst hkn
      have HCH : Hid (chainR X [] o = chainR X s (o.drop o.length)) := hch
      obtain ⟨p, cc, hv⟩ := hC.form
      have HC : Hid (CV wr w.heap.size _ s.reverse) := hC
      clear hC hch
      subst hv
      go_wp2
      go_ret
      refine ⟨_, rfl, ?_, hbel⟩
      rw [HCH.out, List.drop_length, chainR]
      exact HC.out

end Go.Proofs.YtbjjkfmdkmbcfaaGreat
