import Derived.Test.YtbjjkfmdkmbcfaaGreatMHh
namespace Go.Proofs.YtbjjkfmdkmbcfaaGreat
open Go.Shelf Go.RowKit Go.Lib Go.Sort

attribute [local go_sem ↓] Go.wp_at_zero Go.wp_at_succ

/-- Are two numbers of the list one point? -/
def eqX (X : Nat → Int × Int) (i j : Nat) : Bool := decide (X i = X j)

theorem kp_one {eq : Nat → Nat → Bool} {d : Array Nat} {j : Nat} (h : j < 1) : kp eq d j = true := by
  have : j = 0 := by omega
  subst this
  rfl

theorem drewN_drew (w : World) (q : Nat) : (w.drewN q).drew = w.drewN (q + 1) := rfl
theorem drewN_add (w : World) (q p : Nat) : (w.drewN q).drewN p = w.drewN (q + p) := by simp [World.drewN, Nat.add_assoc]
theorem drew_one (w : World) : w.drew = w.drewN 1 := rfl
theorem put_drewN (w : World) (blk q p : Nat) (d : Array Nat) : (putRow encN (Sort.ahead w q) blk 0 d).drewN p = putRow encN (Sort.ahead w (q + p)) blk 0 d := by
  simp [putRow, mapBlock, Sort.ahead, World.drewN, Nat.add_assoc]

theorem put_store {w : World} {blk kk u : Nat} {dk : Array Nat} (h : kk < dk.size) : (putRow encN w blk 0 dk).setCell ⟨blk, kk, none⟩ (.int .i64 (u : Int)) = putRow encN w blk 0 (dk.setIfInBounds kk u) := by
  have h9 := putRow_set encN w blk 0 dk kk u h
  rw [Nat.zero_add] at h9
  exact h9

theorem take_lay {dk : Array Nat} {kk : Nat} {zs : List Nat} (h : kk + zs.length ≤ dk.size) : (lay dk kk zs).toList.take kk = dk.toList.take kk := by
  apply List.ext_getElem?
  intro j
  rw [List.getElem?_take, List.getElem?_take]
  by_cases hj : j < kk
  · rw [if_pos hj, if_pos hj, Array.getElem?_toList, Array.getElem?_toList, lay_get? _ _ _ _ h, if_neg (by omega)]
  · rw [if_neg hj, if_neg hj]

set_option maxHeartbeats 8000000 in
set_option maxRecDepth 100000 in
theorem compact_any (blk bx n c : Nat) (X : Nat → Int × Int) (d : Array Nat) (w : World) (hm : d.size ≤ 100000) (hcap : d.size ≤ c) (hlt : ∀ j, j < d.size → d[j]! < n) (hH : Holds encN w blk 0 d)
    (HE : Hid (∀ (V : World) (i j : Nat), (∃ q dk, dk.size = d.size ∧ V = putRow encN (Sort.ahead w q) blk 0 dk) → i < n → j < n → Calls Tryz.prog 83 #[.int .i64 i, .int .i64 j, .pointer (some ⟨bx, 0, none⟩)] V fun e w' => e = .returned (.bool (eqX X i j)) ∧ ∃ q, w' = V.drewN q)) :
    Calls Tryz.prog 82 #[.slice (some ⟨blk, 0, none⟩) d.size c, .func (.func 83) #[] #[.pointer (some ⟨bx, 0, none⟩)]] w fun e w' =>
      ∃ q dk, e = .returned (.slice (some ⟨blk, 0, none⟩) (cpt (eqX X) d d.size).length c) ∧ w' = putRow encN (Sort.ahead w q) blk 0 dk ∧ dk.size = d.size ∧ dk.toList.take (cpt (eqX X) d d.size).length = cpt (eqX X) d d.size := by
  have self : ∀ q, w.drewN q = putRow encN (Sort.ahead w q) blk 0 d := fun q => (putRow_self encN (Sort.ahead w q) blk 0 d (holds_ahead encN w q blk 0 d hH)).symm
  have HS : Hid (∀ q, w.drewN q = putRow encN (Sort.ahead w q) blk 0 d) := self
  have HA : Hid ((∀ j, j < d.size → kp (eqX X) d j = true) → (cpt (eqX X) d d.size).length = d.size ∧ d.toList.take d.size = cpt (eqX X) d d.size) := fun h => by
    rw [cpt_all (eqX X) d d.size (Nat.le_refl _) h]
    exact ⟨by simp, rfl⟩
  have HH : Hid (Holds encN w blk 0 d) := hH
  have HLT : Hid (∀ j, j < d.size → d[j]! < n) := hlt
  clear self hH hlt
  by_cases h2 : d.size < 2
  · go_enter Tryz.func82, Tryz.ntmps82
    go_wp2
    go_ret
    obtain ⟨e1, e2⟩ := HA.out (fun j hj => kp_one (by omega))
    refine ⟨0, d, by rw [e1]; rfl, HS.out 0, rfl, by rw [e1]; exact e2⟩
  · go_enter Tryz.func82, Tryz.ntmps82
    go_wp2
    go_loopg [5] d.size (fun g s3 wr => ∃ k q : Nat, 1 ≤ k ∧ k ≤ d.size ∧ d.size - k ≤ g ∧ s3 = .int .i64 k ∧ wr = w.drewN q ∧ ∀ j, j < k → kp (eqX X) d j = true)
    case atStart => exact ⟨1, 0, Nat.le_refl _, by omega, by omega, rfl, rfl, fun j hj => kp_one hj⟩
    case round =>
      obtain ⟨k, q, hk1, hk, hg, rfl, hwr, hall⟩ := hrel
      by_cases hlt : k < d.size
      · have hwr2 : wr = putRow encN (Sort.ahead w q) blk 0 d := hwr.trans (HS.out q)
        have hHr : Holds encN wr blk 0 d := by rw [hwr2]; exact holds_putRow encN _ blk 0 d d (holds_ahead encN w q blk 0 d HH.out) rfl
        obtain ⟨c1, f1⟩ := hHr k hlt
        obtain ⟨c0, f0⟩ := hHr (k - 1) (by omega)
        have A : Hid (∀ j, j < k → kp (eqX X) d j = true) := hall
        have l1 := HLT.out k hlt
        have l0 := HLT.out (k - 1) (by omega)
        clear hall hHr
        generalize hx : d[k]! = x at c1 l1
        generalize hy : d[k - 1]! = y at c0 l0
        have B : Hid (d[k]! = x ∧ d[k - 1]! = y) := ⟨hx, hy⟩
        clear hx hy
        unfold encN at c1 c0
        rw [Nat.zero_add] at c1 c0 f1 f0
        have hwq : Hid (∀ V, (∃ p, V = wr.drewN p) → ∃ q dk, dk.size = d.size ∧ V = putRow encN (Sort.ahead w q) blk 0 dk) := fun V ⟨p, hp⟩ => ⟨q + p, d, rfl, by rw [hp, hwr2, put_drewN]⟩
        have HC : Hid (∀ V, (∃ p, V = wr.drewN p) → Calls Tryz.prog 83 #[.int .i64 x, .int .i64 y, .pointer (some ⟨bx, 0, none⟩)] V fun e w' => e = .returned (.bool (eqX X x y)) ∧ ∃ q, w' = V.drewN q) := fun V hV => HE.out V x y (hwq.out V hV) l1 l0
        have HW : Hid (wr = w.drewN q ∧ wr = putRow encN (Sort.ahead w q) blk 0 d) := ⟨hwr, hwr2⟩
        clear hwr hwr2 hwq
        obtain ⟨b, hbb⟩ : ∃ b, b = eqX X x y := ⟨_, rfl⟩
        rw [← hbb] at HC
        have HB : Hid (b = eqX X x y) := hbb
        clear hbb
        have i1 : (0 : Int) ≤ (k : Int) - 1 := by omega
        have i2 : (k : Int) - 1 < (d.size : Int) := by omega
        have i3 : ((k : Int) - 1).toNat = k - 1 := by omega
        have i4 : (1 : Int) ≤ (k : Int) := by omega
        have i5 : (k : Int) < (d.size : Int) := by omega
        have i6 : IntKind.i64.wrap ((k : Int) - 1) = (k : Int) - 1 := by rw [IntKind.wrap_i64]; omega
        have i7 : ¬ (k : Int) - 1 < 0 := by omega
        have i8 : ¬ (k : Int) < 1 := by omega
        have i9 : ¬ (d.size : Int) ≤ (k : Int) - 1 := by omega
        have KS : ∀ p, (wr.drewN p).cell? ⟨blk, k, none⟩ = some (.int .i64 x) ∧ (wr.drewN p).cell? ⟨blk, k - 1, none⟩ = some (.int .i64 y) := fun p => ⟨c1, c0⟩
        rcases b with _ | _
        · go_wp2_with fail
          go_region_held3 (fun w' : World => (w'.cell? ⟨blk, k, none⟩ = some (.int .i64 x) ∧ w'.cell? ⟨blk, k - 1, none⟩ = some (.int .i64 y))) (first | exact KS 0 | exact KS 1 | exact KS _) (first | (go_at_call 83; go_must (refine (HC.out _ ⟨1, rfl⟩).mono ?_; rintro e w1 ⟨rfl, p, rfl⟩)))
          all_goals
            go_wp2
            go_roundg (d.size - (k + 1))
            case measure => omega
            case rel =>
              refine ⟨k + 1, q + (1 + p), by omega, by omega, Nat.le_refl _, by go_num, ?_, fun j hj => ?_⟩
              · rw [HW.out.1, drewN_add]
              · by_cases e : j = k
                · subst e
                  exact kp_pos (by rw [B.out.1, B.out.2]; exact HB.out.symm)
                · exact A.out j (by omega)
        · go_wp2_with fail
          go_region_held3 (fun w' : World => (w'.cell? ⟨blk, k, none⟩ = some (.int .i64 x) ∧ w'.cell? ⟨blk, k - 1, none⟩ = some (.int .i64 y))) (first | exact KS 0 | exact KS 1 | exact KS _) (first | (go_at_call 83; go_must (refine (HC.out _ ⟨1, rfl⟩).mono ?_; rintro e w1 ⟨rfl, p, rfl⟩)))
          all_goals
            go_wp2
            clear c0 c1 f0 f1 KS HC i1 i2 i3 i4 i6 i7 i8 i9
            go_loopg [5, 7] d.size (fun g s5 s7 wr2 => ∃ (kk k2 q2 : Nat) (dk : Array Nat), s5 = .int .i64 kk ∧ s7 = .int .i64 k2 ∧ 1 ≤ k2 ∧ k + k2 ≤ d.size ∧ d.size - (k + k2) ≤ g ∧ wr2 = putRow encN (Sort.ahead w q2) blk 0 dk ∧ CI (eqX X) d (k + k2) kk dk)
            case atStart => exact ⟨k, 1, q + (1 + p), d, rfl, rfl, Nat.le_refl _, by omega, by omega, by rw [HW.out.1, drewN_add]; exact HS.out _, CI.start hlt A.out (kp_neg hk1 (by rw [B.out.1, B.out.2]; exact HB.out.symm))⟩
            case round =>
              obtain ⟨kk, k2, q2, dk, rfl, rfl, h1, hle, hg2, hwr2, hI⟩ := hrel
              have hkk := hI.lt
              have hds := hI.size
              have hHk : Holds encN wr blk 0 dk := by rw [hwr2]; exact holds_putRow encN _ blk 0 d dk (holds_ahead encN w q2 blk 0 d HH.out) hds
              by_cases hlt2 : k + k2 < d.size
              · obtain ⟨cm, _⟩ := hHk (k + k2) (by omega)
                obtain ⟨cp, _⟩ := hHk (k + k2 - 1) (by omega)
                obtain ⟨ck, fk⟩ := hHk kk (by omega)
                have lm := HLT.out (k + k2) hlt2
                have lp := HLT.out (k + k2 - 1) (by omega)
                rw [hI.high (k + k2) (by omega), Nat.zero_add] at cm
                rw [hI.high (k + k2 - 1) (by omega), Nat.zero_add, show k + k2 - 1 = k + (k2 - 1) by omega] at cp
                rw [show k + k2 - 1 = k + (k2 - 1) by omega] at lp
                rw [Nat.zero_add] at ck fk
                have I2 : Hid (CI (eqX X) d (k + k2) kk dk) := hI
                have W2 : Hid (wr = putRow encN (Sort.ahead w q2) blk 0 dk) := hwr2
                have hwq : Hid (∀ V, (∃ p, V = wr.drewN p) → ∃ q dk, dk.size = d.size ∧ V = putRow encN (Sort.ahead w q) blk 0 dk) := fun V ⟨p, hp⟩ => ⟨q2 + p, dk, hds, by rw [hp, hwr2, put_drewN]⟩
                clear hHk hI hwr2
                generalize hu : d[k + k2]! = u at cm lm
                generalize hv : d[k + (k2 - 1)]! = v at cp lp
                generalize hoo : dk[kk]! = o at ck
                have C : Hid (d[k + k2]! = u ∧ d[k + (k2 - 1)]! = v) := ⟨hu, hv⟩
                clear hu hv hoo
                unfold encN at cm cp ck
                have HC : Hid (∀ V, (∃ p, V = wr.drewN p) → Calls Tryz.prog 83 #[.int .i64 u, .int .i64 v, .pointer (some ⟨bx, 0, none⟩)] V fun e w' => e = .returned (.bool (eqX X u v)) ∧ ∃ q, w' = V.drewN q) := fun V hV => HE.out V u v (hwq.out V hV) lm lp
                clear hwq
                obtain ⟨b, hbb⟩ : ∃ b, b = eqX X u v := ⟨_, rfl⟩
                rw [← hbb] at HC
                have HB2 : Hid (b = eqX X u v) := hbb
                clear hbb
                have i1 : (0 : Int) ≤ (k2 : Int) - 1 := by omega
                have i2 : (k2 : Int) - 1 < ((d.size - k : Nat) : Int) := by omega
                have i3 : ((k2 : Int) - 1).toNat = k2 - 1 := by omega
                have i4 : (1 : Int) ≤ (k2 : Int) := by omega
                have i5' : (k2 : Int) < ((d.size - k : Nat) : Int) := by omega
                have i6 : IntKind.i64.wrap ((k2 : Int) - 1) = (k2 : Int) - 1 := by rw [IntKind.wrap_i64]; omega
                have i7 : ¬ (k2 : Int) - 1 < 0 := by omega
                have i8 : ¬ (k2 : Int) < 1 := by omega
                have i9 : ¬ ((d.size - k : Nat) : Int) ≤ (k2 : Int) - 1 := by omega
                have KS : ∀ p, (wr.drewN p).cell? ⟨blk, k + k2, none⟩ = some (.int .i64 u) ∧ (wr.drewN p).cell? ⟨blk, k + (k2 - 1), none⟩ = some (.int .i64 v) ∧ ((wr.drewN p).cell? ⟨blk, kk, none⟩ = some (.int .i64 o) ∧ (wr.drewN p).frozen? ⟨blk, kk, none⟩ = false) := fun p => ⟨cm, cp, ck, fk⟩
                rcases b with _ | _
                · go_wp2_with fail
                  go_region_held3 (fun w' : World => (w'.cell? ⟨blk, k + k2, none⟩ = some (.int .i64 u) ∧ w'.cell? ⟨blk, k + (k2 - 1), none⟩ = some (.int .i64 v) ∧ (w'.cell? ⟨blk, kk, none⟩ = some (.int .i64 o) ∧ w'.frozen? ⟨blk, kk, none⟩ = false))) (first | exact KS 0 | exact KS 1 | exact KS _) (first | (go_at_call 83; go_must (refine (HC.out _ ⟨1, rfl⟩).mono ?_; rintro e w1 ⟨rfl, p2, rfl⟩; have KS1 := KS (1 + p2))))
                  all_goals
                    go_wp2
                    go_roundg (d.size - (k + (k2 + 1)))
                    case measure => omega
                    case rel =>
                      refine ⟨kk + 1, k2 + 1, q2 + (1 + p2), dk.setIfInBounds kk u, by go_num, by go_num, by omega, by omega, Nat.le_refl _, ?_, ?_⟩
                      · rw [W2.out, put_drewN]
                        exact put_store (by omega)
                      · have h9 := I2.out.keep hlt2 (kp_pos (by rw [show k + k2 - 1 = k + (k2 - 1) by omega, C.out.1, C.out.2]; exact HB2.out.symm))
                        rwa [C.out.1] at h9
                · go_wp2_with fail
                  go_region_held3 (fun w' : World => (w'.cell? ⟨blk, k + k2, none⟩ = some (.int .i64 u) ∧ w'.cell? ⟨blk, k + (k2 - 1), none⟩ = some (.int .i64 v) ∧ (w'.cell? ⟨blk, kk, none⟩ = some (.int .i64 o) ∧ w'.frozen? ⟨blk, kk, none⟩ = false))) (first | exact KS 0 | exact KS 1 | exact KS _) (first | (go_at_call 83; go_must (refine (HC.out _ ⟨1, rfl⟩).mono ?_; rintro e w1 ⟨rfl, p2, rfl⟩)))
                  all_goals
                    go_wp2
                    go_roundg (d.size - (k + (k2 + 1)))
                    case measure => omega
                    case rel => exact ⟨kk, k2 + 1, q2 + (1 + p2), dk, rfl, by go_num, by omega, by omega, Nat.le_refl _, by rw [W2.out, put_drewN], I2.out.skip hlt2 (kp_neg (by omega) (by rw [show k + k2 - 1 = k + (k2 - 1) by omega, C.out.1, C.out.2]; exact HB2.out.symm))⟩
              · have hend : k + k2 = d.size := by omega
                have hcl : ∀ ty, (Builtin.clear_ #[41] ty #[.slice (some ⟨blk, kk, none⟩) (d.size - kk) (c - kk)]).run Tryz.prog wr = .ok (.tuple #[]) (wr.setCells blk kk (List.replicate (d.size - kk) (.int .i64 0))) :=
                  fun ty => Lib.run_clear_slice wr _ _ ty _ Tryz.underlying41 Tryz.sortL.v3 rfl rfl blk kk _ _ (by omega) (fun j hj => by have h9 := (hHk (kk + j) (by omega)).1; rw [Nat.zero_add] at h9; rw [h9]; rfl) (fun j hj => by have h9 := (hHk (kk + j) (by omega)).2; rwa [Nat.zero_add] at h9)
                have I2 : Hid (CI (eqX X) d (k + k2) kk dk) := hI
                have W2 : Hid (wr = putRow encN (Sort.ahead w q2) blk 0 dk) := hwr2
                have i1 : (kk : Int) ≤ (d.size : Int) := by omega
                have i2 : (d.size : Int) ≤ (c : Int) := by omega
                have i3 : (kk : Int) ≤ (c : Int) := by omega
                clear hHk hI hwr2
                go_wp2
                go_ret
                have hI := I2.out
                rw [hend] at hI
                have hl := hI.len
                have e0 : List.replicate (d.size - kk) (Value.int .i64 0) = (List.replicate (d.size - kk) 0).map encN := by rw [List.map_replicate]; rfl
                refine ⟨q2, lay dk kk (List.replicate (d.size - kk) 0), by rw [hl]; rfl, ?_, ?_, ?_⟩
                · rw [W2.out, e0]
                  have h9 := putRow_setCells encN (Sort.ahead w q2) blk 0 (List.replicate (d.size - kk) 0) dk kk (by simp; omega)
                  rw [Nat.zero_add] at h9
                  exact h9
                · rw [lay_size]; exact hds
                · rw [hl, ← hI.low]
                  exact take_lay (by simp; omega)
      · have : k = d.size := by omega
        subst this
        have A : Hid (∀ j, j < d.size → kp (eqX X) d j = true) := hall
        clear hall
        go_wp2
        go_ret
        obtain ⟨e1, e2⟩ := HA.out A.out
        exact ⟨q, d, by rw [e1]; rfl, HS.out q, rfl, by rw [e1]; exact e2⟩

end Go.Proofs.YtbjjkfmdkmbcfaaGreat

namespace Go.Proofs.YtbjjkfmdkmbcfaaGreat
open Go.Shelf Go.RowKit Go.Lib Go.Sort
open HL (cr lx)

theorem pt_eq {a b : Int × Int} : a = b ↔ a.1 = b.1 ∧ a.2 = b.2 := Prod.ext_iff

/-- The order from the left, of the same point from the lowest number. -/
theorem lexI_neg (X : Nat → Int × Int) (i j : Nat) : lexI X i j < 0 ↔ lx (X i) (X j) ∨ (X i = X j ∧ i < j) := by
  rw [pt_eq]
  unfold lexI orI cmpI lx
  repeat' split
  all_goals omega

theorem lexI_tot (X : Nat → Int × Int) {i j : Nat} (h1 : ¬ lexI X i j < 0) (h2 : ¬ lexI X j i < 0) : i = j := by
  rw [lexI_neg, pt_eq] at h1 h2
  unfold lx at *
  omega

theorem lexI_trans (X : Nat → Int × Int) {i j k : Nat} (h1 : lexI X i j < 0) (h2 : lexI X j k < 0) : lexI X i k < 0 := by
  rw [lexI_neg, pt_eq] at *
  unfold lx at *
  omega

theorem lexI_irr (X : Nat → Int × Int) (i : Nat) : ¬ lexI X i i < 0 := by
  rw [lexI_neg]
  unfold lx
  omega

def encF {n : Nat} (x : Fin n) : Value := .int .i64 (x.val : Int)
def cfX (X : Nat → Int × Int) {n : Nat} (x y : Fin n) : Int := lexI X x.val y.val

theorem cfX_swo (X : Nat → Int × Int) {n : Nat} : SWO (ltOf (cfX X (n := n))) where
  irrefl x := by unfold ltOf cfX; exact decide_eq_false (lexI_irr X _)
  trans x y z h1 h2 := by
    unfold ltOf cfX at *
    exact decide_eq_true (lexI_trans X (of_decide_eq_true h1) (of_decide_eq_true h2))
  ntrans x y z h1 h2 := by
    unfold ltOf cfX at *
    have h1' := of_decide_eq_false h1
    have h2' := of_decide_eq_false h2
    refine decide_eq_false fun h => ?_
    rw [lexI_neg, pt_eq] at *
    unfold lx at *
    omega

theorem cfX_tot (X : Nat → Int × Int) {n : Nat} (x y : Fin n) (h1 : ltOf (cfX X) x y = false) (h2 : ltOf (cfX X) y x = false) : x = y := by
  unfold ltOf cfX at *
  exact Fin.ext (lexI_tot X (of_decide_eq_false h1) (of_decide_eq_false h2))

/-- The numbers of the list from the left. -/
structure Srt (X : Nat → Int × Int) (n : Nat) (o : List Nat) : Prop where
  perm : o.Perm (List.range n)
  sorted : o.Pairwise fun i j => lexI X i j < 0

theorem Srt.unique {X : Nat → Int × Int} {n : Nat} {o o' : List Nat} (h : Srt X n o) (h' : Srt X n o') : o = o' :=
  List.Perm.eq_of_pairwise (le := fun i j => lexI X i j < 0) (fun a _ _ _ h1 h2 => absurd (lexI_trans X h1 h2) (lexI_irr X a)) h.sorted h'.sorted (h.perm.trans h'.perm.symm)

/-- What the sort leaves behind. -/
theorem sort_srt (X : Nat → Int × Int) (n : Nat) : Srt X n (((List.finRange n).mergeSort fun x y => !ltOf (cfX X) y x).map Fin.val) := by
  have hp := List.mergeSort_perm (List.finRange n) (fun x y => !ltOf (cfX X) y x)
  have hr : (List.finRange n).map Fin.val = List.range n := by
    apply List.ext_getElem
    · simp
    · intro i h1 h2
      simp
  have hs := List.pairwise_mergeSort (le := fun x y => !ltOf (cfX X (n := n)) y x) (fun a b c h1 h2 => by
    simp only [Bool.not_eq_true'] at *
    exact (cfX_swo X).ntrans _ _ _ h2 h1) (fun a b => by
    cases h1 : ltOf (cfX X) b a
    · simp
    · cases h2 : ltOf (cfX X) a b
      · simp
      · have := (cfX_swo X).trans _ _ _ h1 h2
        rw [(cfX_swo X).irrefl] at this
        cases this) (List.finRange n)
  refine ⟨?_, ?_⟩
  · rw [← hr]
    exact hp.map _
  · rw [List.pairwise_map]
    have hn : ((List.finRange n).mergeSort fun x y => !ltOf (cfX X) y x).Nodup := hp.nodup_iff.2 (List.nodup_finRange n)
    refine (hs.and hn).imp ?_
    rintro a b ⟨h1, h2⟩
    simp only [Bool.not_eq_true'] at h1
    have h3 : ¬ cfX X b a < 0 := of_decide_eq_false h1
    rw [← Decidable.not_not (p := lexI X a.val b.val < 0)]
    intro h4
    exact h2 (Fin.ext (lexI_tot X h4 h3))

/-- Of several that are one point the lowest number alone, from the left. -/
structure Ord (X : Nat → Int × Int) (n : Nat) (o : List Nat) : Prop where
  sorted : o.Pairwise fun i j => lx (X i) (X j)
  mem : ∀ q ∈ o, q < n
  low : ∀ q ∈ o, ∀ i, i < n → X i = X q → q ≤ i
  all : ∀ i, i < n → ∃ q ∈ o, X q = X i

structure OI (X : Nat → Int × Int) (d : Array Nat) (m : Nat) : Prop where
  src : ∀ q ∈ cpt (eqX X) d m, ∃ j, j < m ∧ d[j]! = q
  sorted : (cpt (eqX X) d m).Pairwise fun i j => lx (X i) (X j)
  all : ∀ j, j < m → ∃ q ∈ cpt (eqX X) d m, X q = X d[j]!
  low : ∀ q ∈ cpt (eqX X) d m, ∀ j, j < m → X d[j]! = X q → q ≤ d[j]!

theorem cpt_ord {X : Nat → Int × Int} {d : Array Nat} (hs : ∀ i j, i < j → j < d.size → lexI X d[i]! d[j]! < 0) : ∀ m, m ≤ d.size → OI X d m := by
  have le : ∀ i j, i ≤ j → j < d.size → lx (X d[i]!) (X d[j]!) ∨ (X d[i]! = X d[j]! ∧ d[i]! ≤ d[j]!) := fun i j h1 h2 => by
    by_cases e : i = j
    · subst e; exact Or.inr ⟨rfl, Nat.le_refl _⟩
    · have := (lexI_neg X _ _).1 (hs i j (by omega) h2)
      rcases this with h | h
      · exact Or.inl h
      · exact Or.inr ⟨h.1, by omega⟩
  intro m
  induction m with
  | zero => exact fun _ => ⟨fun q hq => by simp [cpt] at hq, by simp [cpt], fun j hj => by omega, fun q hq => by simp [cpt] at hq⟩
  | succ m ih =>
    intro hm
    obtain ⟨h1, h2, h3, h4⟩ := ih (by omega)
    cases hk : kp (eqX X) d m
    · have e : cpt (eqX X) d (m + 1) = cpt (eqX X) d m := by rw [cpt, if_neg (by simp [hk])]
      have hm0 : m ≠ 0 := by
        intro e
        subst e
        cases hk
      have hx : X d[m]! = X d[m - 1]! := by
        unfold kp eqX at hk
        simp only [Bool.or_eq_false_iff, Bool.not_eq_false', decide_eq_true_eq] at hk
        exact hk.2
      have hle : d[m - 1]! ≤ d[m]! := by
        rcases le (m - 1) m (by omega) (by omega) with h | h
        · rw [hx] at h; exact absurd h (HL.lx_irr _)
        · exact h.2
      rw [show OI X d (m + 1) ↔ _ from ⟨fun h => (⟨h.src, h.sorted, h.all, h.low⟩ : OI X d (m + 1)), id⟩]
      refine ⟨?_, ?_, ?_, ?_⟩
      · rw [e]; intro q hq
        obtain ⟨j, hj, ej⟩ := h1 q hq
        exact ⟨j, by omega, ej⟩
      · rw [e]; exact h2
      · rw [e]; intro j hj
        by_cases ej : j = m
        · subst ej
          rw [hx]
          exact h3 (j - 1) (by omega)
        · exact h3 j (by omega)
      · rw [e]; intro q hq j hj hjq
        by_cases ej : j = m
        · subst ej
          rw [hx] at hjq
          exact Nat.le_trans (h4 q hq (j - 1) (by omega) hjq) hle
        · exact h4 q hq j (by omega) hjq
    · have e : cpt (eqX X) d (m + 1) = cpt (eqX X) d m ++ [d[m]!] := by rw [cpt, if_pos hk]
      have hlx : ∀ j, j < m → lx (X d[j]!) (X d[m]!) := by
        intro j hj
        have hm0 : m ≠ 0 := by omega
        have hx : X d[m]! ≠ X d[m - 1]! := by
          unfold kp eqX at hk
          simp only [Bool.or_eq_true, beq_iff_eq, Bool.not_eq_true', decide_eq_false_iff_not] at hk
          rcases hk with h | h
          · exact absurd h hm0
          · exact h
        have h5 : lx (X d[m - 1]!) (X d[m]!) := by
          rcases le (m - 1) m (by omega) (by omega) with h | h
          · exact h
          · exact absurd h.1.symm hx
        rcases le j (m - 1) (by omega) (by omega) with h | h
        · exact HL.lx_trans h h5
        · rw [h.1]; exact h5
      refine ⟨?_, ?_, ?_, ?_⟩
      · rw [e]; intro q hq
        rcases List.mem_append.1 hq with h | h
        · obtain ⟨j, hj, ej⟩ := h1 q h
          exact ⟨j, by omega, ej⟩
        · exact ⟨m, by omega, (List.mem_singleton.1 h).symm⟩
      · rw [e, List.pairwise_append]
        refine ⟨h2, List.pairwise_singleton .., fun a ha b hb => ?_⟩
        obtain ⟨j, hj, ej⟩ := h1 a ha
        rw [List.mem_singleton.1 hb, ← ej]
        exact hlx j hj
      · rw [e]; intro j hj
        by_cases ej : j = m
        · subst ej; exact ⟨_, by simp, rfl⟩
        · obtain ⟨q, hq, eq⟩ := h3 j (by omega)
          exact ⟨q, by simp [hq], eq⟩
      · rw [e]; intro q hq j hj hjq
        rcases List.mem_append.1 hq with h | h
        · by_cases ej : j = m
          · subst ej
            obtain ⟨i, hi, ei⟩ := h1 q h
            have := hlx i hi
            rw [ei, hjq] at this
            exact absurd this (HL.lx_irr _)
          · exact h4 q h j (by omega) hjq
        · rw [List.mem_singleton.1 h] at hjq ⊢
          by_cases ej : j = m
          · subst ej; exact Nat.le_refl _
          · have := hlx j (by omega)
            rw [hjq] at this
            exact absurd this (HL.lx_irr _)

/-- The numbers that are told, from the left. -/
def ordL (X : Nat → Int × Int) (o : List Nat) : List Nat := cpt (eqX X) o.toArray o.length

theorem Srt.length {X : Nat → Int × Int} {n : Nat} {o : List Nat} (h : Srt X n o) : o.length = n := by rw [h.perm.length_eq, List.length_range]

theorem get_at {o : List Nat} {i : Nat} (h : i < o.length) : o.toArray[i]! = o[i] := by simp [h]

theorem Srt.ord {X : Nat → Int × Int} {n : Nat} {o : List Nat} (h : Srt X n o) : Ord X n (ordL X o) := by
  have hl := h.length
  have hs : ∀ i j, i < j → j < o.toArray.size → lexI X o.toArray[i]! o.toArray[j]! < 0 := by
    intro i j hij hj
    have hj' : j < o.length := by simpa using hj
    rw [get_at (by omega), get_at hj']
    exact List.pairwise_iff_getElem.1 h.sorted i j (by omega) hj' hij
  obtain ⟨h1, h2, h3, h4⟩ := cpt_ord hs o.length (by simp)
  have hmem : ∀ j, j < o.length → o.toArray[j]! < n := fun j hj => by
    rw [get_at hj]
    exact List.mem_range.1 (h.perm.mem_iff.1 (List.getElem_mem hj))
  have hhit : ∀ i, i < n → ∃ j, j < o.length ∧ o.toArray[j]! = i := fun i hi => by
    obtain ⟨j, hj, e⟩ := List.getElem_of_mem (h.perm.mem_iff.2 (List.mem_range.2 hi))
    exact ⟨j, hj, by rw [get_at hj]; exact e⟩
  refine ⟨h2, fun q hq => ?_, fun q hq i hi e => ?_, fun i hi => ?_⟩
  · obtain ⟨j, hj, e⟩ := h1 q hq
    rw [← e]
    exact hmem j hj
  · obtain ⟨j, hj, e2⟩ := hhit i hi
    rw [← e2] at e ⊢
    exact h4 q hq j hj e
  · obtain ⟨j, hj, e2⟩ := hhit i hi
    rw [← e2]
    exact h3 j hj

end Go.Proofs.YtbjjkfmdkmbcfaaGreat
