import Derived.Test.YtbjjkfmdkmbcfaaHh
namespace Go.Proofs.Ytbjjkfmdkmbcfaa
open Go.Shelf Go.RowKit Go.Lib Go.Sort

attribute [local go_sem ↓] Go.wp_at_zero Go.wp_at_succ

/-- Are two numbers of the list one point? -/
def eqX (X : Nat → Int × Int) (i j : Nat) : Bool := decide (X i = X j)

theorem kp_one {eq : Nat → Nat → Bool} {d : Array Nat} {j : Nat} (h : j < 1) : kp eq d j = true := by
  have : j = 0 := by omega
  subst this
  rfl

theorem drewN_drew (w : World) (q : Nat) : (w.drewN q).drew = w.drewN (q + 1) := rfl
theorem drewN_add (w : World) (q p : Nat) : (w.drewN q).drewN p = w.drewN (q + p) := by simp [World.drewN, Nat.add_assoc]
theorem drew_one (w : World) : w.drew = w.drewN 1 := rfl
theorem put_drewN (w : World) (blk q p : Nat) (d : Array Nat) : (putRow encN (Sort.ahead w q) blk 0 d).drewN p = putRow encN (Sort.ahead w (q + p)) blk 0 d := by
  simp [putRow, mapBlock, Sort.ahead, World.drewN, Nat.add_assoc]

theorem put_store {w : World} {blk kk u : Nat} {dk : Array Nat} (h : kk < dk.size) : (putRow encN w blk 0 dk).setCell ⟨blk, kk, none⟩ (.int .i64 (u : Int)) = putRow encN w blk 0 (dk.setIfInBounds kk u) := by
  have h9 := putRow_set encN w blk 0 dk kk u h
  rw [Nat.zero_add] at h9
  exact h9

theorem take_lay {dk : Array Nat} {kk : Nat} {zs : List Nat} (h : kk + zs.length ≤ dk.size) : (lay dk kk zs).toList.take kk = dk.toList.take kk := by
  apply List.ext_getElem?
  intro j
  rw [List.getElem?_take, List.getElem?_take]
  by_cases hj : j < kk
  · rw [if_pos hj, if_pos hj, Array.getElem?_toList, Array.getElem?_toList, lay_get? _ _ _ _ h, if_neg (by omega)]
  · rw [if_neg hj, if_neg hj]

set_option maxHeartbeats 8000000 in
set_option maxRecDepth 100000 in
theorem compact_any (blk bx n c : Nat) (X : Nat → Int × Int) (d : Array Nat) (w : World) (hm : d.size ≤ 100000) (hcap : d.size ≤ c) (hlt : ∀ j, j < d.size → d[j]! < n) (hH : Holds encN w blk 0 d)
    (HE : Hid (∀ (V : World) (i j : Nat), (∃ q dk, dk.size = d.size ∧ V = putRow encN (Sort.ahead w q) blk 0 dk) → i < n → j < n → Calls Try.prog 62 #[.int .i64 i, .int .i64 j, .pointer (some ⟨bx, 0, none⟩)] V fun e w' => e = .returned (.bool (eqX X i j)) ∧ ∃ q, w' = V.drewN q)) :
    Calls Try.prog 61 #[.slice (some ⟨blk, 0, none⟩) d.size c, .func (.func 62) #[] #[.pointer (some ⟨bx, 0, none⟩)]] w fun e w' =>
      ∃ q dk, e = .returned (.slice (some ⟨blk, 0, none⟩) (cpt (eqX X) d d.size).length c) ∧ w' = putRow encN (Sort.ahead w q) blk 0 dk ∧ dk.size = d.size ∧ dk.toList.take (cpt (eqX X) d d.size).length = cpt (eqX X) d d.size := by
  have self : ∀ q, w.drewN q = putRow encN (Sort.ahead w q) blk 0 d := fun q => (putRow_self encN (Sort.ahead w q) blk 0 d (holds_ahead encN w q blk 0 d hH)).symm
  have HS : Hid (∀ q, w.drewN q = putRow encN (Sort.ahead w q) blk 0 d) := self
  have HA : Hid ((∀ j, j < d.size → kp (eqX X) d j = true) → (cpt (eqX X) d d.size).length = d.size ∧ d.toList.take d.size = cpt (eqX X) d d.size) := fun h => by
    rw [cpt_all (eqX X) d d.size (Nat.le_refl _) h]
    exact ⟨by simp, rfl⟩
  have HH : Hid (Holds encN w blk 0 d) := hH
  have HLT : Hid (∀ j, j < d.size → d[j]! < n) := hlt
  clear self hH hlt
  by_cases h2 : d.size < 2
  · go_enter Try.func61, Try.ntmps61
    go_wp2
    go_ret
    obtain ⟨e1, e2⟩ := HA.out (fun j hj => kp_one (by omega))
    refine ⟨0, d, by rw [e1]; rfl, HS.out 0, rfl, by rw [e1]; exact e2⟩
  · go_enter Try.func61, Try.ntmps61
    go_wp2
    go_loopg [5] d.size (fun g s3 wr => ∃ k q : Nat, 1 ≤ k ∧ k ≤ d.size ∧ d.size - k ≤ g ∧ s3 = .int .i64 k ∧ wr = w.drewN q ∧ ∀ j, j < k → kp (eqX X) d j = true)
    case atStart => exact ⟨1, 0, Nat.le_refl _, by omega, by omega, rfl, rfl, fun j hj => kp_one hj⟩
    case round =>
      obtain ⟨k, q, hk1, hk, hg, rfl, hwr, hall⟩ := hrel
      by_cases hlt : k < d.size
      · have hwr2 : wr = putRow encN (Sort.ahead w q) blk 0 d := hwr.trans (HS.out q)
        have hHr : Holds encN wr blk 0 d := by rw [hwr2]; exact holds_putRow encN _ blk 0 d d (holds_ahead encN w q blk 0 d HH.out) rfl
        obtain ⟨c1, f1⟩ := hHr k hlt
        obtain ⟨c0, f0⟩ := hHr (k - 1) (by omega)
        have A : Hid (∀ j, j < k → kp (eqX X) d j = true) := hall
        have l1 := HLT.out k hlt
        have l0 := HLT.out (k - 1) (by omega)
        clear hall hHr
        generalize hx : d[k]! = x at c1 l1
        generalize hy : d[k - 1]! = y at c0 l0
        have B : Hid (d[k]! = x ∧ d[k - 1]! = y) := ⟨hx, hy⟩
        clear hx hy
        unfold encN at c1 c0
        rw [Nat.zero_add] at c1 c0 f1 f0
        have hwq : Hid (∀ V, (∃ p, V = wr.drewN p) → ∃ q dk, dk.size = d.size ∧ V = putRow encN (Sort.ahead w q) blk 0 dk) := fun V ⟨p, hp⟩ => ⟨q + p, d, rfl, by rw [hp, hwr2, put_drewN]⟩
        have HC : Hid (∀ V, (∃ p, V = wr.drewN p) → Calls Try.prog 62 #[.int .i64 x, .int .i64 y, .pointer (some ⟨bx, 0, none⟩)] V fun e w' => e = .returned (.bool (eqX X x y)) ∧ ∃ q, w' = V.drewN q) := fun V hV => HE.out V x y (hwq.out V hV) l1 l0
        have HW : Hid (wr = w.drewN q ∧ wr = putRow encN (Sort.ahead w q) blk 0 d) := ⟨hwr, hwr2⟩
        clear hwr hwr2 hwq
        obtain ⟨b, hbb⟩ : ∃ b, b = eqX X x y := ⟨_, rfl⟩
        rw [← hbb] at HC
        have HB : Hid (b = eqX X x y) := hbb
        clear hbb
        have i1 : (0 : Int) ≤ (k : Int) - 1 := by omega
        have i2 : (k : Int) - 1 < (d.size : Int) := by omega
        have i3 : ((k : Int) - 1).toNat = k - 1 := by omega
        have i4 : (1 : Int) ≤ (k : Int) := by omega
        have i5 : (k : Int) < (d.size : Int) := by omega
        have i6 : IntKind.i64.wrap ((k : Int) - 1) = (k : Int) - 1 := by rw [IntKind.wrap_i64]; omega
        have i7 : ¬ (k : Int) - 1 < 0 := by omega
        have i8 : ¬ (k : Int) < 1 := by omega
        have i9 : ¬ (d.size : Int) ≤ (k : Int) - 1 := by omega
        have KS : ∀ p, (wr.drewN p).cell? ⟨blk, k, none⟩ = some (.int .i64 x) ∧ (wr.drewN p).cell? ⟨blk, k - 1, none⟩ = some (.int .i64 y) := fun p => ⟨c1, c0⟩
        rcases b with _ | _
        · go_wp2_with fail
          go_region_held3 (fun w' : World => (w'.cell? ⟨blk, k, none⟩ = some (.int .i64 x) ∧ w'.cell? ⟨blk, k - 1, none⟩ = some (.int .i64 y))) (first | exact KS 0 | exact KS 1 | exact KS _) (first | (go_at_call 62; go_must (refine (HC.out _ ⟨1, rfl⟩).mono ?_; rintro e w1 ⟨rfl, p, rfl⟩)))
          all_goals
            go_wp2
            go_roundg (d.size - (k + 1))
            case measure => omega
            case rel =>
              refine ⟨k + 1, q + (1 + p), by omega, by omega, Nat.le_refl _, by go_num, ?_, fun j hj => ?_⟩
              · rw [HW.out.1, drewN_add]
              · by_cases e : j = k
                · subst e
                  exact kp_pos (by rw [B.out.1, B.out.2]; exact HB.out.symm)
                · exact A.out j (by omega)
        · go_wp2_with fail
          go_region_held3 (fun w' : World => (w'.cell? ⟨blk, k, none⟩ = some (.int .i64 x) ∧ w'.cell? ⟨blk, k - 1, none⟩ = some (.int .i64 y))) (first | exact KS 0 | exact KS 1 | exact KS _) (first | (go_at_call 62; go_must (refine (HC.out _ ⟨1, rfl⟩).mono ?_; rintro e w1 ⟨rfl, p, rfl⟩)))
          all_goals
            go_wp2
            clear c0 c1 f0 f1 KS HC i1 i2 i3 i4 i6 i7 i8 i9
            go_loopg [5, 7] d.size (fun g s5 s7 wr2 => ∃ (kk k2 q2 : Nat) (dk : Array Nat), s5 = .int .i64 kk ∧ s7 = .int .i64 k2 ∧ 1 ≤ k2 ∧ k + k2 ≤ d.size ∧ d.size - (k + k2) ≤ g ∧ wr2 = putRow encN (Sort.ahead w q2) blk 0 dk ∧ CI (eqX X) d (k + k2) kk dk)
            case atStart => exact ⟨k, 1, q + (1 + p), d, rfl, rfl, Nat.le_refl _, by omega, by omega, by rw [HW.out.1, drewN_add]; exact HS.out _, CI.start hlt A.out (kp_neg hk1 (by rw [B.out.1, B.out.2]; exact HB.out.symm))⟩
            case round =>
              obtain ⟨kk, k2, q2, dk, rfl, rfl, h1, hle, hg2, hwr2, hI⟩ := hrel
              have hkk := hI.lt
              have hds := hI.size
              have hHk : Holds encN wr blk 0 dk := by rw [hwr2]; exact holds_putRow encN _ blk 0 d dk (holds_ahead encN w q2 blk 0 d HH.out) hds
              by_cases hlt2 : k + k2 < d.size
              · obtain ⟨cm, _⟩ := hHk (k + k2) (by omega)
                obtain ⟨cp, _⟩ := hHk (k + k2 - 1) (by omega)
                obtain ⟨ck, fk⟩ := hHk kk (by omega)
                have lm := HLT.out (k + k2) hlt2
                have lp := HLT.out (k + k2 - 1) (by omega)
                rw [hI.high (k + k2) (by omega), Nat.zero_add] at cm
                rw [hI.high (k + k2 - 1) (by omega), Nat.zero_add, show k + k2 - 1 = k + (k2 - 1) by omega] at cp
                rw [show k + k2 - 1 = k + (k2 - 1) by omega] at lp
                rw [Nat.zero_add] at ck fk
                have I2 : Hid (CI (eqX X) d (k + k2) kk dk) := hI
                have W2 : Hid (wr = putRow encN (Sort.ahead w q2) blk 0 dk) := hwr2
                have hwq : Hid (∀ V, (∃ p, V = wr.drewN p) → ∃ q dk, dk.size = d.size ∧ V = putRow encN (Sort.ahead w q) blk 0 dk) := fun V ⟨p, hp⟩ => ⟨q2 + p, dk, hds, by rw [hp, hwr2, put_drewN]⟩
                clear hHk hI hwr2
                generalize hu : d[k + k2]! = u at cm lm
                generalize hv : d[k + (k2 - 1)]! = v at cp lp
                generalize hoo : dk[kk]! = o at ck
                have C : Hid (d[k + k2]! = u ∧ d[k + (k2 - 1)]! = v) := ⟨hu, hv⟩
                clear hu hv hoo
                unfold encN at cm cp ck
                have HC : Hid (∀ V, (∃ p, V = wr.drewN p) → Calls Try.prog 62 #[.int .i64 u, .int .i64 v, .pointer (some ⟨bx, 0, none⟩)] V fun e w' => e = .returned (.bool (eqX X u v)) ∧ ∃ q, w' = V.drewN q) := fun V hV => HE.out V u v (hwq.out V hV) lm lp
                clear hwq
                obtain ⟨b, hbb⟩ : ∃ b, b = eqX X u v := ⟨_, rfl⟩
                rw [← hbb] at HC
                have HB2 : Hid (b = eqX X u v) := hbb
                clear hbb
                have i1 : (0 : Int) ≤ (k2 : Int) - 1 := by omega
                have i2 : (k2 : Int) - 1 < ((d.size - k : Nat) : Int) := by omega
                have i3 : ((k2 : Int) - 1).toNat = k2 - 1 := by omega
                have i4 : (1 : Int) ≤ (k2 : Int) := by omega
                have i5' : (k2 : Int) < ((d.size - k : Nat) : Int) := by omega
                have i6 : IntKind.i64.wrap ((k2 : Int) - 1) = (k2 : Int) - 1 := by rw [IntKind.wrap_i64]; omega
                have i7 : ¬ (k2 : Int) - 1 < 0 := by omega
                have i8 : ¬ (k2 : Int) < 1 := by omega
                have i9 : ¬ ((d.size - k : Nat) : Int) ≤ (k2 : Int) - 1 := by omega
                have KS : ∀ p, (wr.drewN p).cell? ⟨blk, k + k2, none⟩ = some (.int .i64 u) ∧ (wr.drewN p).cell? ⟨blk, k + (k2 - 1), none⟩ = some (.int .i64 v) ∧ ((wr.drewN p).cell? ⟨blk, kk, none⟩ = some (.int .i64 o) ∧ (wr.drewN p).frozen? ⟨blk, kk, none⟩ = false) := fun p => ⟨cm, cp, ck, fk⟩
                rcases b with _ | _
                · go_wp2_with fail
                  go_region_held3 (fun w' : World => (w'.cell? ⟨blk, k + k2, none⟩ = some (.int .i64 u) ∧ w'.cell? ⟨blk, k + (k2 - 1), none⟩ = some (.int .i64 v) ∧ (w'.cell? ⟨blk, kk, none⟩ = some (.int .i64 o) ∧ w'.frozen? ⟨blk, kk, none⟩ = false))) (first | exact KS 0 | exact KS 1 | exact KS _) (first | (go_at_call 62; go_must (refine (HC.out _ ⟨1, rfl⟩).mono ?_; rintro e w1 ⟨rfl, p2, rfl⟩; have KS1 := KS (1 + p2))))
                  all_goals
                    go_wp2
                    go_roundg (d.size - (k + (k2 + 1)))
                    case measure => omega
                    case rel =>
                      refine ⟨kk + 1, k2 + 1, q2 + (1 + p2), dk.setIfInBounds kk u, by go_num, by go_num, by omega, by omega, Nat.le_refl _, ?_, ?_⟩
                      · rw [W2.out, put_drewN]
                        exact put_store (by omega)
                      · have h9 := I2.out.keep hlt2 (kp_pos (by rw [show k + k2 - 1 = k + (k2 - 1) by omega, C.out.1, C.out.2]; exact HB2.out.symm))
                        rwa [C.out.1] at h9
                · go_wp2_with fail
                  go_region_held3 (fun w' : World => (w'.cell? ⟨blk, k + k2, none⟩ = some (.int .i64 u) ∧ w'.cell? ⟨blk, k + (k2 - 1), none⟩ = some (.int .i64 v) ∧ (w'.cell? ⟨blk, kk, none⟩ = some (.int .i64 o) ∧ w'.frozen? ⟨blk, kk, none⟩ = false))) (first | exact KS 0 | exact KS 1 | exact KS _) (first | (go_at_call 62; go_must (refine (HC.out _ ⟨1, rfl⟩).mono ?_; rintro e w1 ⟨rfl, p2, rfl⟩)))
                  all_goals
                    go_wp2
                    go_roundg (d.size - (k + (k2 + 1)))
                    case measure => omega
                    case rel => exact ⟨kk, k2 + 1, q2 + (1 + p2), dk, rfl, by go_num, by omega, by omega, Nat.le_refl _, by rw [W2.out, put_drewN], I2.out.skip hlt2 (kp_neg (by omega) (by rw [show k + k2 - 1 = k + (k2 - 1) by omega, C.out.1, C.out.2]; exact HB2.out.symm))⟩
              · have hend : k + k2 = d.size := by omega
                have hcl : ∀ ty, (Builtin.clear_ #[44] ty #[.slice (some ⟨blk, kk, none⟩) (d.size - kk) (c - kk)]).run Try.prog wr = .ok (.tuple #[]) (wr.setCells blk kk (List.replicate (d.size - kk) (.int .i64 0))) :=
                  fun ty => Lib.run_clear_slice wr _ _ ty _ Try.underlying44 Try.sortL.v3 rfl rfl blk kk _ _ (by omega) (fun j hj => by have h9 := (hHk (kk + j) (by omega)).1; rw [Nat.zero_add] at h9; rw [h9]; rfl) (fun j hj => by have h9 := (hHk (kk + j) (by omega)).2; rwa [Nat.zero_add] at h9)
                have I2 : Hid (CI (eqX X) d (k + k2) kk dk) := hI
                have W2 : Hid (wr = putRow encN (Sort.ahead w q2) blk 0 dk) := hwr2
                have i1 : (kk : Int) ≤ (d.size : Int) := by omega
                have i2 : (d.size : Int) ≤ (c : Int) := by omega
                have i3 : (kk : Int) ≤ (c : Int) := by omega
                clear hHk hI hwr2
                go_wp2
                go_ret
                have hI := I2.out
                rw [hend] at hI
                have hl := hI.len
                have e0 : List.replicate (d.size - kk) (Value.int .i64 0) = (List.replicate (d.size - kk) 0).map encN := by rw [List.map_replicate]; rfl
                refine ⟨q2, lay dk kk (List.replicate (d.size - kk) 0), by rw [hl]; rfl, ?_, ?_, ?_⟩
                · rw [W2.out, e0]
                  have h9 := putRow_setCells encN (Sort.ahead w q2) blk 0 (List.replicate (d.size - kk) 0) dk kk (by simp; omega)
                  rw [Nat.zero_add] at h9
                  exact h9
                · rw [lay_size]; exact hds
                · rw [hl, ← hI.low]
                  exact take_lay (by simp; omega)
      · have : k = d.size := by omega
        subst this
        have A : Hid (∀ j, j < d.size → kp (eqX X) d j = true) := hall
        clear hall
        go_wp2
        go_ret
        obtain ⟨e1, e2⟩ := HA.out A.out
        exact ⟨q, d, by rw [e1]; rfl, HS.out q, rfl, by rw [e1]; exact e2⟩

end Go.Proofs.Ytbjjkfmdkmbcfaa
