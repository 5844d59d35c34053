import Derived.Test.YtbjjkfmdkmbcfaaGreatMMw
import Derived.Test.YtbjjkfmdkmbcfaaGreatMUv
import Derived.Test.YtbjjkfmdkmbcfaaGreatMNw
import Derived.BigQuiet
import Derived.Deep.QuietTactic
namespace Go.Proofs.YtbjjkfmdkmbcfaaGreat
open Go.RowKit
open PlRd
open Ieee (double signed)

theorem cast_pow2 (n : Nat) : ((2 ^ n : Nat) : Int) = 2 ^ n := by rw [Int.natCast_pow]; rfl

theorem dvd_scale (a b : Nat) (x : Int) : ((2 : Int) ^ (a + b) ∣ x * 2 ^ b) ↔ ((2 : Int) ^ a ∣ x) := by
  have hp := two_pow_pos b
  rw [Int.pow_add]
  constructor
  · rintro ⟨c, hc⟩
    refine ⟨c, Int.eq_of_mul_eq_mul_right (a := 2 ^ b) (by omega) ?_⟩
    rw [hc, Int.mul_assoc, Int.mul_assoc, Int.mul_comm (2 ^ b)]
  · rintro ⟨c, hc⟩
    exact ⟨c, by rw [hc, Int.mul_assoc, Int.mul_assoc, Int.mul_comm c]⟩

/-- 'Trunc' of a number that is whole. -/
theorem is_trunc_up {b : Nat} {s : Bool} {m : Nat} {p : Int} (_h : double.read b = .number s m p) (hp : 0 ≤ p) (h53 : m < 2 ^ 53) (hlim : m * 2 ^ (p + 1074).toNat < LIM) : Is (double.write ((Ieee.Datum.number s m p).integral .zero)) (signed s m (p + 1074).toNat) := by
  show Is (double.nearest s (Ieee.Toward.cut .zero s (m <<< p.toNat) (-p).toNat) 0) _
  have ecut : Ieee.Toward.cut .zero s (m <<< p.toNat) (-p).toNat = m * 2 ^ p.toNat := by
    rw [show (-p).toNat = 0 by omega, Nat.shiftLeft_eq]
    unfold Ieee.Toward.cut
    simp
  rw [ecut]
  obtain ⟨U, hU⟩ : ∃ U, U = (p + 1074).toNat := ⟨_, rfl⟩
  rw [← hU] at hlim ⊢
  have hsc : Sc ((m * 2 ^ p.toNat : Nat) : Int) 0 ((m * 2 ^ U : Nat) : Int) := by
    have a2 : (-((0 : Int) + 1074)).toNat = 0 := by decide
    unfold Sc
    rw [cast_two_pow, cast_two_pow, a2, Int.pow_zero, Int.mul_one, Int.mul_assoc, ← Int.pow_add]
    congr 2
    omega
  have hn := is_nearest s (m * 2 ^ p.toNat) 0 (m * 2 ^ U) hsc hlim
  have hf : rndN (m * 2 ^ U) = m * 2 ^ U := by
    have hFl : Fl ((m * 2 ^ U : Nat) : Int) := by
      rw [cast_two_pow]
      exact ⟨(m : Int), U, rfl, by simp; omega⟩
    have := rnd_fl hFl
    rw [rnd_natAbs, if_neg (by omega), Int.natAbs_natCast] at this
    exact Int.ofNat_inj.1 this
  rw [hf] at hn
  have e : signed s m U = if s then -((m * 2 ^ U : Nat) : Int) else ((m * 2 ^ U : Nat) : Int) := by
    rw [signed_eq, cast_two_pow]
    split <;> simp [Int.neg_mul]
  rw [e]
  exact hn

/-- Of a number that is read: is it whole? By 'Trunc'. -/
theorem trunc_eq {r : Nat} {V : Int} (h : Is r V) (hV : V.natAbs < LIM) : ∃ t, (∀ W, Calls Tryz.prog 71 #[.float .f64 r] W fun e w' => e = .returned (.float .f64 t) ∧ w' = W) ∧ (FloatKind.f64.format.order r t == some .eq) = decide ((2 : Int) ^ 1074 ∣ V) := by
  obtain ⟨s, m, p, hr, p1, p2, h53, e⟩ := h
  refine ⟨_, fun W => trunc_any r _ W s m p hr rfl, ?_⟩
  have hI : Is r V := ⟨s, m, p, hr, p1, p2, h53, e⟩
  by_cases hp : 0 ≤ p
  · have hl : m * 2 ^ (p + 1074).toNat < LIM := by
      have := congrArg Int.natAbs e
      rw [signed_eq, Int.natAbs_mul, natAbs_two_pow] at this
      have h3 : (if s then -(m : Int) else (m : Int)).natAbs = m := by cases s <;> simp
      rw [h3] at this
      rw [this]; exact hV
    have hT := is_trunc_up hr hp h53 hl
    rw [e] at hT
    rw [eq_of hI hT]
    have hd : (2 : Int) ^ 1074 ∣ V := by
      rw [← e, signed_eq]
      exact Int.dvd_mul_of_dvd_right (pow_dvd (by omega))
    exact (decide_eq_true rfl).trans (decide_eq_true hd).symm
  · have hT := is_trunc hr (by omega) h53 1074 rfl
    rw [eq_of hI hT]
    have h1 := eq_trunc s m (p + 1074).toNat 1074 (-p).toNat (by omega)
    have h2 := dvd_signed s m 1074 (p + 1074).toNat (by omega)
    rw [show 1074 - (p + 1074).toNat = (-p).toNat by omega] at h2
    rw [e] at h1 h2
    rw [decide_eq_decide, h1, h2]

theorem two_pow_add (a b c : Nat) (h : a = b + c) (x : Int) : x * 2 ^ a = x * 2 ^ b * 2 ^ c := by
  rw [h, Int.pow_add, Int.mul_assoc]

theorem natAbs_scale (x : Int) (b c d : Nat) (h : x.natAbs < 2 ^ b) (hd : d = b + c) : (x * 2 ^ c).natAbs < 2 ^ d := by
  rw [Int.natAbs_mul, natAbs_two_pow, hd, Nat.pow_add]
  exact Nat.mul_lt_mul_of_pos_right h (Nat.two_pow_pos c)

theorem lt_lim {n d : Nat} (h : n < 2 ^ d) (hd : d ≤ 2090) : n < LIM := by
  unfold LIM
  exact Nat.lt_of_lt_of_le h (Nat.pow_le_pow_right (by decide) (by unfold LIME; omega))

theorem fl_up {x : Int} (h : Fl x) (k : Nat) : Fl (x * 2 ^ k) := by
  obtain ⟨m, e, rfl, hm⟩ := h
  exact ⟨m, e + k, by rw [Int.pow_add, Int.mul_assoc], hm⟩

theorem mayBe_any (b : Nat) (w : World) (hb : b < 2 ^ 64) : Calls Tryz.prog 54 #[.float .f64 b] w fun e w' => e = .returned (.bool (mayB b)) ∧ w' = w := by
  have hC : ∃ s m p, double.read 5057542381537067008 = .number s m p := ⟨_, _, _, (by decide : double.read 5057542381537067008 = .number false (2 ^ 52) 48)⟩
  obtain ⟨s0, m0, p0, hC⟩ := hC
  cases hr : double.read b with
  | nan s t =>
    have hm : mayB b = false := by unfold mayB; rw [hr]
    obtain ⟨t', ht⟩ := read_abs_nan hr
    rw [hm]
    refine mayBe_no b w hb ?_
    show (double.order _ _ == _) = false
    unfold Ieee.Format.order
    rw [ht]
    rfl
  | infinity s =>
    have hm : mayB b = false := by unfold mayB; rw [hr]
    rw [hm]
    refine mayBe_no b w hb ?_
    show (double.order _ _ == _) = false
    unfold Ieee.Format.order
    rw [read_abs_inf hr, hC]
    rfl
  | number s m p =>
    obtain ⟨X, hXe⟩ : ∃ X, X = signed s m (p + 1074).toNat := ⟨_, rfl⟩
    have hX := is_of_read hr
    have hA := Is.nonneg_abs hr
    have hm : mayB b = (decide (X.natAbs < 2 ^ 1174) && decide ((2 : Int) ^ 974 ∣ X)) := by unfold mayB; rw [hr, hXe]
    rw [← hXe] at hX hA
    have h1 := lt_of2 hA is_bound
    have hiff : ((X.natAbs : Int) < 2 ^ 1174) ↔ X.natAbs < 2 ^ 1174 := by
      have := cast_pow2 1174
      rw [← this]; exact Int.ofNat_lt
    by_cases hlt : X.natAbs < 2 ^ 1174
    · have hV := natAbs_scale X 1174 100 1274 hlt rfl
      obtain ⟨r, e1, i1⟩ := is_mul hX is_bound (two_pow_add 1174 100 1074 rfl X) (lt_lim hV (by decide))
      rw [rnd_fl (fl_up hX.fl 100)] at i1
      obtain ⟨t, hT, hE⟩ := trunc_eq i1 (lt_lim hV (by decide))
      have hq : mayB b = decide ((2 : Int) ^ 1074 ∣ X * 2 ^ 100) := by
        rw [hm]
        have := dvd_scale 974 100 X
        simp only [hlt, decide_true, Bool.true_and]
        exact decide_eq_decide.2 this.symm
      rw [hq]
      refine mayBe_yes b r t _ w hb ?_ e1 hT hE
      rw [h1]; exact decide_eq_true (hiff.2 hlt)
    · have hm' : mayB b = false := by rw [hm, decide_eq_false hlt, Bool.false_and]
      rw [hm']
      refine mayBe_no b w hb ?_
      rw [h1]; exact decide_eq_false (fun h => hlt (hiff.1 h))

/-- A coordinate that may be. -/
theorem co_of_mayB {b : Nat} (h : mayB b = true) : ∃ X, Is b X ∧ (2 : Int) ^ 974 ∣ X ∧ X.natAbs < 2 ^ 1174 := by
  unfold mayB at h
  cases hr : double.read b with
  | nan s t => rw [hr] at h; cases h
  | infinity s => rw [hr] at h; cases h
  | number s m p =>
    rw [hr] at h
    simp only [Bool.and_eq_true, decide_eq_true_eq] at h
    exact ⟨_, is_of_read hr, h.2, h.1⟩

end Go.Proofs.YtbjjkfmdkmbcfaaGreat

namespace Go.Proofs.YtbjjkfmdkmbcfaaGreat
open Go.RowKit
open PlRd

attribute [local go_sem ↓] Go.wp_at_zero Go.wp_at_succ
attribute [local go_sem] frombits_run

theorem info76 : (Tryz.prog.info? 76).map (fun i => (i.zero, i.size, i.bytes)) = some (some (.agg #[.float .f64 0, .float .f64 0]), 2, 16) := by kernel_rfl

/-- Points as cells: spots; points. -/
def spotCells (ps : List (Nat × Nat)) : List Value := ps.flatMap fun p => [.float .f64 p.1, .float .f64 p.2]

def okPts (ps : List (Nat × Nat)) : Bool := ps.all fun p => mayB p.1 && mayB p.2

/-- The slice's cells read as the points. -/
def PtsAt (w : World) (g off : Nat) (ps : List (Nat × Nat)) : Prop := ∀ t, t < ps.length → w.cell? ⟨g, off + t * 2, none⟩ = some (.int .u64 (ps.getD t (0, 0)).1) ∧ w.cell? ⟨g, off + t * 2 + 1, none⟩ = some (.int .u64 (ps.getD t (0, 0)).2)

theorem own_kept {w w' : World} {base : Nat} {e : TypeId} {size : Nat} {v : Value} {n : Nat} {xs : List Value} (h : w.ownsRow base e size v n xs) (hb : Below w.heap.size w w') : w'.ownsRow base e size v n xs := by
  refine ⟨h.1, ?_⟩
  rcases h.2 with hn | ⟨g, c, cur, rfl, h1, hg, rest⟩
  · exact .inl hn
  · exact .inr ⟨g, c, cur, rfl, h1, by rw [hb.block g (lt_of_row hg)]; exact hg, rest⟩

theorem cells_two {w : World} {n : Nat} {a b : Value} (h0 : w.cell? ⟨n, 0, none⟩ = some a) (h1 : w.cell? ⟨n, 1, none⟩ = some b) : ∀ j u, [a, b][j]? = some u → w.cell? ((⟨n, 0, none⟩ : Addr).add j) = some u := by
  intro j u hu
  have hadd : ∀ j, (⟨n, 0, none⟩ : Addr).add j = ⟨n, j, none⟩ := fun j => by unfold Addr.add; split <;> simp_all
  rw [hadd]
  match j, hu with
  | 0, hu => simp at hu; subst hu; exact h0
  | 1, hu => simp at hu; subst hu; exact h1

theorem pts_next {ps : List (Nat × Nat)} {k x y : Nat} (h : k < ps.length) (hx : (x, y) = ps.getD k (0, 0)) : ps.take (k + 1) = ps.take k ++ [(x, y)] := by rw [take_next' (0, 0) h, hx]

theorem spotCells_snoc (ps : List (Nat × Nat)) (x y : Nat) : spotCells (ps ++ [(x, y)]) = spotCells ps ++ [.float .f64 x, .float .f64 y] := by simp [spotCells]

theorem okPts_snoc (ps : List (Nat × Nat)) (x y : Nat) : okPts (ps ++ [(x, y)]) = (okPts ps && (mayB x && mayB y)) := by simp [okPts]

theorem okPts_of_take {ps : List (Nat × Nat)} {k : Nat} (h : okPts (ps.take k) = false) : okPts ps = false := by
  have := List.take_append_drop k ps
  rw [← this]
  unfold okPts at h ⊢
  rw [List.all_append, h, Bool.false_and]

set_option maxHeartbeats 4000000 in
set_option maxRecDepth 100000 in
theorem spots_walk (g n c : Nat) (ps : List (Nat × Nat)) (w : World) (hn : ps.length = n) (hnm : n ≤ 100000) (hg : g < w.heap.size) (hc : PtsAt w g 0 ps) (h64 : ∀ p ∈ ps, p.1 < 2 ^ 64 ∧ p.2 < 2 ^ 64) :
    Calls Tryz.prog 35 #[.slice (some ⟨g, 0, none⟩) n c] w fun e w' => Below w.heap.size w w' ∧ ((okPts ps = true ∧ e = .returned (.tuple #[.slice (some ⟨w.heap.size, 0, none⟩) n n, .int .i64 0]) ∧ w'.ownsRow w.heap.size 76 2 (.slice (some ⟨w.heap.size, 0, none⟩) n n) n (spotCells ps)) ∨
      (okPts ps = false ∧ e = .returned (.tuple #[.slice none 0 0, .int .i64 1]))) := by
  obtain ⟨i0, hi, hz0, hz1, hz2⟩ := info_parts info76
  go_enter Tryz.func35, Tryz.ntmps35
  go_wp2_with (at_make; refine wpList_make_own _ rfl _ _ 70 rfl w.heap.size 76 i0 _ 2 Tryz.underlying70 hi hz0 hz1 _ _ _ n rfl rfl (by omega) (by rw [hz2]; omega) (by unfold maxLen; omega) (Nat.le_refl _) ?_; intro w0 hown0 hgrow0)
  go_wp2
  go_loopw [4, 13] (fun so si wr => ∃ k : Nat, si = .int .i64 k ∧ k ≤ n ∧ so = .slice (some ⟨w.heap.size, 0, none⟩) k n ∧ wr.ownsRow w.heap.size 76 2 (.slice (some ⟨w.heap.size, 0, none⟩) k n) k (spotCells (ps.take k)) ∧ okPts (ps.take k) = true ∧ Below w.heap.size w wr) (fun _ si _ => n - (intOf si).toNat)
  case atStart => exact ⟨0, rfl, Nat.zero_le _, rfl, by simpa [spotCells] using hown0, by simp [okPts], (Below.refl _ _).grown hgrow0 (Nat.le_refl _) (fun k h => by cases h)⟩
  case round =>
    obtain ⟨k, rfl, hk, rfl, hown, hok, hbel⟩ := hrel
    clear hown0 hgrow0
    by_cases hlt : k < n
    · obtain ⟨x, y, hx, hc0, hc1⟩ : ∃ x y, (x, y) = ps.getD k (0, 0) ∧ wr.cell? ⟨g, k * 2, none⟩ = some (.int .u64 (x : Nat)) ∧ wr.cell? ⟨g, k * 2 + 1, none⟩ = some (.int .u64 (y : Nat)) := by
        have h := hc k (by omega)
        rw [Nat.zero_add] at h
        exact ⟨_, _, rfl, (hbel.cell (by exact hg)).trans h.1, (hbel.cell (by exact hg)).trans h.2⟩
      have hx64 : x < 2 ^ 64 ∧ y < 2 ^ 64 := h64 (x, y) (by rw [hx, List.getD_eq_getElem?_getD, List.getElem?_eq_getElem (by omega)]; exact List.getElem_mem _)
      obtain ⟨hx64, hy64⟩ := hx64
      have HX : Hid ((x, y) = ps.getD k (0, 0)) := hx
      clear hx
      go_wp2
      have e0 : (wr.alloc (Obj.cells #[Value.int IntKind.u64 ↑x, Value.int IntKind.u64 ↑y] 24)).cell? ⟨wr.heap.size, 0, none⟩ = some (.int .u64 (x : Nat)) := by simp [go_sem]
      have e1 : (wr.alloc (Obj.cells #[Value.int IntKind.u64 ↑x, Value.int IntKind.u64 ↑y] 24)).cell? ⟨wr.heap.size, 1, none⟩ = some (.int .u64 (y : Nat)) := by simp [go_sem]
      go_region_held3 (fun w' => w'.cell? ⟨wr.heap.size, 0, none⟩ = some (.int .u64 (x : Nat)) ∧ w'.cell? ⟨wr.heap.size, 1, none⟩ = some (.int .u64 (y : Nat))) (go_keep) (fail)
      all_goals
        rcases hmx : mayB x with _ | _
        · have hno : okPts ps = false := okPts_of_take (k := k + 1) (by rw [pts_next (by omega) HX.out, okPts_snoc, hmx]; simp)
          go_wp2_with (go_at_call 54; refine (mayBe_any _ _ hx64).mono ?_; rintro e w' ⟨rfl, rfl⟩)
          go_ret2
          exact ⟨hbel.trans (by repeat (first | exact Below.refl _ _ | refine Below.drew ?_ | refine Below.alloc ?_ (by have := hbel.size; simp <;> omega) _)), .inr ⟨hno, rfl⟩⟩
        · rcases hmy : mayB y with _ | _
          · have hno : okPts ps = false := okPts_of_take (k := k + 1) (by rw [pts_next (by omega) HX.out, okPts_snoc, hmy]; simp)
            go_wp2_with (first | (go_at_call_of 54 (Value.float FloatKind.f64 x); refine (mayBe_any _ _ hx64).mono ?_; rintro e w' ⟨rfl, rfl⟩) | (go_at_call 54; refine (mayBe_any _ _ hy64).mono ?_; rintro e w' ⟨rfl, rfl⟩))
            go_ret2
            exact ⟨hbel.trans (by repeat (first | exact Below.refl _ _ | refine Below.drew ?_ | refine Below.alloc ?_ (by have := hbel.size; simp <;> omega) _)), .inr ⟨hno, rfl⟩⟩
          · have hyes : okPts (ps.take (k + 1)) = true := by rw [pts_next (by omega) HX.out, okPts_snoc, hmx, hmy, hok]; rfl
            have hnx : spotCells (ps.take (k + 1)) = spotCells (ps.take k) ++ [.float .f64 x, .float .f64 y] := by rw [pts_next (by omega) HX.out, spotCells_snoc]
            have HY : Hid (okPts (ps.take (k + 1)) = true) := hyes
            have HN : Hid (spotCells (ps.take (k + 1)) = spotCells (ps.take k) ++ [.float .f64 x, .float .f64 y]) := hnx
            clear hyes hnx
            go_wp2_with (first | (go_at_call_of 54 (Value.float FloatKind.f64 x); refine (mayBe_any _ _ hx64).mono ?_; rintro e w' ⟨rfl, rfl⟩) | (go_at_call 54; refine (mayBe_any _ _ hy64).mono ?_; rintro e w' ⟨rfl, rfl⟩) | (at_builtin; refine wpList_append_fits _ rfl _ _ 70 rfl w.heap.size 76 i0 2 Tryz.underlying70 hi hz1 w.heap.size k n _ rfl (own_kept hown (by repeat (first | exact Below.refl _ _ | refine Below.drew ?_ | refine Below.alloc ?_ (by simp <;> omega) _))) ⟨_, 0, none⟩ 1 1 [.float .f64 x, .float .f64 y] rfl rfl (cells_two (by simp [go_sem]) (by simp [go_sem])) (by intro u hu; simp at hu; rcases hu with rfl | rfl <;> rfl) (by omega) ?_; intro w1 h1 h2))
            have hB2 : Below w.heap.size w w1 := by
              refine Below.grown (hbel.trans ?_) h2 (by have := hbel.size; simp; omega) (fun k h => by cases h; exact Nat.le_refl _)
              repeat (first | exact Below.refl _ _ | refine Below.drew ?_ | refine Below.alloc ?_ (by have := hbel.size; simp <;> omega) _)
            rw [← HN.out] at h1
            clear h2 hown hbel hok
            go_roundw
            case rel => exact ⟨k + 1, by go_num, by omega, rfl, h1, HY.out, hB2⟩
            case measure => simp [intOf]; omega
    · have ht : ps.take k = ps := List.take_of_length_le (by omega)
      rw [ht] at hown hok
      have hkn : k = n := by omega
      subst hkn
      clear ht
      go_wp2
      go_ret2
      exact ⟨hbel, .inl ⟨hok, rfl, hown⟩⟩

end Go.Proofs.YtbjjkfmdkmbcfaaGreat

namespace Go.Proofs.YtbjjkfmdkmbcfaaGreat
open Go.RowKit
open PlRd
open Ieee (double signed)

attribute [local go_sem ↓] Go.wp_at_zero Go.wp_at_succ

/-- What the bits stand for, in units; 0 where they are no number. -/
def valB (b : Nat) : Int :=
  match double.read b with
  | .number s m p => signed s m (p + 1074).toNat
  | _ => 0

theorem is_valB {b : Nat} {x : Int} (h : Is b x) : valB b = x := by
  obtain ⟨s, m, p, h1, _, _, _, h2⟩ := h
  unfold valB; rw [h1]; exact h2

theorem co_mayB {b : Nat} (h : mayB b = true) : Co b (valB b) := by
  obtain ⟨X, h1, h2, h3⟩ := co_of_mayB h
  rw [is_valB h1]
  exact ⟨h1, h2, Nat.le_of_lt h3⟩

/-- The turn, in units twice. -/
def turnV (a b c : Nat × Nat) : Int := (valB b.1 - valB a.1) * (valB c.2 - valB a.2) - (valB b.2 - valB a.2) * (valB c.1 - valB a.1)
def distV (a b : Nat × Nat) : Int := (valB b.1 - valB a.1) * (valB b.1 - valB a.1) + (valB b.2 - valB a.2) * (valB b.2 - valB a.2)

theorem sgn_mul (x c : Int) (hc : 0 < c) : sgn (x * c) = sgn x := by
  unfold sgn
  have h1 : (0 < x * c) ↔ 0 < x := by
    have := Int.mul_lt_mul_right (a := c) (b := 0) (c := x) hc
    rw [Int.zero_mul] at this
    exact this
  have h2 : (x * c < 0) ↔ x < 0 := by
    have := Int.mul_lt_mul_right (a := c) (b := x) (c := 0) hc
    rw [Int.zero_mul] at this
    exact this
  simp only [h1, h2]

theorem pts3 {w : World} {g : Nat} {ax ay bx by' cx cy : Nat} (h0 : w.cell? ⟨g, 0, none⟩ = some (.int .u64 ax)) (h1 : w.cell? ⟨g, 1, none⟩ = some (.int .u64 ay)) (h2 : w.cell? ⟨g, 2, none⟩ = some (.int .u64 bx)) (h3 : w.cell? ⟨g, 3, none⟩ = some (.int .u64 by'))
    (h4 : w.cell? ⟨g, 4, none⟩ = some (.int .u64 cx)) (h5 : w.cell? ⟨g, 5, none⟩ = some (.int .u64 cy)) : PtsAt w g 0 [(ax, ay), (bx, by'), (cx, cy)] := by
  intro t ht
  match t, ht with
  | 0, _ => exact ⟨h0, h1⟩
  | 1, _ => exact ⟨h2, h3⟩
  | 2, _ => exact ⟨h4, h5⟩

theorem own_cells6 {w : World} {base g : Nat} {a b c d e f : Value} (h : w.ownsRow base 76 2 (.slice (some ⟨g, 0, none⟩) 3 3) 3 [a, b, c, d, e, f]) :
    (w.cell? ⟨g, 0, none⟩ = some a ∧ w.cell? ⟨g, 1, none⟩ = some b ∧ w.cell? ⟨g, 2, none⟩ = some c ∧ w.cell? ⟨g, 3, none⟩ = some d ∧ w.cell? ⟨g, 4, none⟩ = some e ∧ w.cell? ⟨g, 5, none⟩ = some f) ∧ g < w.heap.size :=
  ⟨⟨h.cellAt 0 (by decide), h.cellAt 1 (by decide), h.cellAt 2 (by decide), h.cellAt 3 (by decide), h.cellAt 4 (by decide), h.cellAt 5 (by decide)⟩, (h.lt g rfl).2⟩

theorem ret2_int {a b : Int} (h : a = b) : Ending.returned (.tuple #[.int .i64 a, .int .i64 0]) = .returned (.tuple #[.int .i64 b, .int .i64 0]) := by rw [h]

theorem spots3_no (g ax ay bx by' cx cy : Nat) (w : World) (h64 : ∀ p ∈ [(ax, ay), (bx, by'), (cx, cy)], p.1 < 2 ^ 64 ∧ p.2 < 2 ^ 64) (h0 : w.cell? ⟨g, 0, none⟩ = some (.int .u64 ax)) (h1 : w.cell? ⟨g, 1, none⟩ = some (.int .u64 ay)) (h2 : w.cell? ⟨g, 2, none⟩ = some (.int .u64 bx)) (h3 : w.cell? ⟨g, 3, none⟩ = some (.int .u64 by')) (h4 : w.cell? ⟨g, 4, none⟩ = some (.int .u64 cx)) (h5 : w.cell? ⟨g, 5, none⟩ = some (.int .u64 cy)) (hg : g < w.heap.size) (hok : okPts [(ax, ay), (bx, by'), (cx, cy)] = false) :
    Calls Tryz.prog 35 #[.slice (some ⟨g, 0, none⟩) 3 3] w fun e w' => Below w.heap.size w w' ∧ e = .returned (.tuple #[.slice none 0 0, .int .i64 1]) := by
  refine (spots_walk g 3 3 [(ax, ay), (bx, by'), (cx, cy)] w rfl (by decide) hg (pts3 h0 h1 h2 h3 h4 h5) h64).mono ?_
  rintro e w' ⟨hb, ⟨h1, _⟩ | ⟨_, rfl⟩⟩
  · rw [hok] at h1; cases h1
  · exact ⟨hb, rfl⟩

theorem spots3_ok (g ax ay bx by' cx cy : Nat) (w : World) (h64 : ∀ p ∈ [(ax, ay), (bx, by'), (cx, cy)], p.1 < 2 ^ 64 ∧ p.2 < 2 ^ 64) (h0 : w.cell? ⟨g, 0, none⟩ = some (.int .u64 ax)) (h1 : w.cell? ⟨g, 1, none⟩ = some (.int .u64 ay)) (h2 : w.cell? ⟨g, 2, none⟩ = some (.int .u64 bx)) (h3 : w.cell? ⟨g, 3, none⟩ = some (.int .u64 by')) (h4 : w.cell? ⟨g, 4, none⟩ = some (.int .u64 cx)) (h5 : w.cell? ⟨g, 5, none⟩ = some (.int .u64 cy)) (hg : g < w.heap.size) (hok : okPts [(ax, ay), (bx, by'), (cx, cy)] = true) :
    Calls Tryz.prog 35 #[.slice (some ⟨g, 0, none⟩) 3 3] w fun e w' => Below w.heap.size w w' ∧ e = .returned (.tuple #[.slice (some ⟨w.heap.size, 0, none⟩) 3 3, .int .i64 0]) ∧ (w'.cell? ⟨w.heap.size, 0, none⟩ = some (.float .f64 ax) ∧ w'.cell? ⟨w.heap.size, 1, none⟩ = some (.float .f64 ay) ∧ w'.cell? ⟨w.heap.size, 2, none⟩ = some (.float .f64 bx) ∧ w'.cell? ⟨w.heap.size, 3, none⟩ = some (.float .f64 by') ∧ w'.cell? ⟨w.heap.size, 4, none⟩ = some (.float .f64 cx) ∧ w'.cell? ⟨w.heap.size, 5, none⟩ = some (.float .f64 cy)) ∧ w.heap.size < w'.heap.size := by
  refine (spots_walk g 3 3 [(ax, ay), (bx, by'), (cx, cy)] w rfl (by decide) hg (pts3 h0 h1 h2 h3 h4 h5) h64).mono ?_
  rintro e w' ⟨hb, ⟨_, rfl, hown⟩ | ⟨h1, _⟩⟩
  · obtain ⟨hc, hl⟩ := own_cells6 hown
    exact ⟨hb, rfl, hc, hl⟩
  · rw [hok] at h1; cases h1

theorem below_cells6 {W W' : World} {G : Nat} {a b c d e f : Value} (h : (W.cell? ⟨G, 0, none⟩ = some a ∧ W.cell? ⟨G, 1, none⟩ = some b ∧ W.cell? ⟨G, 2, none⟩ = some c ∧ W.cell? ⟨G, 3, none⟩ = some d ∧ W.cell? ⟨G, 4, none⟩ = some e ∧ W.cell? ⟨G, 5, none⟩ = some f)) (hG : G < W.heap.size) (hb : Below W.heap.size W W') :
    (W'.cell? ⟨G, 0, none⟩ = some a ∧ W'.cell? ⟨G, 1, none⟩ = some b ∧ W'.cell? ⟨G, 2, none⟩ = some c ∧ W'.cell? ⟨G, 3, none⟩ = some d ∧ W'.cell? ⟨G, 4, none⟩ = some e ∧ W'.cell? ⟨G, 5, none⟩ = some f) ∧ Below W.heap.size W W' := by
  obtain ⟨hc, _⟩ := bcell hb
  rw [hc _ _ hG, hc _ _ hG, hc _ _ hG, hc _ _ hG, hc _ _ hG, hc _ _ hG]
  exact ⟨h, hb⟩

theorem cos_of_ok {ax ay bx by' cx cy : Nat} (hok : okPts [(ax, ay), (bx, by'), (cx, cy)] = true) : (Co ax (valB ax) ∧ Co ay (valB ay)) ∧ (Co bx (valB bx) ∧ Co by' (valB by')) ∧ (Co cx (valB cx) ∧ Co cy (valB cy)) := by
  have hm : (mayB ax = true ∧ mayB ay = true) ∧ (mayB bx = true ∧ mayB by' = true) ∧ (mayB cx = true ∧ mayB cy = true) := by simpa [okPts] using hok
  exact ⟨⟨co_mayB hm.1.1, co_mayB hm.1.2⟩, ⟨co_mayB hm.2.1.1, co_mayB hm.2.1.2⟩, ⟨co_mayB hm.2.2.1, co_mayB hm.2.2.2⟩⟩

end Go.Proofs.YtbjjkfmdkmbcfaaGreat

/-! Whole numbers by limbs of 32 bits, the lowest first. -/
namespace PlLv

/-- 2 ^ 32, n times. -/
def P (n : Nat) : Nat := 4294967296 ^ n

theorem P_zero : P 0 = 1 := rfl
theorem P_succ (n : Nat) : P (n + 1) = 4294967296 * P n := by unfold P; rw [Nat.pow_succ, Nat.mul_comm]
theorem P_pos (n : Nat) : 0 < P n := Nat.pow_pos (by decide)
theorem P_add (a b : Nat) : P (a + b) = P a * P b := Nat.pow_add ..
theorem P_mono {a b : Nat} (h : a ≤ b) : P a ≤ P b := Nat.pow_le_pow_right (by decide) h

def lv : List Nat → Nat
  | [] => 0
  | l :: ls => l + 4294967296 * lv ls

/-- Each limb fits. -/
def Ok (ls : List Nat) : Prop := ∀ l ∈ ls, l < 4294967296

theorem Ok.tail {l : Nat} {ls : List Nat} (h : Ok (l :: ls)) : Ok ls := fun x hx => h x (by simp [hx])
theorem Ok.head {l : Nat} {ls : List Nat} (h : Ok (l :: ls)) : l < 4294967296 := h l (by simp)
theorem Ok.append {a b : List Nat} (h : Ok a) (k : Ok b) : Ok (a ++ b) := fun x hx => by
  rcases List.mem_append.1 hx with hx | hx
  · exact h x hx
  · exact k x hx
theorem Ok.take {a : List Nat} (h : Ok a) (i : Nat) : Ok (a.take i) := fun x hx => h x (List.mem_of_mem_take hx)
theorem Ok.at {a : List Nat} (h : Ok a) (i : Nat) : a.getD i 0 < 4294967296 := by
  rw [List.getD_eq_getElem?_getD]
  by_cases hi : i < a.length
  · rw [List.getElem?_eq_getElem hi]; exact h _ (List.getElem_mem hi)
  · rw [List.getElem?_eq_none (by omega)]; decide

theorem lv_append (a b : List Nat) : lv (a ++ b) = lv a + P a.length * lv b := by
  induction a with
  | nil => simp [lv, P_zero]
  | cons x xs ih =>
    simp only [List.cons_append, lv, List.length_cons, P_succ, ih]
    rw [Nat.mul_add, Nat.mul_assoc]; omega

theorem lv_snoc (a : List Nat) (x : Nat) : lv (a ++ [x]) = lv a + P a.length * x := by
  rw [lv_append]; simp [lv]

theorem lv_lt (a : List Nat) (h : Ok a) : lv a < P a.length := by
  induction a with
  | nil => simp [lv, P_zero]
  | cons x xs ih =>
    have h1 := ih h.tail
    have h2 := h.head
    simp only [lv, List.length_cons, P_succ]
    omega

theorem take_succ_getD (a : List Nat) (i : Nat) (h : i < a.length) : a.take (i + 1) = a.take i ++ [a.getD i 0] := by
  rw [List.take_succ_eq_append_getElem h, List.getD_eq_getElem?_getD, List.getElem?_eq_getElem h]; rfl

theorem lv_take_succ (a : List Nat) (i : Nat) : lv (a.take (i + 1)) = lv (a.take i) + P i * a.getD i 0 := by
  by_cases h : i < a.length
  · rw [take_succ_getD a i h, lv_snoc, List.length_take, Nat.min_eq_left (by omega)]
  · rw [List.take_of_length_le (by omega), List.take_of_length_le (by omega), List.getD_eq_getElem?_getD, List.getElem?_eq_none (by omega)]
    simp

/-- No nought at the end. -/
def Tr (ls : List Nat) : Prop := ∀ n, ls.length = n + 1 → ls.getD n 0 ≠ 0

theorem tr_nil : Tr [] := fun n h => by simp at h

/-- The limbs without noughts at their end. -/
theorem lv_take_zero (a : List Nat) (n : Nat) (h : ∀ t, n ≤ t → a.getD t 0 = 0) : lv (a.take n) = lv a := by
  have key : ∀ k, lv (a.take (n + k)) = lv (a.take n) := by
    intro k
    induction k with
    | zero => rfl
    | succ k ih => rw [← Nat.add_assoc, lv_take_succ, ih, h (n + k) (by omega)]; simp
  have := key a.length
  rw [List.take_of_length_le (by omega)] at this
  exact this.symm

theorem lv_ge (a : List Nat) (h : Tr a) (h0 : a ≠ []) : P (a.length - 1) ≤ lv a := by
  have hp : 0 < a.length := List.length_pos_iff.2 h0
  have h1 := lv_take_succ a (a.length - 1)
  rw [Nat.sub_add_cancel hp, List.take_of_length_le (Nat.le_refl _)] at h1
  have h2 := h (a.length - 1) (by omega)
  have h3 : P (a.length - 1) * 1 ≤ P (a.length - 1) * a.getD (a.length - 1) 0 := Nat.mul_le_mul_left _ (by omega)
  omega

theorem lv_zero_iff (a : List Nat) (h : Tr a) : lv a = 0 ↔ a = [] := by
  constructor
  · intro h0
    by_cases ha : a = []
    · exact ha
    · have := lv_ge a h ha
      have := P_pos (a.length - 1)
      omega
  · rintro rfl; rfl

theorem lt_of_length (a b : List Nat) (ha : Ok a) (hb : Tr b) (h : a.length < b.length) : lv a < lv b := by
  have h1 := lv_lt a ha
  have h2 := lv_ge b hb (by intro h0; rw [h0] at h; simp at h)
  have h3 := P_mono (show a.length ≤ b.length - 1 by omega)
  omega

/-- Two rows that are one from place i + 1 on stand as their limbs at i. -/
theorem lt_of_at (a b : List Nat) (i : Nat) (ha : Ok a) (hl : a.length = b.length) (hi : i < a.length) (hd : ∀ j, i < j → j < a.length → a.getD j 0 = b.getD j 0) (h : a.getD i 0 < b.getD i 0) : lv a < lv b := by
  have key : ∀ k, i + 1 + k ≤ a.length → lv (a.take (i + 1 + k)) < lv (b.take (i + 1 + k)) := by
    intro k
    induction k with
    | zero =>
      intro _
      rw [Nat.add_zero, lv_take_succ, lv_take_succ]
      have h1 := lv_lt (a.take i) (ha.take i)
      rw [List.length_take, Nat.min_eq_left (by omega)] at h1
      have h2 : P i * (a.getD i 0 + 1) ≤ P i * b.getD i 0 := Nat.mul_le_mul_left _ h
      rw [Nat.mul_add] at h2
      omega
    | succ k ih =>
      intro hk
      have := ih (by omega)
      rw [← Nat.add_assoc, lv_take_succ, lv_take_succ, hd (i + 1 + k) (by omega) (by omega)]
      omega
  have := key (a.length - (i + 1)) (by omega)
  rw [List.take_of_length_le (by omega), List.take_of_length_le (by omega)] at this
  exact this

theorem eq_of_all (a b : List Nat) (hl : a.length = b.length) (hd : ∀ j, j < a.length → a.getD j 0 = b.getD j 0) : a = b := by
  apply List.ext_getElem hl
  intro i h1 h2
  have := hd i h1
  rw [List.getD_eq_getElem?_getD, List.getD_eq_getElem?_getD, List.getElem?_eq_getElem h1, List.getElem?_eq_getElem h2] at this
  exact this

/-- How two numbers stand. -/
def cmp (a b : Nat) : Int := if a < b then -1 else if b < a then 1 else 0

/-- A number with its sign. -/
def sv (neg : Bool) (ls : List Nat) : Int := if neg then -(lv ls : Int) else (lv ls : Int)

end PlLv

namespace Go.Proofs.YtbjjkfmdkmbcfaaGreat
open Go.RowKit
open PlLv

def lims (ls : List Nat) : List Value := ls.map fun (n : Nat) => Value.int .u32 (n : Int)

/-- The slice v reads as the limbs ls. -/
structure Lim (w : World) (v : Value) (ls : List Nat) : Prop where
  own : w.ownsRow 0 105 1 v ls.length (lims ls)
  ok : Ok ls
  len : ls.length ≤ 1000

theorem lims_at {ls : List Nat} {t : Nat} (h : t < ls.length) : (lims ls)[t]? = some (.int .u32 ((ls.getD t 0 : Nat) : Int)) := by
  rw [lims, List.getElem?_map, List.getD_eq_getElem?_getD, List.getElem?_eq_getElem h]; rfl

theorem Lim.cases {w : World} {v : Value} {ls : List Nat} (h : Lim w v ls) :
    (v = .slice none 0 0 ∧ ls = []) ∨ ∃ g c, v = .slice (some ⟨g, 0, none⟩) ls.length c ∧ g < w.heap.size ∧ ls.length ≤ c ∧ c ≤ maxLen ∧ ∀ t, t < ls.length → w.cell? ⟨g, t, none⟩ = some (.int .u32 ((ls.getD t 0 : Nat) : Int)) := by
  have ho := h.own
  rcases h.own.2 with ⟨rfl, h0⟩ | ⟨g, c, cur, rfl, hb, hg, hnc, hcm, hcs, htake⟩
  · exact .inl ⟨rfl, List.eq_nil_of_length_eq_zero h0⟩
  · refine .inr ⟨g, c, rfl, lt_of_row hg, hnc, hcm, fun t ht => ?_⟩
    rw [ho.cellAt t (by omega)]
    exact lims_at ht

theorem Lim.kept {w w' : World} {v : Value} {ls : List Nat} (h : Lim w v ls) (hb : Below w.heap.size w w') : Lim w' v ls := ⟨own_kept h.own hb, h.ok, h.len⟩

theorem Lim.cut {w : World} {g c : Nat} {ls : List Nat} (h : Lim w (.slice (some ⟨g, 0, none⟩) ls.length c) ls) (k : Nat) (hk : k ≤ ls.length) : Lim w (.slice (some ⟨g, 0, none⟩) k c) (ls.take k) := by
  have hl : (ls.take k).length = k := by rw [List.length_take]; omega
  refine ⟨?_, h.ok.take k, by have := h.len; omega⟩
  rcases h.own.2 with ⟨h0, _⟩ | ⟨g', c', cur, h0, hb, hg, hnc, hcm, hcs, htake⟩
  · simp at h0
  · simp only [Value.slice.injEq, Option.some.injEq, Addr.mk.injEq, and_true, true_and] at h0
    obtain ⟨rfl, rfl⟩ := h0
    rw [hl]
    refine ⟨by rw [lims, List.length_map, hl]; omega, .inr ⟨g, c, cur, rfl, hb, hg, by omega, hcm, hcs, ?_⟩⟩
    have : cur.toList.take (k * 1) = (cur.toList.take (ls.length * 1)).take k := by rw [List.take_take, Nat.mul_one, Nat.mul_one, Nat.min_eq_left hk]
    rw [this, htake, lims, lims, List.map_take]

set_option maxHeartbeats 400000 in
theorem trim_walk (g c : Nat) (ls : List Nat) (w : World) (hlen : ls.length ≤ 1000) (hc : ls.length ≤ c) (_hcm : c ≤ maxLen) (hcell : ∀ t, t < ls.length → w.cell? ⟨g, t, none⟩ = some (.int .u32 ((ls.getD t 0 : Nat) : Int))) :
    Calls Tryz.prog 61 #[.slice (some ⟨g, 0, none⟩) ls.length c] w fun e w' => ∃ k, k ≤ ls.length ∧ e = .returned (.slice (some ⟨g, 0, none⟩) k c) ∧ Tr (ls.take k) ∧ lv (ls.take k) = lv ls ∧ w' = w := by
  obtain ⟨n, hn⟩ : ∃ n, ls.length = n := ⟨_, rfl⟩
  rw [hn] at hcell hlen hc ⊢
  go_enter Tryz.func61, Tryz.ntmps61
  go_wp2
  go_loop [3] (fun s => ∃ k : Nat, k ≤ n ∧ s = .int .i64 k ∧ ∀ t, k ≤ t → ls.getD t 0 = 0) (fun s => (intOf s).toNat)
  case atStart => exact ⟨n, Nat.le_refl _, rfl, fun t ht => by rw [List.getD_eq_getElem?_getD, List.getElem?_eq_none (by omega)]; rfl⟩
  case round =>
    obtain ⟨k, hk, rfl, hz⟩ := hrel
    have HZ : Hid (∀ t, k ≤ t → ls.getD t 0 = 0) := hz
    clear hz
    rcases Nat.eq_zero_or_pos k with h0 | h0
    · subst h0
      go_wp2
      go_ret
      have e := lv_take_zero ls 0 HZ.out
      exact ⟨0, Nat.zero_le _, rfl, by rw [List.take_zero]; exact tr_nil, e, rfl⟩
    · obtain ⟨m, rfl⟩ : ∃ m, k = m + 1 := ⟨k - 1, by omega⟩
      obtain ⟨x, hx, hcx⟩ : ∃ x : Nat, x = ls.getD m 0 ∧ w.cell? ⟨g, m, none⟩ = some (.int .u32 (x : Int)) := ⟨_, rfl, hcell m (by omega)⟩
      have HX : Hid (x = ls.getD m 0) := hx
      clear hx h0
      by_cases hz : x = 0
      · subst hz
        go_wp2
        go_round
        case rel => exact ⟨m, by omega, by go_num, fun t ht => by rcases Nat.eq_or_lt_of_le ht with h | h; (· rw [← h]; exact HX.out.symm); (· exact HZ.out t h)⟩
        case measure => simp [intOf]
      · have hz' : ((x : Int) == 0) = false := by simpa using hz
        go_wp2
        go_ret
        have hl : (ls.take (m + 1)).length = m + 1 := by rw [List.length_take]; omega
        refine ⟨m + 1, hk, by simp, fun j hj => ?_, lv_take_zero ls (m + 1) HZ.out, rfl⟩
        have : j = m := by omega
        subst this
        rw [List.getD_eq_getElem?_getD, List.getElem?_take, if_pos (by omega), ← List.getD_eq_getElem?_getD, ← HX.out]
        exact hz

set_option maxHeartbeats 400000 in
theorem trim_nil (w : World) : Calls Tryz.prog 61 #[.slice none 0 0] w fun e w' => e = .returned (.slice none 0 0) ∧ w' = w := by
  go_enter Tryz.func61, Tryz.ntmps61
  go_wp2
  refine wp_loop_rounds 1 ?_
  rw [rounds_succ]
  go_wp2
  go_ret
  exact ⟨rfl, rfl⟩

/-- 'trim': the same number, with no nought at its end. -/
theorem trim_any (v : Value) (ls : List Nat) (w : World) (h : Lim w v ls) : Calls Tryz.prog 61 #[v] w fun e w' => ∃ v' ks, e = .returned v' ∧ Lim w v' ks ∧ Tr ks ∧ lv ks = lv ls ∧ w' = w := by
  rcases h.cases with ⟨rfl, rfl⟩ | ⟨g, c, rfl, hg, hnc, hcm, hcell⟩
  · refine (trim_nil w).mono ?_
    rintro e w' ⟨rfl, rfl⟩
    exact ⟨_, [], rfl, h, tr_nil, rfl, rfl⟩
  · refine (trim_walk g c ls w h.len hnc hcm hcell).mono ?_
    rintro e w' ⟨k, hk, rfl, h1, h2, rfl⟩
    exact ⟨_, ls.take k, rfl, h.cut k hk, h1, h2, rfl⟩

end Go.Proofs.YtbjjkfmdkmbcfaaGreat

namespace Go.Proofs.YtbjjkfmdkmbcfaaGreat
open Go.RowKit
open PlLv

set_option maxHeartbeats 400000 in
theorem order_lt (ao bo : Option Addr) (n m c d : Nat) (w : World) (_hn : n ≤ 1000) (_hm : m ≤ 1000) (h : n < m) : Calls Tryz.prog 63 #[.slice ao n c, .slice bo m d] w fun e w' => e = .returned (.int .i64 (-1)) ∧ w' = w := by
  go_enter Tryz.func63, Tryz.ntmps63
  go_wp2
  go_ret
  exact ⟨rfl, rfl⟩

set_option maxHeartbeats 400000 in
theorem order_gt (ao bo : Option Addr) (n m c d : Nat) (w : World) (_hn : n ≤ 1000) (_hm : m ≤ 1000) (h : m < n) : Calls Tryz.prog 63 #[.slice ao n c, .slice bo m d] w fun e w' => e = .returned (.int .i64 1) ∧ w' = w := by
  go_enter Tryz.func63, Tryz.ntmps63
  go_wp2
  go_ret
  exact ⟨rfl, rfl⟩

set_option maxHeartbeats 400000 in
theorem order_zero (ao bo : Option Addr) (c d : Nat) (w : World) : Calls Tryz.prog 63 #[.slice ao 0 c, .slice bo 0 d] w fun e w' => e = .returned (.int .i64 0) ∧ w' = w := by
  go_enter Tryz.func63, Tryz.ntmps63
  go_wp2
  refine wp_loop_rounds 1 ?_
  rw [rounds_succ]
  go_wp2
  go_ret
  exact ⟨rfl, rfl⟩

theorem cmp_lt {a b : Nat} (h : a < b) : cmp a b = -1 := by unfold cmp; rw [if_pos h]
theorem cmp_gt {a b : Nat} (h : b < a) : cmp a b = 1 := by unfold cmp; rw [if_neg (by omega), if_pos h]
theorem cmp_eq {a b : Nat} (h : a = b) : cmp a b = 0 := by unfold cmp; rw [if_neg (by omega), if_neg (by omega)]

set_option maxHeartbeats 1000000 in
theorem order_walk (g1 g2 c d n : Nat) (la lb : List Nat) (w : World) (hn : n ≤ 1000) (hla : la.length = n) (hlb : lb.length = n) (hoa : Ok la) (hob : Ok lb) (hg1 : g1 < w.heap.size) (hg2 : g2 < w.heap.size)
    (hca : ∀ t, t < n → w.cell? ⟨g1, t, none⟩ = some (.int .u32 ((la.getD t 0 : Nat) : Int))) (hcb : ∀ t, t < n → w.cell? ⟨g2, t, none⟩ = some (.int .u32 ((lb.getD t 0 : Nat) : Int))) :
    Calls Tryz.prog 63 #[.slice (some ⟨g1, 0, none⟩) n c, .slice (some ⟨g2, 0, none⟩) n d] w fun e w' => e = .returned (.int .i64 (cmp (lv la) (lv lb))) ∧ Below w.heap.size w w' := by
  go_enter Tryz.func63, Tryz.ntmps63
  go_wp2
  go_loopw [5] (fun s wr => ∃ k : Nat, k ≤ n ∧ s = .int .i64 ((k : Int) - 1) ∧ (∀ j, k ≤ j → j < n → la.getD j 0 = lb.getD j 0) ∧ Below w.heap.size w wr) (fun s _ => (intOf s + 1).toNat)
  case atStart => exact ⟨n, Nat.le_refl _, rfl, fun j h1 h2 => by omega, Below.refl _ _⟩
  case round =>
    obtain ⟨k, hk, rfl, he, hb⟩ := hrel
    have HE : Hid (∀ j, k ≤ j → j < n → la.getD j 0 = lb.getD j 0) := he
    clear he
    rcases Nat.eq_zero_or_pos k with h0 | h0
    · subst h0
      have : la = lb := eq_of_all la lb (by omega) (fun j hj => HE.out j (Nat.zero_le _) (by omega))
      have HC : Hid (cmp (lv la) (lv lb) = 0) := cmp_eq (by rw [this])
      clear this
      go_wp2
      go_ret
      exact ⟨ret_int HC.out.symm, hb⟩
    · obtain ⟨m, rfl⟩ : ∃ m, k = m + 1 := ⟨k - 1, by omega⟩
      clear h0
      obtain ⟨x, y, hx, hy, hcx, hcy⟩ : ∃ x y : Nat, x = la.getD m 0 ∧ y = lb.getD m 0 ∧ wr.cell? ⟨g1, m, none⟩ = some (.int .u32 (x : Int)) ∧ wr.cell? ⟨g2, m, none⟩ = some (.int .u32 (y : Int)) :=
        ⟨_, _, rfl, rfl, (hb.cell (by exact hg1)).trans (hca m (by omega)), (hb.cell (by exact hg2)).trans (hcb m (by omega))⟩
      have hL1 : x < y → lv la < lv lb := fun h => lt_of_at la lb m hoa (by omega) (by omega) (fun j h1 h2 => HE.out j h1 (by omega)) (by rw [← hx, ← hy]; exact h)
      have hL2 : y < x → lv lb < lv la := fun h => lt_of_at lb la m hob (by omega) (by omega) (fun j h1 h2 => (HE.out j h1 (by omega)).symm) (by rw [← hx, ← hy]; exact h)
      have HX : Hid (x = la.getD m 0 ∧ y = lb.getD m 0) := ⟨hx, hy⟩
      have HL : Hid ((x < y → lv la < lv lb) ∧ (y < x → lv lb < lv la)) := ⟨hL1, hL2⟩
      clear hx hy hL1 hL2
      have i1 : ((m : Nat) : Int) < (n : Int) := by omega
      have e1 : ((m + 1 : Nat) : Int) - 1 = (m : Int) := by omega
      rw [e1]
      clear e1
      rcases Nat.lt_trichotomy x y with hxy | hxy | hxy
      · have hne : ((x : Int) != (y : Int)) = true := by simp; omega
        go_wp2
        go_quiet (fail)
        go_wp2
        go_quiet (fail)
        go_wp2
        go_ret
        exact ⟨ret_int (cmp_lt (HL.out.1 hxy)).symm, below_drewN (below_drewN hb _) _⟩
      · subst hxy
        go_wp2
        go_quiet (fail)
        go_wp2
        go_roundw
        case rel => exact ⟨m, by omega, by go_num, fun j h1 h2 => by rcases Nat.eq_or_lt_of_le h1 with h | h; (· rw [← h, ← HX.out.1, ← HX.out.2]); (· exact HE.out j h h2), below_drewN hb _⟩
        case measure => simp [intOf]
      · have hne : ((x : Int) != (y : Int)) = true := by simp; omega
        go_wp2
        go_quiet (fail)
        go_wp2
        go_quiet (fail)
        go_wp2
        go_ret
        exact ⟨ret_int (cmp_gt (HL.out.2 hxy)).symm, below_drewN (below_drewN hb _) _⟩

/-- 'order' of two numbers by their limbs. -/
theorem order_any (va vb : Value) (la lb : List Nat) (w : World) (ha : Lim w va la) (hb : Lim w vb lb) (hta : Tr la) (htb : Tr lb) :
    Calls Tryz.prog 63 #[va, vb] w fun e w' => e = .returned (.int .i64 (cmp (lv la) (lv lb))) ∧ Below w.heap.size w w' := by
  have hla := ha.len
  have hlb := hb.len
  have fin : ∀ (x : Int), cmp (lv la) (lv lb) = x → ∀ {e : Ending} {w' : World}, e = .returned (.int .i64 x) ∧ w' = w → e = .returned (.int .i64 (cmp (lv la) (lv lb))) ∧ Below w.heap.size w w' := by
    rintro x hx e w' ⟨rfl, rfl⟩
    exact ⟨by rw [hx], Below.refl _ _⟩
  have form : ∀ {v : Value} {ls : List Nat}, Lim w v ls → ∃ ao c, v = .slice ao ls.length c := by
    intro v ls h
    rcases h.cases with ⟨rfl, rfl⟩ | ⟨g, c, rfl, _⟩
    · exact ⟨_, _, rfl⟩
    · exact ⟨_, _, rfl⟩
  rcases Nat.lt_trichotomy la.length lb.length with h | h | h
  · obtain ⟨ao, c, rfl⟩ := form ha
    obtain ⟨bo, d, rfl⟩ := form hb
    exact (order_lt ao bo _ _ c d w hla hlb h).mono fun e w' he => fin _ (cmp_lt (lt_of_length la lb ha.ok htb h)) he
  · by_cases h0 : la.length = 0
    · obtain ⟨ao, c, rfl⟩ := form ha
      obtain ⟨bo, d, rfl⟩ := form hb
      have e1 : la = [] := List.eq_nil_of_length_eq_zero h0
      have e2 : lb = [] := List.eq_nil_of_length_eq_zero (by omega)
      subst e1 e2
      exact (order_zero ao bo c d w).mono fun e w' he => fin _ (cmp_eq rfl) he
    · rcases ha.cases with ⟨_, h1⟩ | ⟨g1, c, rfl, hg1, _, _, hc1⟩
      · rw [h1] at h0; exact absurd rfl h0
      · rcases hb.cases with ⟨_, h1⟩ | ⟨g2, d, rfl, hg2, _, _, hc2⟩
        · rw [h1] at h; exact absurd h h0
        · rw [← h] at hc2 ⊢
          exact order_walk g1 g2 c d la.length la lb w hla rfl h.symm ha.ok hb.ok hg1 hg2 hc1 hc2
  · obtain ⟨ao, c, rfl⟩ := form ha
    obtain ⟨bo, d, rfl⟩ := form hb
    exact (order_gt ao bo _ _ c d w hla hlb h).mono fun e w' he => fin _ (cmp_gt (lt_of_length lb la hb.ok hta h)) he

end Go.Proofs.YtbjjkfmdkmbcfaaGreat
