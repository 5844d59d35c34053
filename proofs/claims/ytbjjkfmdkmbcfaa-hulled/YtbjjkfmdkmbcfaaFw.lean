import Derived.Test.YtbjjkfmdkmbcfaaRows
import Derived.Test.YtbjjkfmdkmbcfaaParts
import Derived.WalkKit
import Derived.WalkSpells
import Derived.WalkLawsBesides
import Derived.Laws.Externs
namespace Go.Proofs.Ytbjjkfmdkmbcfaa
open Go.RowKit
open PlRd

theorem rnd_le (z : Int) : (rnd z).natAbs ≤ 2 * z.natAbs := by
  have := rnd_err z
  omega

theorem fb_add (x y : Nat) : floatBits .add .f64 x y = Ieee.double.add x y := rfl
theorem fb_sub (x y : Nat) : floatBits .sub .f64 x y = Ieee.double.sub x y := rfl
theorem fb_mul (x y : Nat) : floatBits .mul .f64 x y = Ieee.double.mul x y := rfl

theorem nadd {x y : Int} {a b : Nat} (hx : x.natAbs ≤ a) (hy : y.natAbs ≤ b) : (x + y).natAbs ≤ a + b := by omega
theorem nsub {x y : Int} {a b : Nat} (hx : x.natAbs ≤ a) (hy : y.natAbs ≤ b) : (x - y).natAbs ≤ a + b := by omega
theorem nrnd {z : Int} {a : Nat} (hz : z.natAbs ≤ a) : (rnd z).natAbs ≤ 2 * a := by
  have := rnd_le z
  omega

/-- The steps of 'twoSum', by their bits. -/
theorem two_sum_bits {x y : Nat} {X Y : Int} {B : Nat} (hx : Is x X) (hy : Is y Y) (h1 : X.natAbs ≤ B) (h2 : Y.natAbs ≤ B) (hB : 128 * B < LIM) :
    ∃ h fy fx l1 l2 l, floatBits .add .f64 x y = some h ∧ floatBits .sub .f64 h x = some fy ∧ floatBits .sub .f64 h fy = some fx ∧ floatBits .sub .f64 x fx = some l1 ∧ floatBits .sub .f64 y fy = some l2 ∧
      floatBits .add .f64 l1 l2 = some l ∧ Is h (rnd (X + Y)) ∧ Is l (X + Y - rnd (X + Y)) := by
  have c : ∀ {k m : Nat}, k ≤ m → m ≤ 128 * B → k < LIM := fun h1 h2 => Nat.lt_of_le_of_lt (Nat.le_trans h1 h2) hB
  simp only [fb_add, fb_sub]
  have t1 := nadd h1 h2
  obtain ⟨h, e1, i1⟩ := is_add hx hy (c t1 (by omega))
  have t2 := nsub (nrnd t1) h1
  obtain ⟨fy, e2, i2⟩ := is_sub i1 hx (c t2 (by omega))
  have t3 := nsub (nrnd t1) (nrnd t2)
  obtain ⟨fx, e3, i3⟩ := is_sub i1 i2 (c t3 (by omega))
  have t4 := nsub h1 (nrnd t3)
  obtain ⟨l1, e4, i4⟩ := is_sub hx i3 (c t4 (by omega))
  have t5 := nsub h2 (nrnd t2)
  obtain ⟨l2, e5, i5⟩ := is_sub hy i2 (c t5 (by omega))
  obtain ⟨l, e6, i6⟩ := is_add i4 i5 (c (nadd (nrnd t4) (nrnd t5)) (by omega))
  have ht := two_sum hx.fl hy.fl
  unfold low fromX fromY high at ht
  rw [ht] at i6
  exact ⟨h, fy, fx, l1, l2, l, e1, e2, e3, e4, e5, e6, i1, i6⟩

set_option maxHeartbeats 400000 in
theorem twoSum_walk (x y h fy fx l1 l2 l : Nat) (w : World) (h1 : floatBits .add .f64 x y = some h) (h2 : floatBits .sub .f64 h x = some fy) (h3 : floatBits .sub .f64 h fy = some fx)
    (h4 : floatBits .sub .f64 x fx = some l1) (h5 : floatBits .sub .f64 y fy = some l2) (h6 : floatBits .add .f64 l1 l2 = some l) :
    Calls Try.prog 67 #[.float .f64 x, .float .f64 y] w fun e w' => e = .returned (.tuple #[.float .f64 h, .float .f64 l]) ∧ w' = w := by
  have r1 := run_float_arith (P := Try.prog) w .add 53 .f64 x y h h1
  have r2 := run_float_arith (P := Try.prog) w .sub 53 .f64 _ _ _ h2
  have r3 := run_float_arith (P := Try.prog) w .sub 53 .f64 _ _ _ h3
  have r4 := run_float_arith (P := Try.prog) w .sub 53 .f64 _ _ _ h4
  have r5 := run_float_arith (P := Try.prog) w .sub 53 .f64 _ _ _ h5
  have r6 := run_float_arith (P := Try.prog) w .add 53 .f64 _ _ _ h6
  clear h1 h2 h3 h4 h5 h6
  go_enter Try.func67, Try.ntmps67
  go_wp2
  go_ret2
  exact ⟨rfl, rfl⟩

theorem twoSum_any (x y : Nat) (X Y : Int) (B : Nat) (w : World) (hx : Is x X) (hy : Is y Y) (h1 : X.natAbs ≤ B) (h2 : Y.natAbs ≤ B) (hB : 128 * B < LIM) :
    Calls Try.prog 67 #[.float .f64 x, .float .f64 y] w fun e w' => ∃ h l, e = .returned (.tuple #[.float .f64 h, .float .f64 l]) ∧ Is h (rnd (X + Y)) ∧ Is l (X + Y - rnd (X + Y)) ∧ w' = w := by
  obtain ⟨h, fy, fx, l1, l2, l, e1, e2, e3, e4, e5, e6, ih, il⟩ := two_sum_bits hx hy h1 h2 hB
  refine (twoSum_walk x y h fy fx l1 l2 l w e1 e2 e3 e4 e5 e6).mono ?_
  rintro e w' ⟨rfl, rfl⟩
  exact ⟨h, l, rfl, ih, il, rfl⟩

theorem fma_run (x y z r : Nat) (w : World) (h : Ieee.double.fma x y z = some r) :
    (callFunc 52 #[.float .f64 x, .float .f64 y, .float .f64 z]).run Try.prog w = .ok (.value (.float .f64 r)) w := by
  rw [run_callFunc_extern Try.func52 (by kernel_rfl) (by kernel_rfl) (by kernel_rfl) (e := Extern.MathFMA.fma) (by kernel_rfl)]
  have h' : FloatKind.f64.format.fma x y z = some r := h
  change (Sem.run Try.prog (match FloatKind.f64.format.fma x y z with | some r => pure (Value.float .f64 r) | none => _) w).andThen _ = _
  rw [h']
  rfl

@[go_sem] theorem run_neg_float (b : Nat) (w : World) : (Op.unary UnOp.neg (Value.float .f64 b)).run Try.prog w = .ok (.float .f64 (b ^^^ 9223372036854775808)) w := rfl

set_option maxHeartbeats 400000 in
theorem twoProduct_walk (x y h l : Nat) (w : World) (h1 : floatBits .mul .f64 x y = some h) (h2 : Ieee.double.fma x y (h ^^^ 9223372036854775808) = some l) :
    Calls Try.prog 39 #[.float .f64 x, .float .f64 y] w fun e w' => e = .returned (.tuple #[.float .f64 h, .float .f64 l]) ∧ w' = w := by
  have r1 := run_float_arith (P := Try.prog) w .mul 53 .f64 x y h h1
  have r2 := fma_run x y (h ^^^ 9223372036854775808) l w h2
  clear h1 h2
  go_enter Try.func39, Try.ntmps39
  go_wp2
  go_ret2
  exact ⟨rfl, rfl⟩

theorem rnd_scale (z : Int) (k : Nat) : rnd (z * 2 ^ k) = rnd z * 2 ^ k := by
  induction k with
  | zero => simp
  | succ k ih => rw [Int.pow_succ, ← Int.mul_assoc, Int.mul_comm _ 2, rnd_two, ih, Int.mul_comm 2, Int.mul_assoc]

theorem fl_unscale {w : Int} {k : Nat} (h : Fl (w * 2 ^ k)) : Fl w := by
  obtain ⟨m, e, he, hm⟩ := h
  by_cases hk : k ≤ e
  · obtain ⟨t, rfl⟩ := Nat.exists_eq_add_of_le hk
    rw [Nat.add_comm, Int.pow_add, ← Int.mul_assoc] at he
    exact ⟨m, t, Int.eq_of_mul_eq_mul_right (by have := two_pow_pos k; omega) he, hm⟩
  · obtain ⟨t, rfl⟩ := Nat.exists_eq_add_of_le (show e ≤ k by omega)
    rw [Nat.add_comm, Int.pow_add, ← Int.mul_assoc] at he
    have h1 : w * 2 ^ t = m := Int.eq_of_mul_eq_mul_right (by have := two_pow_pos e; omega) he
    refine ⟨w, 0, by simp, ?_⟩
    rw [← h1, Int.natAbs_mul, natAbs_two_pow] at hm
    exact Nat.le_trans (Nat.le_mul_of_pos_right _ (Nat.two_pow_pos t)) hm

theorem two_product {x y z : Int} (hx : Fl x) (hy : Fl y) (hz : x * y = z * 2 ^ 1074) : Fl (z - rnd z) := by
  have h := fl_perr hx hy
  rw [hz, rnd_scale, ← Int.sub_mul] at h
  exact fl_unscale h

theorem twoProduct_any (x y : Nat) (X Y Z : Int) (w : World) (hx : Is x X) (hy : Is y Y) (hz : X * Y = Z * 2 ^ 1074) (hB : 2 * Z.natAbs < LIM) :
    Calls Try.prog 39 #[.float .f64 x, .float .f64 y] w fun e w' => ∃ h l, e = .returned (.tuple #[.float .f64 h, .float .f64 l]) ∧ Is h (rnd Z) ∧ Is l (Z - rnd Z) ∧ w' = w := by
  obtain ⟨h, e1, i1⟩ := is_mul hx hy hz (by omega)
  have hn := is_neg i1
  have he := rnd_err Z
  obtain ⟨l, e2, i2⟩ := is_fma hx hy hn hz (by rw [← Int.sub_eq_add_neg]; omega)
  rw [← Int.sub_eq_add_neg, rnd_fl (two_product hx.fl hy.fl hz)] at i2
  refine (twoProduct_walk x y h l w e1 e2).mono ?_
  rintro e w' ⟨rfl, rfl⟩
  exact ⟨h, l, rfl, i1, i2, rfl⟩

/-- The parts as cells. -/
def vals (bs : List Nat) : List Value := bs.map (Value.float .f64)

/-- 'append' WITHIN THE CAPACITY of a row that is written out: what stands behind the new elements stays. -/
theorem wpList_append_row {P : Program} (w : World) {ops : Array Oper} {rest : List Oper} {o : Oper} {a : Act} {Q : Exit → Act → World → Prop}
    (hg : o.guard = none) (s x : Operand) (t : TypeId) (hop : o.op = Op.call { callee := Callee.builtin Builtin.append, args := #[s, x], argTypes := #[t, t] })
    (e : TypeId) (i : TypeInfo) (h1 : P.underlying t = some (.slice e)) (h2 : P.info? e = some i) (h4 : i.size = 1)
    (g k cap : Nat) (cur : Array Value) (hs : a.eval s = .slice (some ⟨g, 0, none⟩) k cap) (hgg : w.heap[g]? = some (.cells cur e (0, 0))) (hcs : cur.size = cap) (ad : Addr) (m c : Nat) (news : List Value) (hx : a.eval x = .slice (some ad) m c) (hn : news.length = m)
    (hc : ∀ j u, news[j]? = some u → w.cell? (ad.add j) = some u) (h1c : ∀ u ∈ news, u.oneCell' = true) (b1 : k + m ≤ cap)
    (hK : ∀ w', w'.heap[g]? = some (.cells (cur.toList.take k ++ (news ++ cur.toList.drop (k + m))).toArray e (0, 0)) → w.grownBy w' (some g) → wpList P ops Q rest (a.put o.dst (.slice (some ⟨g, 0, none⟩) (k + m) cap)) w') :
    wpList P ops Q (o :: rest) a w := by
  refine wpList_plain hg fun K hK' => ?_
  have hrun := run_append_room (P := P) w t o.type e i h1 h2 g k cap cur hgg ad m c news (by rw [h4, hn, Nat.mul_one]) hc h1c b1 (by rw [h4]; omega)
  rw [h4, Nat.mul_one, hn] at hrun
  unfold Oper.wp
  simp [execOp, hop, resolve, invoke, builtin, hs, hx, hrun, Result.andThen]
  refine hK' _ _ (hK _ ?_ ⟨rfl, rfl, rfl, by simp, fun k _ hk => setRow_other w g k _ (fun e => hk (by simp [e]))⟩)
  exact setRow_heap w g cur _ e _ hgg

end Go.Proofs.Ytbjjkfmdkmbcfaa
