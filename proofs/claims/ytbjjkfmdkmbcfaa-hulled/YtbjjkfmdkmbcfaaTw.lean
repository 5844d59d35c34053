import Derived.Test.YtbjjkfmdkmbcfaaPw
namespace Go.Proofs.Ytbjjkfmdkmbcfaa
open Go.RowKit
open PlRd

theorem run_append_types {P : Program} (w : World) (t t2 ty e e2 : TypeId) (ht : P.underlying t = some (.slice e)) (ht2 : P.underlying t2 = some (.slice e2)) (i : TypeInfo) (hi : P.info? e = some i) (b : Option Addr) (n c : Nat) (x : Value) :
    (Builtin.append_ #[t, t2] ty #[.slice b n c, x]).run P w = (Builtin.append_ #[t, t] ty #[.slice b n c, x]).run P w := by
  simp [Builtin.append_, run_underlying ht, run_underlying ht2, sizeOf, typeInfo, hi]

/-- 'append(out, xs...)', out the call's own, xs a slice of another named type. -/
theorem wpList_append_own2 {P : Program} (w : World) {ops : Array Oper} {rest : List Oper} {o : Oper} {a : Act} {Q : Exit → Act → World → Prop} (hgd : o.guard = none) (s x : Operand) (t t2 : TypeId)
    (ho : o.op = .call { callee := .builtin .append, args := #[s, x], argTypes := #[t, t2] })
    (base : Nat) (e e2 : TypeId) (i : TypeInfo) (z : Value) (size bytes : Nat) (ht : P.underlying t = some (.slice e)) (ht2 : P.underlying t2 = some (.slice e2)) (hi : P.info? e = some i) (hz : i.zero = some z)
    (hsize : i.size = size) (hby : i.bytes = bytes) (hzs : z.cells.size = size) (hsz : 0 < size)
    (v : Value) (n : Nat) (xs : List Value) (hs : a.eval s = v) (hown : w.ownsRow base e size v n xs)
    (ad : Addr) (m c : Nat) (news : List Value) (hx : a.eval x = .slice (some ad) m c) (hl : news.length = m * size) (hnews : ∀ j u, news[j]? = some u → w.cell? (ad.add j) = some u) (h1 : ∀ u ∈ news, u.oneCell' = true)
    (h63 : n + m ≤ maxLen) (hbytes : (n + m) * bytes ≤ 140737488355328) (hbase : base ≤ w.heap.size)
    (h : ∀ v' w', w'.ownsRow base e size v' (n + m) (xs ++ news) → w.grownBy w' v.ownBlock → wpList P ops Q rest (a.put o.dst v') w') : wpList P ops Q (o :: rest) a w := by
  refine wpList_plain hgd fun K hK => ?_
  obtain ⟨v', w', hrun, r1, r2, _⟩ := run_append_own (P := P) w base t o.type e i z size bytes ht hi hz hsize hby hzs hsz v n xs hown ad m c news hl hnews h1 h63 hbytes hbase
  obtain ⟨bb, sl, sc, hv⟩ : ∃ bb sl sc, v = .slice bb sl sc := by
    rcases hown.2 with ⟨h, _⟩ | ⟨g, cap, cur, h, _⟩ <;> exact ⟨_, _, _, h⟩
  rw [hv, ← run_append_types w t t2 o.type e e2 ht ht2 i hi, ← hv] at hrun
  unfold Oper.wp
  simp [execOp, ho, resolve, invoke, builtin, hs, hx, hrun, Result.andThen]
  exact hK _ _ (h v' w' r1 r2)

/-- A call's list of numbers. -/
structure Terms (w : World) (g m : Nat) (vs : List Value) (bss : List (List Nat)) (xss : List (List Int)) : Prop where
  lv : vs.length = m
  lb : bss.length = m
  lx : xss.length = m
  lt : g < w.heap.size
  cell : ∀ t, t < m → w.cell? ⟨g, t, none⟩ = some (vs.getD t default)
  num : ∀ t, t < m → NumS w 0 (vs.getD t default) (bss.getD t [])
  is : ∀ t, t < m → IsL (bss.getD t []) (xss.getD t [])

theorem take_next' {α : Type} {l : List α} {k : Nat} (d : α) (h : k < l.length) : l.take (k + 1) = l.take k ++ [l.getD k d] := by
  rw [take_snoc l k h, List.getD_eq_getElem?_getD, List.getElem?_eq_getElem h]; rfl

theorem flat_next {α : Type} {l : List (List α)} {k : Nat} (h : k < l.length) : (l.take (k + 1)).flatten = (l.take k).flatten ++ l.getD k [] := by
  rw [take_next' [] h]; simp

theorem flat_le {α : Type} (l : List (List α)) (k : Nat) : (l.take k).flatten.length ≤ l.flatten.length := by
  have h := congrArg (fun x => (List.flatten x).length) (List.take_append_drop k l)
  simp only [List.flatten_append, List.length_append] at h
  omega

/-- What stands at each step of 'Total'. -/
structure ToRel (w wr : World) (v : Value) (ps : List Int) (hs : List Nat) : Prop where
  hl : IsL hs ps
  own : Num wr w.heap.size v hs
  below : Below w.heap.size w wr

theorem vals_one (bs : List Nat) : ∀ u ∈ vals bs, u.oneCell' = true := by
  intro u hu
  simp [vals] at hu
  obtain ⟨b, _, rfl⟩ := hu
  rfl

theorem news_of {w : World} {g : Nat} {bs : List Nat} (h : ∀ t, t < bs.length → w.cell? ⟨g, t, none⟩ = some (.float .f64 (bs.getD t 0))) : ∀ j u, (vals bs)[j]? = some u → w.cell? ((⟨g, 0, none⟩ : Addr).add j) = some u := by
  intro j u hu
  have hj : j < bs.length := by
    have := (List.getElem?_eq_some_iff.1 hu).1
    simpa [vals] using this
  have hadd : (⟨g, 0, none⟩ : Addr).add j = ⟨g, j, none⟩ := by unfold Addr.add; split <;> simp_all
  rw [hadd, h j hj]
  rw [vals, List.getElem?_map, List.getElem?_eq_getElem hj] at hu
  rw [List.getD_eq_getElem?_getD, List.getElem?_eq_getElem hj]
  exact hu

set_option maxHeartbeats 800000 in
set_option maxRecDepth 100000 in
theorem total_any (g m c : Nat) (vs : List Value) (bss : List (List Nat)) (xss : List (List Int)) (T : Nat) (w : World) (hm : m ≤ 1000) (R0 : Terms w g m vs bss xss) (hlen : bss.flatten.length ≤ 1000000) (hxT : absSum xss.flatten ≤ T) (hT : 2048 * T < LIM) :
    Calls Try.prog 27 #[.slice (some ⟨g, 0, none⟩) m c] w fun e w' => ∃ v' ds, e = .returned v' ∧ NumS w' w.heap.size v' ds ∧ IsL ds (sumAll xss.flatten) ∧ Below w.heap.size w w' := by
  obtain ⟨i0, hi, hz0, hz1, hz2⟩ := info_parts info53
  have HT : Hid (2048 * T < LIM) := hT
  have hlb := R0.lb
  have hlx := R0.lx
  have S0 : ToRel w w (.slice none 0 0) [] [] := ⟨trivial, World.ownsRow_nil _ _ _ _, Below.refl _ _⟩
  clear hT
  go_enter Try.func27, Try.ntmps27
  go_wp2
  go_loopw [3, 8] (fun so si wr => ∃ (k : Nat) (hs : List Nat), si = .int .i64 k ∧ k ≤ m ∧ hs.length = (bss.take k).flatten.length ∧ ToRel w wr so (xss.take k).flatten hs) (fun _ si _ => m - (intOf si).toNat)
  case atStart => exact ⟨0, [], rfl, Nat.zero_le _, by simp, by simpa using S0⟩
  case round =>
    obtain ⟨k, hs, rfl, hk, hhl, R⟩ := hrel
    clear S0
    by_cases hlt : k < m
    · obtain ⟨v, bs, xs, hv, hbs, hxs⟩ : ∃ v bs xs, v = vs.getD k default ∧ bs = bss.getD k [] ∧ xs = xss.getD k [] := ⟨_, _, _, rfl, rfl, rfl⟩
      have hcl := (R.below.cell (p := ⟨g, k, none⟩) (by exact R0.lt)).trans (R0.cell k hlt)
      have hnum := (R0.num k hlt).kept R.below
      have his := R0.is k hlt
      have hfx := flat_next (l := xss) (k := k) (by omega)
      have hfb := flat_next (l := bss) (k := k) (by omega)
      have hle := flat_le bss (k + 1)
      rw [hfb, List.length_append] at hle
      rw [← hv] at hcl hnum
      rw [← hbs] at hnum his hfb hle
      rw [← hxs] at his hfx
      clear hv hbs hxs
      obtain ⟨g1, c1, rfl, _, hg1, hcell1⟩ := hnum.cases
      have HF : Hid ((xss.take (k + 1)).flatten = (xss.take k).flatten ++ xs) := hfx
      have HB : Hid ((bss.take (k + 1)).flatten = (bss.take k).flatten ++ bs) := hfb
      have hb1 : hs.length + bs.length ≤ 1000000 := by omega
      have HH : Hid (hs.length = (bss.take k).flatten.length) := hhl
      have hown := R.own
      have hR1 := R.hl
      have hR2 := R.below
      have hne := news_of hcell1
      clear hfx hfb hle hnum hhl R
      go_wp2_with (at_builtin; refine wpList_append_own2 _ rfl _ _ 56 57 rfl w.heap.size 53 53 i0 (.float .f64 0) 1 8 Try.underlying56 Try.underlying57 hi hz0 hz1 hz2 rfl (by decide) _ hs.length (vals hs) rfl hown ⟨g1, 0, none⟩ bs.length c1 (vals bs) rfl (by simp [vals]) hne (vals_one bs) (by unfold maxLen; omega) (by omega) hR2.size ?_; intro v' w1 h1 h2)
      have e : (hs ++ bs).length = hs.length + bs.length := List.length_append
      have R1 : ToRel w w1 v' ((xss.take (k + 1)).flatten) (hs ++ bs) := by
        refine ⟨by rw [HF.out]; exact hR1.append his, ?_, hR2.grown h2 hR2.size (fun k hk => (World.ownsRow.lt hown k hk).1)⟩
        unfold Num
        rw [e]
        simpa [vals] using h1
      have e2 : (hs ++ bs).length = (bss.take (k + 1)).flatten.length := by rw [HB.out, List.length_append, List.length_append, HH.out]
      clear h1 h2 hown hR1 hR2 e
      go_roundw
      case rel => exact ⟨k + 1, hs ++ bs, by go_num, by omega, e2, R1⟩
      case measure => simp [intOf]; omega
    · have ht : xss.take k = xss := List.take_of_length_le (by omega)
      have ht2 : bss.take k = bss := List.take_of_length_le (by omega)
      rw [ht] at R
      rw [ht2] at hhl
      have hl := R.hl
      have hown := R.own
      have hbel := R.below
      have hlen' : hs.length ≤ 1000000 := by omega
      clear R ht ht2 hhl
      go_wp2_with (go_at_call 38; refine (sum_any _ _ hs _ T _ hown hlen' hl hxT HT.out).mono ?_; rintro e w' ⟨v', ds, rfl, hnum, hds, hb2⟩)
      go_ret
      have hsz := hbel.size
      exact ⟨v', ds, rfl, hnum.base hsz, hds, hbel.trans (hb2.mono hsz)⟩

end Go.Proofs.Ytbjjkfmdkmbcfaa
