import Derived.Test.YtbjjkfmdkmbcfaaGreatMLs
import Derived.ProofKit
import Derived.Lib.SmallJoins
import Derived.OpenShut
import Derived.ChangeOld
import Derived.Below
import Derived.Carry
import Derived.SizedLaws
import Derived.Deep.SlicePairs
namespace Go.Proofs.YtbjjkfmdkmbcfaaGreat
open Go.ChangeShapes Go.WideShapes Go.ChangeAt Go.RowKit Go.Joins Go.Deep

theorem own : ownKnob Tryz.prog.godebug = none := by kernel_rfl
theorem cellsPt : Tryz.prog.cellsOf 24 = 2 := by kernel_rfl
theorem cellsU : Tryz.prog.cellsOf 22 = 1 := by kernel_rfl
theorem bytesPt : Tryz.prog.bytesOf 24 = 16 := by kernel_rfl
theorem laidOut : laidOutB Tryz.prog = true := by kernel_rfl

theorem nat_of_wf {a : Int} (h : (Lit.int .u64 a).wf = true) : ∃ n : Nat, a = (n : Int) ∧ n < 2 ^ 64 := by
  have h1 := bounds_u64 h
  exact ⟨a.toNat, by omega, by omega⟩

/-- The slice of points that came in. -/
theorem src_open {H : Type} {enc : TypeId × Value → H} {W : World} {v0 : Value} {d0 : DataW H} {p0 : List MemPlace} {fuel : Nat} (h : DataW.trod enc Tryz.prog W 0 (fun _ => true) true fuel 26 [v0] = some (d0, p0)) (hsz : ∀ elems spare, d0 = .slice elems spare → (elems.length + spare.length) * 16 ≤ reachBytes) :
    ∃ (sp : Option Addr) (n sc : Nat) (ps : List (Nat × Nat)), v0 = .slice sp n sc ∧ SrcAt W (.slice sp n sc) n ps ∧ ps.length = n ∧ n ≤ 8796093021952 ∧ ∀ p ∈ ps, p.1 < 2 ^ 64 ∧ p.2 < 2 ^ 64 := by
  rcases open_slice_pairs Tryz.underlying26 Tryz.underlying24 cellsPt rfl rfl cellsU cellsU h with ⟨hc, hx⟩ | ⟨a, len, cap, m, k, V0, V1, D0, D1, P0, P1, hc, _, hl, hm, hmm, hx, hall⟩
  · simp only [List.cons.injEq, and_true] at hc
    exact ⟨none, 0, 0, [], hc, .inl ⟨rfl, rfl⟩, rfl, by omega, fun p hp => by cases hp⟩
  · simp only [List.cons.injEq, and_true] at hc
    simp only [if_true] at hmm
    subst hmm
    simp only [Prod.mk.injEq] at hx
    have hb : m ≤ 8796093021952 := by
      have h1 := hsz _ _ hx.1
      simp at h1
      have h2 : reachBytes = 140737488351232 := by decide
      omega
    have each : ∀ i, i < m → ∃ q : Nat × Nat, V0 i = .int .u64 (q.1 : Nat) ∧ V1 i = .int .u64 (q.2 : Nat) ∧ q.1 < 2 ^ 64 ∧ q.2 < 2 ^ 64 := fun i hi => by
      obtain ⟨_, _, h0, h1⟩ := hall i hi
      obtain ⟨a0, e0, _, w0⟩ := DataW.trod_int Tryz.underlying22 h0
      obtain ⟨a1, e1, _, w1⟩ := DataW.trod_int Tryz.underlying22 h1
      simp only [List.cons.injEq, and_true] at e0 e1
      obtain ⟨n0, rfl, l0⟩ := nat_of_wf w0
      obtain ⟨n1, rfl, l1⟩ := nat_of_wf w1
      exact ⟨(n0, n1), e0, e1, l0, l1⟩
    obtain ⟨q, hq⟩ := choose_lt each
    refine ⟨some a, len, m, (List.range len).map q, hc, ?_, by simp, by omega, ?_⟩
    · by_cases h0 : m = 0
      · have hl0 : len = 0 := by omega
        subst h0 hl0
        exact .inr (.inl ⟨a, rfl, rfl⟩)
      · obtain ⟨sb, so, spot⟩ := a
        have hc0 := (hall 0 (by omega)).1
        have hspot : spot = none := by simpa [Addr.add] using World.cell?_spot hc0
        subst hspot
        have hlt : sb < W.heap.size := by
          have := World.block_lt_of_cell? W _ hc0
          simpa [Addr.add] using this
        refine .inr (.inr ⟨sb, so, m, rfl, hlt, fun t ht => ?_⟩)
        have ht' : t < len := by simpa using ht
        obtain ⟨g0, g1, _, _⟩ := hall t (by omega)
        obtain ⟨e0, e1, _, _⟩ := hq t (by omega)
        have eg : ((List.range len).map q).getD t (0, 0) = q t := by
          rw [List.getD_eq_getElem?_getD, List.getElem?_map, List.getElem?_range ht']; rfl
        have ad : ∀ j, (⟨sb, so, none⟩ : Addr).add j = ⟨sb, so + j, none⟩ := fun j => by unfold Addr.add; split <;> simp_all
        rw [ad, e0] at g0
        rw [ad, e1] at g1
        rw [eg]
        exact ⟨g0, by rw [Nat.add_assoc]; exact g1⟩
    · intro p hp
      obtain ⟨i, hi, rfl⟩ := List.mem_map.1 hp
      have := List.mem_range.1 hi
      obtain ⟨_, _, l0, l1⟩ := hq i (by omega)
      exact ⟨l0, l1⟩

set_option maxRecDepth 100000 in
theorem lifted (os : Os) (started : os.Started) (H : Type) (enc : TypeId × Value → H) :
    ReturnsInHanded {} Tryz.checked os 6 .any (Rows.insidesSpec.pre6 enc Tryz.prog Tryz.f6 Rows.insidesRow.domain false) (Rows.insidesSpec.post enc Tryz.prog Tryz.f6 false true false false) := by
  refine returnsInHanded_of_change_sized (C := Tryz.checked) own started (by kernel_rfl) Tryz.func6
    (ChangeSpec.witness6 (enc := enc) (C := Tryz.checked) false ⟨#[], #[.slice none 0 0, .agg #[.int .u64 0, .int .u64 0]], []⟩ 8 (by kernel_rfl) (by kernel_rfl) (by kernel_rfl) (by kernel_rfl)) ?_
  intro W base args ds gs before hval0 hW _ hsz0 _
  have hsz : (DataW.weightsEach Tryz.prog (Tryz.f6.params.toList ++ Rows.insidesSpec.plain.varTypes Tryz.prog) (ds ++ gs)).all (· ≤ reachBytes) = true := hsz0
  clear hsz0
  have hval : ∀ (j : Nat) t v, Tryz.f6.params[j]? = some t → args[j]? = some v → Value.okWide Tryz.prog W .any base t v := hval0
  have hW' := hW
  obtain ⟨p, q, hA0, hV, rfl, hfz, hnd⟩ := hW
  have hA : DataW.TrodAll enc Tryz.prog W 0 (fun _ => true) true Tryz.f6.params.toList args.toList ds p := hA0
  rw [Tryz.params6] at hA hval
  obtain ⟨v0, v1, d0, d1, p0, p1, rfl, rfl, rfl, h0, h1⟩ := trodAll_two hA
  obtain ⟨rfl, rfl⟩ := trodVars_none hV
  obtain ⟨c0, c1, y0, y1, m0, rfl, rfl, rfl, hy0, hy1⟩ := open_agg2 Tryz.underlying24 (by kernel_rfl) cellsPt (hval 1 24 v1 rfl rfl) h1
  obtain ⟨a0, e0, rfl, w0⟩ := DataW.trod_int Tryz.underlying22 hy0
  obtain ⟨a1, e1, rfl, w1⟩ := DataW.trod_int Tryz.underlying22 hy1
  simp at e0 e1
  subst e0 e1
  clear hA0 hval0
  obtain ⟨n0, rfl, l0⟩ := nat_of_wf w0
  obtain ⟨n1, rfl, l1⟩ := nat_of_wf w1
  simp only [List.append_nil] at hW'
  have hlt : ∀ x ∈ p0, x.block < W.heap.size := fun x hx => by simpa using hW'.lt x hx
  obtain ⟨va, vl, vc, rfl⟩ := okWide_slice Tryz.underlying26 (hval 0 26 v0 rfl rfl)
  have h0k := h0
  obtain ⟨fuel, ht0⟩ := h0
  have hreach : ∀ elems spare, d0 = .slice elems spare → (elems.length + spare.length) * 16 ≤ reachBytes := fun elems spare hd => by
    have hr := sized_slice hsz (j := 0) (t := 26) (e := 24) (elems := elems) (spare := spare) rfl (by rw [hd]; rfl) Tryz.underlying26
    rwa [bytesPt] at hr
  obtain ⟨sp, n, sc, ps, hv0, hsrc, hn, hnb, h64⟩ := src_open (v0 := .slice va vl vc) (by simpa [Value.cells] using ht0) hreach
  simp only [Value.slice.injEq] at hv0
  obtain ⟨rfl, rfl, rfl⟩ := hv0
  have hp64 : ∀ p ∈ [(n0, n1)], p.1 < 2 ^ 64 ∧ p.2 < 2 ^ 64 := by
    intro p hp
    simp at hp
    subst hp
    exact ⟨l0, l1⟩
  have reads : ∀ (W' : World) (sp : Nat → Bool) (a b : Int), (Lit.int .u64 a).wf = true → (Lit.int .u64 b).wf = true → DataW.Trod enc Tryz.prog W' 0 sp true 24 (.agg #[.int .u64 a, .int .u64 b]) (.agg [.lit (.int .u64 a), .lit (.int .u64 b)]) [] := fun W' sp a b wa wb =>
    shut_agg2 (y0 := (.lit (.int .u64 a), [])) (y1 := (.lit (.int .u64 b), [])) Tryz.underlying24 (by kernel_rfl) cellsPt ⟨1, by simp [DataW.trod, Tryz.underlying22, wa]⟩ ⟨1, by simp [DataW.trod, Tryz.underlying22, wb]⟩
  refine (insides_any va vl vc n0 n1 ps W hsrc hn hnb h64 hp64).mono fun e W' ⟨he, bel⟩ => ?_
  subst he
  exact ⟨_, rfl, _, _, _, [], p0 ++ [], [], hW', trodAll_mk1 (shut_bool Tryz.underlying4 _), trodAll_mk2 (Below.trod laidOut (by kernel_rfl) (of_decide_eq_true (by kernel_rfl)) h0k bel hlt) (reads _ _ _ _ w0 w1), rfl, bel.frame _, fun h => by cases h⟩

theorem insides_holds : Rows.InsidesSaid :=
  OpenClaim.holds_of_wide 6 Tryz.f6 rfl rfl rfl rfl rfl rfl rfl ⟨rfl, rfl, rfl, rfl, rfl⟩ rfl rfl rfl rfl rfl (by kernel_rfl) Tryz.func6 (by kernel_rfl)
    (of_decide_eq_true (by kernel_rfl)) (by unfold Func.isWrapper; first | (rw [if_pos (by decide +kernel)]; kernel_rfl) | (rw [if_neg (by decide +kernel)]; exact ⟨rfl, rfl⟩))
    (fun os started H enc _ => lifted os started H enc)

#print axioms insides_holds
end Go.Proofs.YtbjjkfmdkmbcfaaGreat

namespace Go.Proofs.YtbjjkfmdkmbcfaaGreat
open Go.ChangeShapes Go.WideShapes Go.ChangeAt Go.RowKit Go.Joins Go.Deep

/-- A step of a script. -/
structure OpD where
  k : Int
  ax : Nat
  ay : Nat
  bx : Nat
  bY : Nat
  cx : Nat
  cy : Nat
  dx : Nat
  dy : Nat
  lo : Option Addr
  ln : Nat
  lc : Nat
  ps : List (Nat × Nat)

/-- A step as it lies in memory. -/
def OpC (w : World) (b o : Nat) (d : OpD) : Prop := w.cell? ⟨b, o, none⟩ = some (.int .i64 d.k) ∧ w.cell? ⟨b, o + 1, none⟩ = some (.int .u64 d.ax) ∧ w.cell? ⟨b, o + 2, none⟩ = some (.int .u64 d.ay) ∧ w.cell? ⟨b, o + 3, none⟩ = some (.int .u64 d.bx) ∧ w.cell? ⟨b, o + 4, none⟩ = some (.int .u64 d.bY) ∧ w.cell? ⟨b, o + 5, none⟩ = some (.int .u64 d.cx) ∧ w.cell? ⟨b, o + 6, none⟩ = some (.int .u64 d.cy) ∧ w.cell? ⟨b, o + 7, none⟩ = some (.int .u64 d.dx) ∧ w.cell? ⟨b, o + 8, none⟩ = some (.int .u64 d.dy) ∧ w.cell? ⟨b, o + 9, none⟩ = some (.slice d.lo d.ln d.lc)

structure OpOk (w : World) (d : OpD) : Prop where
  src : SrcAt w (.slice d.lo d.ln d.lc) d.ln d.ps
  len : d.ps.length = d.ln
  bound : d.ln ≤ 8796093021952
  p64 : ∀ p ∈ d.ps, p.1 < 2 ^ 64 ∧ p.2 < 2 ^ 64
  c64 : ∀ p ∈ [(d.ax, d.ay), (d.bx, d.bY), (d.cx, d.cy), (d.dx, d.dy)], p.1 < 2 ^ 64 ∧ p.2 < 2 ^ 64

theorem OpC.kept {w w' : World} {b o : Nat} {d : OpD} (h : OpC w b o d) (hg : b < w.heap.size) (hb : Below w.heap.size w w') : OpC w' b o d := by
  have hc : ∀ j, w'.cell? ⟨b, j, none⟩ = w.cell? ⟨b, j, none⟩ := fun j => hb.cell (p := ⟨b, j, none⟩) hg
  unfold OpC
  simp only [hc]
  exact h

theorem OpOk.kept {w w' : World} {d : OpD} (h : OpOk w d) (hb : Below w.heap.size w w') : OpOk w' d := ⟨h.src.kept hb, h.len, h.bound, h.p64, h.c64⟩

theorem cellsOp : Tryz.prog.cellsOf 28 = 10 := by kernel_rfl
theorem cellsInt : Tryz.prog.cellsOf 3 = 1 := by kernel_rfl
theorem cellsSl : Tryz.prog.cellsOf 26 = 1 := by kernel_rfl
theorem bytesOp : Tryz.prog.bytesOf 28 = 96 := by kernel_rfl

theorem weights_all {H : Type} {P : Program} {e : TypeId} {d : DataW H} {q : Nat} (hq : q ∈ d.weights P e) : ∀ {l : List (DataW H)}, d ∈ l → q ∈ DataW.weightsAll P e l
  | [], h => by cases h
  | a :: l, h => by
    rw [DataW.weightsAll]
    rcases List.mem_cons.1 h with rfl | h
    · exact List.mem_append.2 (.inl hq)
    · exact List.mem_append.2 (.inr (weights_all hq h))

set_option maxRecDepth 100000 in
theorem pt_open {H : Type} {enc : TypeId × Value → H} {W : World} {v0 v1 : Value} {x : DataW H × List MemPlace} {fuel : Nat} (h : DataW.trod enc Tryz.prog W 0 (fun _ => true) true fuel 24 [v0, v1] = some x) : ∃ a b : Nat, v0 = .int .u64 a ∧ v1 = .int .u64 b ∧ a < 2 ^ 64 ∧ b < 2 ^ 64 := by
  obtain ⟨xs, k, _, _, _, hxl, hf⟩ := DataW.trod_struct Tryz.underlying24 h
  match xs, hxl with
  | [y0, y1], _ =>
    have g0 := hf 0 _ rfl
    have g1 := hf 1 _ rfl
    simp [cellsU] at g0 g1
    obtain ⟨a0, e0, _, w0⟩ := DataW.trod_int Tryz.underlying22 g0
    obtain ⟨a1, e1, _, w1⟩ := DataW.trod_int Tryz.underlying22 g1
    simp only [List.cons.injEq, and_true] at e0 e1
    obtain ⟨n0, rfl, l0⟩ := nat_of_wf w0
    obtain ⟨n1, rfl, l1⟩ := nat_of_wf w1
    exact ⟨n0, n1, e0, e1, l0, l1⟩

set_option maxRecDepth 100000 in
theorem op_open {H : Type} {enc : TypeId × Value → H} {W : World} {cs : List Value} {x : DataW H × List MemPlace} {fuel b o : Nat} (h : DataW.trod enc Tryz.prog W 0 (fun _ => true) true fuel 28 cs = some x) (hsz : ∀ q ∈ x.1.weights Tryz.prog 28, q ≤ reachBytes) (hc : ∀ j v, cs[j]? = some v → W.cell? ⟨b, o + j, none⟩ = some v) : ∃ d, OpC W b o d ∧ OpOk W d := by
  obtain ⟨xs, k, _, hx, hlen, hxl, hf⟩ := DataW.trod_struct Tryz.underlying28 h
  rw [cellsOp] at hlen
  match xs, hxl, cs, hlen with
  | [y0, y1, y2, y3, y4, y5], _, [v0, v1, v2, v3, v4, v5, v6, v7, v8, v9], _ =>
    have g0 := hf 0 _ rfl
    have g1 := hf 1 _ rfl
    have g2 := hf 2 _ rfl
    have g3 := hf 3 _ rfl
    have g4 := hf 4 _ rfl
    have g5 := hf 5 _ rfl
    simp [cellsInt, cellsPt, cellsSl] at g0 g1 g2 g3 g4 g5
    obtain ⟨k0, e0, _, _⟩ := DataW.trod_int Tryz.underlying3 g0
    simp only [List.cons.injEq, and_true] at e0
    obtain ⟨ax, ay, ea, eb, la, lb⟩ := pt_open g1
    obtain ⟨bx, bY, ec, ed, lc, ld⟩ := pt_open g2
    obtain ⟨cx, cy, ee, ef, le, lf⟩ := pt_open g3
    obtain ⟨dx, dy, eg, eh, lg, lh⟩ := pt_open g4
    obtain ⟨d5, p5⟩ := y5
    subst hx
    obtain ⟨sp, n, sc, ps, hv, hsrc, hn, hnb, h64⟩ := src_open g5 (fun elems spare hd => by
      subst hd
      have h1 := hsz ((elems.length + spare.length) * Tryz.prog.bytesOf 24) (by
        rw [DataW.weights]
        rw [Tryz.underlying28]
        refine DataW.weights_mem_each (j := 5) (t := 26) (d := .slice elems spare) rfl rfl _ ?_
        rw [DataW.weights, Tryz.underlying26]
        exact List.mem_cons_self)
      rwa [bytesPt] at h1)
    subst e0 ea eb ec ed ee ef eg eh hv
    refine ⟨⟨k0, ax, ay, bx, bY, cx, cy, dx, dy, sp, n, sc, ps⟩, ?_, hsrc, hn, hnb, h64, ?_⟩
    · exact ⟨hc 0 _ rfl, hc 1 _ rfl, hc 2 _ rfl, hc 3 _ rfl, hc 4 _ rfl, hc 5 _ rfl, hc 6 _ rfl, hc 7 _ rfl, hc 8 _ rfl, hc 9 _ rfl⟩
    · intro p hp
      simp only [List.mem_cons, List.not_mem_nil, or_false] at hp
      rcases hp with rfl | rfl | rfl | rfl
      · exact ⟨la, lb⟩
      · exact ⟨lc, ld⟩
      · exact ⟨le, lf⟩
      · exact ⟨lg, lh⟩

/-- A script as it lies in memory. -/
def ScrAt (w : World) (va : Option Addr) (n : Nat) (ds : Nat → OpD) : Prop := n = 0 ∨ ∃ sb so, va = some ⟨sb, so, none⟩ ∧ sb < w.heap.size ∧ ∀ i, i < n → OpC w sb (so + i * 10) (ds i) ∧ OpOk w (ds i)

theorem ScrAt.kept {w w' : World} {va : Option Addr} {n : Nat} {ds : Nat → OpD} (h : ScrAt w va n ds) (hb : Below w.heap.size w w') : ScrAt w' va n ds := by
  rcases h with h | ⟨sb, so, rfl, hs, hi⟩
  · exact .inl h
  · exact .inr ⟨sb, so, rfl, Nat.lt_of_lt_of_le hs hb.size, fun i h => ⟨(hi i h).1.kept hs hb, (hi i h).2.kept hb⟩⟩

set_option maxRecDepth 100000 in
theorem script_open {H : Type} {enc : TypeId × Value → H} {W : World} {v0 : Value} {d0 : DataW H} {p0 : List MemPlace} {fuel : Nat} (h : DataW.trod enc Tryz.prog W 0 (fun _ => true) true fuel 29 [v0] = some (d0, p0)) (hsz : ∀ q ∈ d0.weights Tryz.prog 29, q ≤ reachBytes) :
    ∃ (va : Option Addr) (n c : Nat) (ds : Nat → OpD), v0 = .slice va n c ∧ ScrAt W va n ds ∧ n * 96 ≤ 140737488351232 := by
  rcases open_slice Tryz.underlying29 h with ⟨hc, hx⟩ | ⟨a, len, cap, m, k, D, Pl, hc, _, hl, hm, hmm, hx, hall⟩
  · simp only [List.cons.injEq, and_true] at hc
    exact ⟨none, 0, 0, fun _ => ⟨0, 0, 0, 0, 0, 0, 0, 0, 0, none, 0, 0, []⟩, hc, .inl rfl, by omega⟩
  · simp only [List.cons.injEq, and_true] at hc
    simp only [if_true] at hmm
    subst hmm
    simp only [Prod.mk.injEq] at hx
    obtain ⟨rfl, rfl⟩ := hx
    have hn : len * 96 ≤ 140737488351232 := by
      have h1 := hsz _ (by
        rw [DataW.weights, Tryz.underlying29]
        exact List.mem_cons_self)
      rw [bytesOp] at h1
      simp at h1
      have h2 : reachBytes = 140737488351232 := by decide
      omega
    have hin : ∀ i, i < len → ∀ q ∈ (D i).weights Tryz.prog 28, q ≤ reachBytes := fun i hi q hq => hsz q (by
      rw [DataW.weights, Tryz.underlying29]
      refine List.mem_cons_of_mem _ (List.mem_append.2 (.inl (weights_all hq ?_)))
      exact List.mem_map.2 ⟨i, List.mem_range.2 hi, rfl⟩)
    by_cases h0 : len = 0
    · exact ⟨some a, len, m, fun _ => ⟨0, 0, 0, 0, 0, 0, 0, 0, 0, none, 0, 0, []⟩, hc, .inl h0, hn⟩
    · obtain ⟨sb, so, spot⟩ := a
      have hcell : ∀ i, i < len → ∃ cs, DataW.trod enc Tryz.prog W 0 (fun _ => true) true k 28 cs = some (D i, Pl i) ∧ ∀ j v, cs[j]? = some v → W.cell? ((⟨sb, so, spot⟩ : Addr).add (i * 10 + j)) = some v := fun i hi => by
        obtain ⟨cs', h1, h2⟩ := hall i (by omega)
        rw [cellsOp] at h1
        obtain ⟨_, hlen, hcell⟩ := World.cells?_some h1
        refine ⟨cs', h2, fun j v hv => ?_⟩
        have hj : j < cs'.length := by
          rw [← Nat.not_le]
          intro hle
          rw [List.getElem?_eq_none hle] at hv
          cases hv
        have e := hcell j (by omega)
        rw [add_add] at e
        rw [e]
        exact hv
      obtain ⟨cs0, hh0, hc0⟩ := hcell 0 (by omega)
      have hl0 : cs0.length = 10 := by
        obtain ⟨_, _, _, _, hlen, _, _⟩ := DataW.trod_struct Tryz.underlying28 hh0
        rw [cellsOp] at hlen
        exact hlen
      have hcc := hc0 0 cs0[0] (by rw [List.getElem?_eq_getElem (by omega)])
      have hspot : spot = none := by simpa [Addr.add] using World.cell?_spot hcc
      subst hspot
      have hlt : sb < W.heap.size := by
        have := World.block_lt_of_cell? W _ hcc
        simpa [Addr.add] using this
      have ad : ∀ j, (⟨sb, so, none⟩ : Addr).add j = ⟨sb, so + j, none⟩ := fun j => by unfold Addr.add; split <;> simp_all
      have each : ∀ i, i < len → ∃ d, OpC W sb (so + i * 10) d ∧ OpOk W d := fun i hi => by
        obtain ⟨cs, h1, h2⟩ := hcell i hi
        refine op_open h1 (hin i hi) fun j v hv => ?_
        have := h2 j v hv
        rw [ad] at this
        rw [Nat.add_assoc]
        exact this
      have : Nonempty OpD := ⟨⟨0, 0, 0, 0, 0, 0, 0, 0, 0, none, 0, 0, []⟩⟩
      obtain ⟨ds, hds⟩ : ∃ ds : Nat → OpD, ∀ i, i < len → OpC W sb (so + i * 10) (ds i) ∧ OpOk W (ds i) := by
        refine ⟨fun i => if hi : i < len then Classical.choose (each i hi) else ⟨0, 0, 0, 0, 0, 0, 0, 0, 0, none, 0, 0, []⟩, fun i hi => ?_⟩
        simp only [hi, dif_pos]
        exact Classical.choose_spec (each i hi)
      exact ⟨_, len, m, ds, hc, .inr ⟨sb, so, rfl, hlt, hds⟩, hn⟩

end Go.Proofs.YtbjjkfmdkmbcfaaGreat
