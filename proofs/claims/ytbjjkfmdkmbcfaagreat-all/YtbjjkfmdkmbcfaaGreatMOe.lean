import Derived.Test.YtbjjkfmdkmbcfaaGreatMOw
namespace Go.Proofs.YtbjjkfmdkmbcfaaGreat
open Go.RowKit
open PlRd

attribute [local go_sem ↓] Go.wp_at_zero Go.wp_at_succ

/-- The way's square; the cross of two ways; what InCircle is the sign of. -/
def sqI (x y : Int) : Int := x * x + y * y
def crI (x y z t : Int) : Int := x * t - y * z
def circI (ux uy vx vy wx wy : Int) : Int := sqI ux uy * crI vx vy wx wy + sqI vx vy * crI wx wy ux uy + sqI wx wy * crI ux uy vx vy

/-- A variable of type way that has been made and not yet written. -/
structure WB (w : World) (b : Nat) : Prop where
  lt : b < w.heap.size
  cs : w.cell? ⟨b, 0, none⟩ = some (.slice none 0 0) ∧ w.cell? ⟨b, 1, none⟩ = some (.slice none 0 0) ∧ w.frozen? ⟨b, 0, none⟩ = false ∧ w.frozen? ⟨b, 1, none⟩ = false
  row : ∀ cur, w.heap[b]? ≠ some (.cells cur 74 (0, 0))

theorem WB.kept {w w' : World} {b : Nat} (h : WB w b) (hb : Below w.heap.size w w') : WB w' b := by
  obtain ⟨hc, hf⟩ := bcell hb
  refine ⟨Nat.lt_of_lt_of_le h.lt hb.size, ?_, ?_⟩
  · rw [hc _ _ h.lt, hc _ _ h.lt, hf _ _ h.lt, hf _ _ h.lt]; exact h.cs
  · rw [hb.block _ h.lt]; exact h.row

theorem WB.new {w : World} {b : Nat} (hb : b = w.heap.size) : WB (w.alloc (.cells #[.slice none 0 0, .slice none 0 0] 81)) b := by
  subst hb
  refine ⟨by simp, by simp [go_sem], fun cur h => ?_⟩
  rw [heap_alloc_new] at h
  simp at h

theorem way_new {w W : World} (hb : Below (w.alloc (.cells #[.slice none 0 0, .slice none 0 0] 81)).heap.size (w.alloc (.cells #[.slice none 0 0, .slice none 0 0] 81)) W) : WB W w.heap.size := (WB.new rfl).kept hb

theorem drew_of {w w' : World} (h : Below w.drew.heap.size w.drew w') : Below w.heap.size w w' := below_step h (Below.refl _ _).drew

theorem way_old {w : World} {o : Obj} {b : Nat} (h : WB w b) : WB (w.alloc o) b := h.kept ((Below.refl _ w).alloc (Nat.le_refl _) o)

/-- A way that lies in memory at p. -/
structure WayAt (w : World) (p : Nat) (u v : Value) (X Y : Int) : Prop where
  lt : p < w.heap.size
  cs : w.cell? ⟨p, 0, none⟩ = some u ∧ w.cell? ⟨p, 1, none⟩ = some v
  nx : Nv w u 0 X 974 1 1176
  ny : Nv w v 0 Y 974 1 1176

theorem WayAt.kept {w w' : World} {p : Nat} {u v : Value} {X Y : Int} (h : WayAt w p u v X Y) (hb : Below w.heap.size w w') : WayAt w' p u v X Y := by
  obtain ⟨hc, _⟩ := bcell hb
  refine ⟨Nat.lt_of_lt_of_le h.lt hb.size, ?_, h.nx.kept hb, h.ny.kept hb⟩
  rw [hc _ _ h.lt, hc _ _ h.lt]; exact h.cs

theorem heap_two (Z : World) (p : Nat) (u v : Value) (g : Nat) (h : g ≠ p) : ((Z.setCell ⟨p, 0, none⟩ u).setCell ⟨p, 1, none⟩ v).heap[g]? = Z.heap[g]? := by
  rw [Below.heap_setCell _ ⟨p, 1, none⟩ v g h, Below.heap_setCell _ ⟨p, 0, none⟩ u g h]

theorem WB.store {Z : World} {p b : Nat} {u v : Value} (h : WB Z b) (hne : b ≠ p) : WB ((Z.setCell ⟨p, 0, none⟩ u).setCell ⟨p, 1, none⟩ v) b := by
  have hh := heap_two Z p u v b hne
  have hsz : ((Z.setCell ⟨p, 0, none⟩ u).setCell ⟨p, 1, none⟩ v).heap.size = Z.heap.size := by simp
  refine ⟨by rw [hsz]; exact h.lt, ?_, by rw [hh]; exact h.row⟩
  have c0 := h.cs
  rw [World.cell?_of_block (w := Z) (a := ⟨b, 0, none⟩) hh, World.cell?_of_block (w := Z) (a := ⟨b, 1, none⟩) hh]
  refine ⟨c0.1, c0.2.1, ?_, ?_⟩
  · have := c0.2.2.1; simpa [go_sem, hne] using this
  · have := c0.2.2.2; simpa [go_sem, hne] using this

theorem WayAt.store {Z : World} {p b : Nat} {u v s t : Value} {X Y : Int} (h : WayAt Z b s t X Y) (hp : WB Z p) (hne : b ≠ p) : WayAt ((Z.setCell ⟨p, 0, none⟩ u).setCell ⟨p, 1, none⟩ v) b s t X Y := by
  have hh := heap_two Z p u v b hne
  have hsz : ((Z.setCell ⟨p, 0, none⟩ u).setCell ⟨p, 1, none⟩ v).heap.size = Z.heap.size := by simp
  refine ⟨by rw [hsz]; exact h.lt, ?_, h.nx.store2 hp.row, h.ny.store2 hp.row⟩
  rw [World.cell?_of_block (w := Z) (a := ⟨b, 0, none⟩) hh, World.cell?_of_block (w := Z) (a := ⟨b, 1, none⟩) hh]
  exact h.cs

theorem way_put {Z : World} {p : Nat} {u v : Value} {X Y : Int} (hp : WB Z p) (h1 : Nv Z u 0 X 974 1 1176) (h2 : Nv Z v 0 Y 974 1 1176) : WayAt ((Z.setCell ⟨p, 0, none⟩ u).setCell ⟨p, 1, none⟩ v) p u v X Y := by
  have hsz : ((Z.setCell ⟨p, 0, none⟩ u).setCell ⟨p, 1, none⟩ v).heap.size = Z.heap.size := by simp
  have c0 := hp.cs
  refine ⟨by rw [hsz]; exact hp.lt, ?_, h1.store2 hp.row, h2.store2 hp.row⟩
  simp [go_sem, c0.1, c0.2.1]

theorem way_fin {W Z : World} {p q r : Nat} {u1 u2 v1 v2 s1 s2 : Value} {XA YA XB YB XC YC : Int} (hp : WB Z p) (hq : WB Z q) (hr : WB Z r) (hpq : p ≠ q) (hpr : p ≠ r) (hqr : q ≠ r) (n1 : Nv Z u1 0 XA 974 1 1176) (n2 : Nv Z u2 0 YA 974 1 1176) (n3 : Nv Z v1 0 XB 974 1 1176) (n4 : Nv Z v2 0 YB 974 1 1176) (n5 : Nv Z s1 0 XC 974 1 1176) (n6 : Nv Z s2 0 YC 974 1 1176) (hB : Below W.heap.size W Z) (bp : W.heap.size ≤ p) (bq : W.heap.size ≤ q) (br : W.heap.size ≤ r) :
    WayAt ((((((Z.setCell ⟨p, 0, none⟩ u1).setCell ⟨p, 1, none⟩ u2).setCell ⟨q, 0, none⟩ v1).setCell ⟨q, 1, none⟩ v2).setCell ⟨r, 0, none⟩ s1).setCell ⟨r, 1, none⟩ s2) p u1 u2 XA YA ∧ WayAt ((((((Z.setCell ⟨p, 0, none⟩ u1).setCell ⟨p, 1, none⟩ u2).setCell ⟨q, 0, none⟩ v1).setCell ⟨q, 1, none⟩ v2).setCell ⟨r, 0, none⟩ s1).setCell ⟨r, 1, none⟩ s2) q v1 v2 XB YB ∧ WayAt ((((((Z.setCell ⟨p, 0, none⟩ u1).setCell ⟨p, 1, none⟩ u2).setCell ⟨q, 0, none⟩ v1).setCell ⟨q, 1, none⟩ v2).setCell ⟨r, 0, none⟩ s1).setCell ⟨r, 1, none⟩ s2) r s1 s2 XC YC ∧ Below W.heap.size W ((((((Z.setCell ⟨p, 0, none⟩ u1).setCell ⟨p, 1, none⟩ u2).setCell ⟨q, 0, none⟩ v1).setCell ⟨q, 1, none⟩ v2).setCell ⟨r, 0, none⟩ s1).setCell ⟨r, 1, none⟩ s2) :=
  ⟨((way_put hp n1 n2).store (hq.store (Ne.symm hpq)) hpq).store ((hr.store (Ne.symm hpr)).store (Ne.symm hqr)) hpr,
    (way_put (hq.store (Ne.symm hpq)) (n3.store2 hp.row) (n4.store2 hp.row)).store ((hr.store (Ne.symm hpr)).store (Ne.symm hqr)) hqr,
    way_put ((hr.store (Ne.symm hpr)).store (Ne.symm hqr)) ((n5.store2 hp.row).store2 (hq.store (Ne.symm hpq)).row) ((n6.store2 hp.row).store2 (hq.store (Ne.symm hpq)).row),
    (((((hB.setCell bp _).setCell bp _).setCell bq _).setCell bq _).setCell br _).setCell br _⟩

theorem prod4_nv (v v2 : Value) (x y : Int) (w : World) (hv : Nv w v 1 x 874 4 1288) (hv2 : Nv w v2 1 y 874 4 1288) :
    Calls Tryz.prog 42 #[v, v2] w fun e w' => ∃ v', e = .returned v' ∧ Nv w' v' 3 (x * y) 674 9 1513 ∧ Below w.heap.size w w' :=
  product_nv v v2 1 1 x y 874 4 1288 874 4 1288 w hv hv2 (by decide) (by decide) (by decide) (by decide)


/-- The operations that read the three ways and lay them into their variables. -/
def circOps : Array Oper := #[{ dst := some 27, op := Op.move (Operand.tmp 10), type := 70, pos := "plumbline.go:34", after := #[], guard := none }, { dst := some 28, op := Op.indexAddr 70 (Operand.tmp 27) (Operand.const (Value.int IntKind.i64 3)), type := 0, pos := "plumbline.go:34", after := #[{ on := 0, ground := Ground.data }], guard := none }, { dst := some 29, op := Op.load 76 (Operand.tmp 28), type := 76, pos := "plumbline.go:34", after := #[{ on := 1, ground := Ground.data }], guard := none }, { dst := some 30, op := Op.move (Operand.tmp 10), type := 70, pos := "plumbline.go:34", after := #[], guard := none }, { dst := some 31, op := Op.indexAddr 70 (Operand.tmp 30) (Operand.const (Value.int IntKind.i64 0)), type := 0, pos := "plumbline.go:34", after := #[{ on := 3, ground := Ground.data }], guard := none }, { dst := some 32, op := Op.load 76 (Operand.tmp 31), type := 76, pos := "plumbline.go:34", after := #[{ on := 4, ground := Ground.data }], guard := none }, { dst := some 33, op := Op.call { callee := Callee.value (Operand.func 38), args := #[Operand.tmp 29, Operand.tmp 32], argTypes := #[76, 76] }, type := 81, pos := "plumbline.go:34", after := #[{ on := 2, ground := Ground.data }, { on := 5, ground := Ground.data }], guard := none }, { dst := some 34, op := Op.move (Operand.tmp 10), type := 70, pos := "plumbline.go:34", after := #[], guard := none }, { dst := some 35, op := Op.indexAddr 70 (Operand.tmp 34) (Operand.const (Value.int IntKind.i64 3)), type := 0, pos := "plumbline.go:34", after := #[{ on := 7, ground := Ground.data }], guard := none }, { dst := some 36, op := Op.load 76 (Operand.tmp 35), type := 76, pos := "plumbline.go:34", after := #[{ on := 8, ground := Ground.data }], guard := none }, { dst := some 37, op := Op.move (Operand.tmp 10), type := 70, pos := "plumbline.go:34", after := #[], guard := none }, { dst := some 38, op := Op.indexAddr 70 (Operand.tmp 37) (Operand.const (Value.int IntKind.i64 1)), type := 0, pos := "plumbline.go:34", after := #[{ on := 10, ground := Ground.data }], guard := none }, { dst := some 39, op := Op.load 76 (Operand.tmp 38), type := 76, pos := "plumbline.go:34", after := #[{ on := 11, ground := Ground.data }], guard := none }, { dst := some 40, op := Op.call { callee := Callee.value (Operand.func 38), args := #[Operand.tmp 36, Operand.tmp 39], argTypes := #[76, 76] }, type := 81, pos := "plumbline.go:34", after := #[{ on := 9, ground := Ground.data }, { on := 12, ground := Ground.data }, { on := 6, ground := Ground.chain }], guard := none }, { dst := some 41, op := Op.move (Operand.tmp 10), type := 70, pos := "plumbline.go:34", after := #[], guard := none }, { dst := some 42, op := Op.indexAddr 70 (Operand.tmp 41) (Operand.const (Value.int IntKind.i64 3)), type := 0, pos := "plumbline.go:34", after := #[{ on := 14, ground := Ground.data }], guard := none }, { dst := some 43, op := Op.load 76 (Operand.tmp 42), type := 76, pos := "plumbline.go:34", after := #[{ on := 15, ground := Ground.data }], guard := none }, { dst := some 44, op := Op.move (Operand.tmp 10), type := 70, pos := "plumbline.go:34", after := #[], guard := none }, { dst := some 45, op := Op.indexAddr 70 (Operand.tmp 44) (Operand.const (Value.int IntKind.i64 2)), type := 0, pos := "plumbline.go:34", after := #[{ on := 17, ground := Ground.data }], guard := none }, { dst := some 46, op := Op.load 76 (Operand.tmp 45), type := 76, pos := "plumbline.go:34", after := #[{ on := 18, ground := Ground.data }], guard := none }, { dst := some 47, op := Op.call { callee := Callee.value (Operand.func 38), args := #[Operand.tmp 43, Operand.tmp 46], argTypes := #[76, 76] }, type := 81, pos := "plumbline.go:34", after := #[{ on := 16, ground := Ground.data }, { on := 19, ground := Ground.data }, { on := 13, ground := Ground.chain }], guard := none }, { dst := some 12, op := Op.alloc 81, type := 0, pos := "plumbline.go:34", after := #[], guard := none }, { dst := some 13, op := Op.alloc 81, type := 0, pos := "plumbline.go:34", after := #[], guard := none }, { dst := some 14, op := Op.alloc 81, type := 0, pos := "plumbline.go:34", after := #[], guard := none }, { dst := none, op := Op.store 81 (Operand.tmp 12) (Operand.tmp 33), type := 0, pos := "plumbline.go:34", after := #[{ on := 21, ground := Ground.data }, { on := 6, ground := Ground.data }, { on := 20, ground := Ground.chain }, { on := 0, ground := Ground.phase }, { on := 1, ground := Ground.phase }, { on := 2, ground := Ground.phase }, { on := 3, ground := Ground.phase }, { on := 4, ground := Ground.phase }, { on := 5, ground := Ground.phase }, { on := 6, ground := Ground.phase }, { on := 7, ground := Ground.textOnly Departure.lateStores }, { on := 8, ground := Ground.textOnly Departure.lateStores }, { on := 9, ground := Ground.textOnly Departure.lateStores }, { on := 10, ground := Ground.textOnly Departure.lateStores }, { on := 11, ground := Ground.textOnly Departure.lateStores }, { on := 12, ground := Ground.textOnly Departure.lateStores }, { on := 13, ground := Ground.textOnly Departure.lateStoresUnsure }, { on := 14, ground := Ground.textOnly Departure.lateStores }, { on := 15, ground := Ground.textOnly Departure.lateStores }, { on := 16, ground := Ground.textOnly Departure.lateStores }, { on := 17, ground := Ground.textOnly Departure.lateStores }, { on := 18, ground := Ground.textOnly Departure.lateStores }, { on := 19, ground := Ground.textOnly Departure.lateStores }, { on := 20, ground := Ground.textOnly Departure.lateStoresUnsure }, { on := 21, ground := Ground.phase }, { on := 22, ground := Ground.phase }, { on := 23, ground := Ground.phase }], guard := none }, { dst := none, op := Op.store 81 (Operand.tmp 13) (Operand.tmp 40), type := 0, pos := "plumbline.go:34", after := #[{ on := 22, ground := Ground.data }, { on := 13, ground := Ground.data }, { on := 24, ground := Ground.chain }, { on := 0, ground := Ground.phase }, { on := 1, ground := Ground.phase }, { on := 2, ground := Ground.phase }, { on := 3, ground := Ground.phase }, { on := 4, ground := Ground.phase }, { on := 5, ground := Ground.phase }, { on := 6, ground := Ground.phase }, { on := 7, ground := Ground.phase }, { on := 8, ground := Ground.phase }, { on := 9, ground := Ground.phase }, { on := 10, ground := Ground.phase }, { on := 11, ground := Ground.phase }, { on := 12, ground := Ground.phase }, { on := 13, ground := Ground.phase }, { on := 14, ground := Ground.textOnly Departure.lateStores }, { on := 15, ground := Ground.textOnly Departure.lateStores }, { on := 16, ground := Ground.textOnly Departure.lateStores }, { on := 17, ground := Ground.textOnly Departure.lateStores }, { on := 18, ground := Ground.textOnly Departure.lateStores }, { on := 19, ground := Ground.textOnly Departure.lateStores }, { on := 20, ground := Ground.textOnly Departure.lateStoresUnsure }, { on := 21, ground := Ground.phase }, { on := 22, ground := Ground.phase }, { on := 23, ground := Ground.phase }, { on := 24, ground := Ground.phase }], guard := none }, { dst := none, op := Op.store 81 (Operand.tmp 14) (Operand.tmp 47), type := 0, pos := "plumbline.go:34", after := #[{ on := 23, ground := Ground.data }, { on := 20, ground := Ground.data }, { on := 25, ground := Ground.chain }, { on := 0, ground := Ground.phase }, { on := 1, ground := Ground.phase }, { on := 2, ground := Ground.phase }, { on := 3, ground := Ground.phase }, { on := 4, ground := Ground.phase }, { on := 5, ground := Ground.phase }, { on := 6, ground := Ground.phase }, { on := 7, ground := Ground.phase }, { on := 8, ground := Ground.phase }, { on := 9, ground := Ground.phase }, { on := 10, ground := Ground.phase }, { on := 11, ground := Ground.phase }, { on := 12, ground := Ground.phase }, { on := 13, ground := Ground.phase }, { on := 14, ground := Ground.phase }, { on := 15, ground := Ground.phase }, { on := 16, ground := Ground.phase }, { on := 17, ground := Ground.phase }, { on := 18, ground := Ground.phase }, { on := 19, ground := Ground.phase }, { on := 20, ground := Ground.phase }, { on := 21, ground := Ground.phase }, { on := 22, ground := Ground.phase }, { on := 23, ground := Ground.phase }, { on := 24, ground := Ground.phase }, { on := 25, ground := Ground.phase }], guard := none }]

set_option maxHeartbeats 40000000 in
set_option maxRecDepth 100000 in
theorem circ_states (G : Nat) (x0 x1 x2 x3 x4 x5 x6 x7 x8 x9 x11 x15 x16 x17 x18 x19 x20 x21 x22 x23 x24 x25 x26 : Value) (ax ay bx by' cx cy dx dy : Nat) (XA YA XB YB XC YC : Int) (W : World) (Q : Exit → Act → World → Prop)
    (KS : ∀ w', Below W.heap.size W w' → (w'.cell? ⟨G, 0, none⟩ = some (.float .f64 ax) ∧ w'.cell? ⟨G, 1, none⟩ = some (.float .f64 ay) ∧ w'.cell? ⟨G, 2, none⟩ = some (.float .f64 bx) ∧ w'.cell? ⟨G, 3, none⟩ = some (.float .f64 by') ∧ w'.cell? ⟨G, 4, none⟩ = some (.float .f64 cx) ∧ w'.cell? ⟨G, 5, none⟩ = some (.float .f64 cy) ∧ w'.cell? ⟨G, 6, none⟩ = some (.float .f64 dx) ∧ w'.cell? ⟨G, 7, none⟩ = some (.float .f64 dy))) (HA : Hid (∀ V, Calls Tryz.prog 38 #[.agg #[.float .f64 dx, .float .f64 dy], .agg #[.float .f64 ax, .float .f64 ay]] V fun e w' => ∃ v1 v2, e = .returned (.agg #[v1, v2]) ∧ Nv w' v1 0 XA 974 1 1176 ∧ Nv w' v2 0 YA 974 1 1176 ∧ Below V.heap.size V w')) (HB : Hid (∀ V, Calls Tryz.prog 38 #[.agg #[.float .f64 dx, .float .f64 dy], .agg #[.float .f64 bx, .float .f64 by']] V fun e w' => ∃ v1 v2, e = .returned (.agg #[v1, v2]) ∧ Nv w' v1 0 XB 974 1 1176 ∧ Nv w' v2 0 YB 974 1 1176 ∧ Below V.heap.size V w')) (HC : Hid (∀ V, Calls Tryz.prog 38 #[.agg #[.float .f64 dx, .float .f64 dy], .agg #[.float .f64 cx, .float .f64 cy]] V fun e w' => ∃ v1 v2, e = .returned (.agg #[v1, v2]) ∧ Nv w' v1 0 XC 974 1 1176 ∧ Nv w' v2 0 YC 974 1 1176 ∧ Below V.heap.size V w')) (hend : ∀ (p q r : Nat) (ga1 na1 ca1 gb1 nb1 cb1 : Nat) (ga2 na2 ca2 gb2 nb2 cb2 : Nat) (ga3 na3 ca3 gb3 nb3 cb3 : Nat) (y : World), WayAt y p (.slice (some ⟨ga1, 0, none⟩) na1 ca1) (.slice (some ⟨gb1, 0, none⟩) nb1 cb1) XA YA → WayAt y q (.slice (some ⟨ga2, 0, none⟩) na2 ca2) (.slice (some ⟨gb2, 0, none⟩) nb2 cb2) XB YB → WayAt y r (.slice (some ⟨ga3, 0, none⟩) na3 ca3) (.slice (some ⟨gb3, 0, none⟩) nb3 cb3) XC YC → Below W.heap.size W y → Q .normal { tmps := #[x0, x1, x2, x3, x4, x5, x6, x7, x8, x9, .slice (some ⟨G, 0, none⟩) 4 4, x11, .pointer (some ⟨p, 0, none⟩), .pointer (some ⟨q, 0, none⟩), .pointer (some ⟨r, 0, none⟩), x15, x16, x17, x18, x19, x20, x21, x22, x23, x24, x25, x26, .slice (some ⟨G, 0, none⟩) 4 4, .pointer (some ⟨G, 6, none⟩), .agg #[.float .f64 dx, .float .f64 dy], .slice (some ⟨G, 0, none⟩) 4 4, .pointer (some ⟨G, 0, none⟩), .agg #[.float .f64 ax, .float .f64 ay], .agg #[.slice (some ⟨ga1, 0, none⟩) na1 ca1, .slice (some ⟨gb1, 0, none⟩) nb1 cb1], .slice (some ⟨G, 0, none⟩) 4 4, .pointer (some ⟨G, 6, none⟩), .agg #[.float .f64 dx, .float .f64 dy], .slice (some ⟨G, 0, none⟩) 4 4, .pointer (some ⟨G, 2, none⟩), .agg #[.float .f64 bx, .float .f64 by'], .agg #[.slice (some ⟨ga2, 0, none⟩) na2 ca2, .slice (some ⟨gb2, 0, none⟩) nb2 cb2], .slice (some ⟨G, 0, none⟩) 4 4, .pointer (some ⟨G, 6, none⟩), .agg #[.float .f64 dx, .float .f64 dy], .slice (some ⟨G, 0, none⟩) 4 4, .pointer (some ⟨G, 4, none⟩), .agg #[.float .f64 cx, .float .f64 cy], .agg #[.slice (some ⟨ga3, 0, none⟩) na3 ca3, .slice (some ⟨gb3, 0, none⟩) nb3 cb3], undef, undef, undef, undef, undef, undef, undef, undef, undef, undef, undef, undef, undef, undef, undef, undef, undef, undef, undef, undef, undef], defers := [] } y) :
    Hid (∀ (fuel : Nat) (listed : Array Bool) (y : World), fuel = 9 → listed = #[true, true, true, true, true, true, false, true, true, true, true, true, true, false, true, true, true, true, true, true, false, false, false, false, false, false, false] → Below W.heap.size W y → wpAnyH Tryz.prog .any circOps Q (fun w' : World => (w'.cell? ⟨G, 0, none⟩ = some (.float .f64 ax) ∧ w'.cell? ⟨G, 1, none⟩ = some (.float .f64 ay) ∧ w'.cell? ⟨G, 2, none⟩ = some (.float .f64 bx) ∧ w'.cell? ⟨G, 3, none⟩ = some (.float .f64 by') ∧ w'.cell? ⟨G, 4, none⟩ = some (.float .f64 cx) ∧ w'.cell? ⟨G, 5, none⟩ = some (.float .f64 cy) ∧ w'.cell? ⟨G, 6, none⟩ = some (.float .f64 dx) ∧ w'.cell? ⟨G, 7, none⟩ = some (.float .f64 dy))) fuel listed { tmps := #[x0, x1, x2, x3, x4, x5, x6, x7, x8, x9, .slice (some ⟨G, 0, none⟩) 4 4, x11, undef, undef, undef, x15, x16, x17, x18, x19, x20, x21, x22, x23, x24, x25, x26, .slice (some ⟨G, 0, none⟩) 4 4, .pointer (some ⟨G, 6, none⟩), .agg #[.float .f64 dx, .float .f64 dy], .slice (some ⟨G, 0, none⟩) 4 4, .pointer (some ⟨G, 0, none⟩), .agg #[.float .f64 ax, .float .f64 ay], undef, .slice (some ⟨G, 0, none⟩) 4 4, .pointer (some ⟨G, 6, none⟩), .agg #[.float .f64 dx, .float .f64 dy], .slice (some ⟨G, 0, none⟩) 4 4, .pointer (some ⟨G, 2, none⟩), .agg #[.float .f64 bx, .float .f64 by'], undef, .slice (some ⟨G, 0, none⟩) 4 4, .pointer (some ⟨G, 6, none⟩), .agg #[.float .f64 dx, .float .f64 dy], .slice (some ⟨G, 0, none⟩) 4 4, .pointer (some ⟨G, 4, none⟩), .agg #[.float .f64 cx, .float .f64 cy], undef, undef, undef, undef, undef, undef, undef, undef, undef, undef, undef, undef, undef, undef, undef, undef, undef, undef, undef, undef, undef, undef], defers := [] } y) := by
  have T3pqr : Hid (∀ (fuel : Nat) (listed : Array Bool) (p q r : Nat) (ga1 na1 ca1 gb1 nb1 cb1 : Nat) (ga2 na2 ca2 gb2 nb2 cb2 : Nat) (ga3 na3 ca3 gb3 nb3 cb3 : Nat) (y : World), fuel = 3 → listed = #[true, true, true, true, true, true, true, true, true, true, true, true, true, true, true, true, true, true, true, true, true, true, true, true, false, false, false] → Below W.heap.size W y → WB y p → W.heap.size ≤ p → WB y q → W.heap.size ≤ q → WB y r → W.heap.size ≤ r → p ≠ q → p ≠ r → q ≠ r → Nv y (.slice (some ⟨ga1, 0, none⟩) na1 ca1) 0 XA 974 1 1176 → Nv y (.slice (some ⟨gb1, 0, none⟩) nb1 cb1) 0 YA 974 1 1176 → Nv y (.slice (some ⟨ga2, 0, none⟩) na2 ca2) 0 XB 974 1 1176 → Nv y (.slice (some ⟨gb2, 0, none⟩) nb2 cb2) 0 YB 974 1 1176 → Nv y (.slice (some ⟨ga3, 0, none⟩) na3 ca3) 0 XC 974 1 1176 → Nv y (.slice (some ⟨gb3, 0, none⟩) nb3 cb3) 0 YC 974 1 1176 → wpAnyH Tryz.prog .any circOps Q (fun w' : World => (w'.cell? ⟨G, 0, none⟩ = some (.float .f64 ax) ∧ w'.cell? ⟨G, 1, none⟩ = some (.float .f64 ay) ∧ w'.cell? ⟨G, 2, none⟩ = some (.float .f64 bx) ∧ w'.cell? ⟨G, 3, none⟩ = some (.float .f64 by') ∧ w'.cell? ⟨G, 4, none⟩ = some (.float .f64 cx) ∧ w'.cell? ⟨G, 5, none⟩ = some (.float .f64 cy) ∧ w'.cell? ⟨G, 6, none⟩ = some (.float .f64 dx) ∧ w'.cell? ⟨G, 7, none⟩ = some (.float .f64 dy))) fuel listed { tmps := #[x0, x1, x2, x3, x4, x5, x6, x7, x8, x9, .slice (some ⟨G, 0, none⟩) 4 4, x11, .pointer (some ⟨p, 0, none⟩), .pointer (some ⟨q, 0, none⟩), .pointer (some ⟨r, 0, none⟩), x15, x16, x17, x18, x19, x20, x21, x22, x23, x24, x25, x26, .slice (some ⟨G, 0, none⟩) 4 4, .pointer (some ⟨G, 6, none⟩), .agg #[.float .f64 dx, .float .f64 dy], .slice (some ⟨G, 0, none⟩) 4 4, .pointer (some ⟨G, 0, none⟩), .agg #[.float .f64 ax, .float .f64 ay], .agg #[.slice (some ⟨ga1, 0, none⟩) na1 ca1, .slice (some ⟨gb1, 0, none⟩) nb1 cb1], .slice (some ⟨G, 0, none⟩) 4 4, .pointer (some ⟨G, 6, none⟩), .agg #[.float .f64 dx, .float .f64 dy], .slice (some ⟨G, 0, none⟩) 4 4, .pointer (some ⟨G, 2, none⟩), .agg #[.float .f64 bx, .float .f64 by'], .agg #[.slice (some ⟨ga2, 0, none⟩) na2 ca2, .slice (some ⟨gb2, 0, none⟩) nb2 cb2], .slice (some ⟨G, 0, none⟩) 4 4, .pointer (some ⟨G, 6, none⟩), .agg #[.float .f64 dx, .float .f64 dy], .slice (some ⟨G, 0, none⟩) 4 4, .pointer (some ⟨G, 4, none⟩), .agg #[.float .f64 cx, .float .f64 cy], .agg #[.slice (some ⟨ga3, 0, none⟩) na3 ca3, .slice (some ⟨gb3, 0, none⟩) nb3 cb3], undef, undef, undef, undef, undef, undef, undef, undef, undef, undef, undef, undef, undef, undef, undef, undef, undef, undef, undef, undef, undef], defers := [] } y) := by
    intro fuel listed p q r ga1 na1 ca1 gb1 nb1 cb1 ga2 na2 ca2 gb2 nb2 cb2 ga3 na3 ca3 gb3 nb3 cb3 y hfu hli hB hp lp hq lq hr lr dpq dpr dqr u1 v1 u2 v2 u3 v3
    subst hfu hli
    unfold circOps
    have hHeld := KS y hB
    have csp := hp.cs
    have csq := hq.cs
    have csr := hr.cs
    have dqp := Ne.symm dpq
    have drp := Ne.symm dpr
    have drq := Ne.symm dqr
    have hfin := way_fin hp hq hr dpq dpr dqr u1 v1 u2 v2 u3 v3 hB lp lq lr
    refine wpAnyH_ready (rs := [24]) (by kernel_rfl) (by simp) ?_
    refine AllReadyH.cons (o := { dst := none, op := Op.store 81 (Operand.tmp 12) (Operand.tmp 33), type := 0, pos := "plumbline.go:34", after := #[{ on := 21, ground := Ground.data }, { on := 6, ground := Ground.data }, { on := 20, ground := Ground.chain }, { on := 0, ground := Ground.phase }, { on := 1, ground := Ground.phase }, { on := 2, ground := Ground.phase }, { on := 3, ground := Ground.phase }, { on := 4, ground := Ground.phase }, { on := 5, ground := Ground.phase }, { on := 6, ground := Ground.phase }, { on := 7, ground := Ground.textOnly Departure.lateStores }, { on := 8, ground := Ground.textOnly Departure.lateStores }, { on := 9, ground := Ground.textOnly Departure.lateStores }, { on := 10, ground := Ground.textOnly Departure.lateStores }, { on := 11, ground := Ground.textOnly Departure.lateStores }, { on := 12, ground := Ground.textOnly Departure.lateStores }, { on := 13, ground := Ground.textOnly Departure.lateStoresUnsure }, { on := 14, ground := Ground.textOnly Departure.lateStores }, { on := 15, ground := Ground.textOnly Departure.lateStores }, { on := 16, ground := Ground.textOnly Departure.lateStores }, { on := 17, ground := Ground.textOnly Departure.lateStores }, { on := 18, ground := Ground.textOnly Departure.lateStores }, { on := 19, ground := Ground.textOnly Departure.lateStores }, { on := 20, ground := Ground.textOnly Departure.lateStoresUnsure }, { on := 21, ground := Ground.phase }, { on := 22, ground := Ground.phase }, { on := 23, ground := Ground.phase }], guard := none }) rfl (fun K hK => ?_) AllReadyH.nil
    go_simp
    refine hK.out _ _ (KS _ (by repeat (with_reducible first | refine Below.setCell ?_ (by first | (dsimp only; omega) | omega | (simp; done) | (simp; omega)) _ | exact hB))) (fun _ => ?_)
    clear hK K
    (try simp only [List.setIfInBounds_toArray, List.set_cons_zero, List.set_cons_succ])
    refine wpAnyH_ready (rs := [25]) (by kernel_rfl) (by simp) ?_
    refine AllReadyH.cons (o := { dst := none, op := Op.store 81 (Operand.tmp 13) (Operand.tmp 40), type := 0, pos := "plumbline.go:34", after := #[{ on := 22, ground := Ground.data }, { on := 13, ground := Ground.data }, { on := 24, ground := Ground.chain }, { on := 0, ground := Ground.phase }, { on := 1, ground := Ground.phase }, { on := 2, ground := Ground.phase }, { on := 3, ground := Ground.phase }, { on := 4, ground := Ground.phase }, { on := 5, ground := Ground.phase }, { on := 6, ground := Ground.phase }, { on := 7, ground := Ground.phase }, { on := 8, ground := Ground.phase }, { on := 9, ground := Ground.phase }, { on := 10, ground := Ground.phase }, { on := 11, ground := Ground.phase }, { on := 12, ground := Ground.phase }, { on := 13, ground := Ground.phase }, { on := 14, ground := Ground.textOnly Departure.lateStores }, { on := 15, ground := Ground.textOnly Departure.lateStores }, { on := 16, ground := Ground.textOnly Departure.lateStores }, { on := 17, ground := Ground.textOnly Departure.lateStores }, { on := 18, ground := Ground.textOnly Departure.lateStores }, { on := 19, ground := Ground.textOnly Departure.lateStores }, { on := 20, ground := Ground.textOnly Departure.lateStoresUnsure }, { on := 21, ground := Ground.phase }, { on := 22, ground := Ground.phase }, { on := 23, ground := Ground.phase }, { on := 24, ground := Ground.phase }], guard := none }) rfl (fun K hK => ?_) AllReadyH.nil
    go_simp
    refine hK.out _ _ (KS _ (by repeat (with_reducible first | refine Below.setCell ?_ (by first | (dsimp only; omega) | omega | (simp; done) | (simp; omega)) _ | exact hB))) (fun _ => ?_)
    clear hK K
    (try simp only [List.setIfInBounds_toArray, List.set_cons_zero, List.set_cons_succ])
    refine wpAnyH_ready (rs := [26]) (by kernel_rfl) (by simp) ?_
    refine AllReadyH.cons (o := { dst := none, op := Op.store 81 (Operand.tmp 14) (Operand.tmp 47), type := 0, pos := "plumbline.go:34", after := #[{ on := 23, ground := Ground.data }, { on := 20, ground := Ground.data }, { on := 25, ground := Ground.chain }, { on := 0, ground := Ground.phase }, { on := 1, ground := Ground.phase }, { on := 2, ground := Ground.phase }, { on := 3, ground := Ground.phase }, { on := 4, ground := Ground.phase }, { on := 5, ground := Ground.phase }, { on := 6, ground := Ground.phase }, { on := 7, ground := Ground.phase }, { on := 8, ground := Ground.phase }, { on := 9, ground := Ground.phase }, { on := 10, ground := Ground.phase }, { on := 11, ground := Ground.phase }, { on := 12, ground := Ground.phase }, { on := 13, ground := Ground.phase }, { on := 14, ground := Ground.phase }, { on := 15, ground := Ground.phase }, { on := 16, ground := Ground.phase }, { on := 17, ground := Ground.phase }, { on := 18, ground := Ground.phase }, { on := 19, ground := Ground.phase }, { on := 20, ground := Ground.phase }, { on := 21, ground := Ground.phase }, { on := 22, ground := Ground.phase }, { on := 23, ground := Ground.phase }, { on := 24, ground := Ground.phase }, { on := 25, ground := Ground.phase }], guard := none }) rfl (fun K hK => ?_) AllReadyH.nil
    go_simp
    refine hK.out _ _ (KS _ (by repeat (with_reducible first | refine Below.setCell ?_ (by first | (dsimp only; omega) | omega | (simp; done) | (simp; omega)) _ | exact hB))) (fun _ => ?_)
    clear hK K
    (try simp only [List.setIfInBounds_toArray, List.set_cons_zero, List.set_cons_succ])
    refine wpAnyH_done (by kernel_rfl) ?_ _
    exact hend p q r ga1 na1 ca1 gb1 nb1 cb1 ga2 na2 ca2 gb2 nb2 cb2 ga3 na3 ca3 gb3 nb3 cb3 _ hfin.1 hfin.2.1 hfin.2.2.1 hfin.2.2.2
  have T2pqr : Hid (∀ (fuel : Nat) (listed : Array Bool) (p q r : Nat) (ga1 na1 ca1 gb1 nb1 cb1 : Nat) (ga2 na2 ca2 gb2 nb2 cb2 : Nat) (y : World), fuel = 4 → listed = #[true, true, true, true, true, true, true, true, true, true, true, true, true, true, true, true, true, true, true, true, false, true, true, true, false, false, false] → Below W.heap.size W y → WB y p → W.heap.size ≤ p → WB y q → W.heap.size ≤ q → WB y r → W.heap.size ≤ r → p ≠ q → p ≠ r → q ≠ r → Nv y (.slice (some ⟨ga1, 0, none⟩) na1 ca1) 0 XA 974 1 1176 → Nv y (.slice (some ⟨gb1, 0, none⟩) nb1 cb1) 0 YA 974 1 1176 → Nv y (.slice (some ⟨ga2, 0, none⟩) na2 ca2) 0 XB 974 1 1176 → Nv y (.slice (some ⟨gb2, 0, none⟩) nb2 cb2) 0 YB 974 1 1176 → wpAnyH Tryz.prog .any circOps Q (fun w' : World => (w'.cell? ⟨G, 0, none⟩ = some (.float .f64 ax) ∧ w'.cell? ⟨G, 1, none⟩ = some (.float .f64 ay) ∧ w'.cell? ⟨G, 2, none⟩ = some (.float .f64 bx) ∧ w'.cell? ⟨G, 3, none⟩ = some (.float .f64 by') ∧ w'.cell? ⟨G, 4, none⟩ = some (.float .f64 cx) ∧ w'.cell? ⟨G, 5, none⟩ = some (.float .f64 cy) ∧ w'.cell? ⟨G, 6, none⟩ = some (.float .f64 dx) ∧ w'.cell? ⟨G, 7, none⟩ = some (.float .f64 dy))) fuel listed { tmps := #[x0, x1, x2, x3, x4, x5, x6, x7, x8, x9, .slice (some ⟨G, 0, none⟩) 4 4, x11, .pointer (some ⟨p, 0, none⟩), .pointer (some ⟨q, 0, none⟩), .pointer (some ⟨r, 0, none⟩), x15, x16, x17, x18, x19, x20, x21, x22, x23, x24, x25, x26, .slice (some ⟨G, 0, none⟩) 4 4, .pointer (some ⟨G, 6, none⟩), .agg #[.float .f64 dx, .float .f64 dy], .slice (some ⟨G, 0, none⟩) 4 4, .pointer (some ⟨G, 0, none⟩), .agg #[.float .f64 ax, .float .f64 ay], .agg #[.slice (some ⟨ga1, 0, none⟩) na1 ca1, .slice (some ⟨gb1, 0, none⟩) nb1 cb1], .slice (some ⟨G, 0, none⟩) 4 4, .pointer (some ⟨G, 6, none⟩), .agg #[.float .f64 dx, .float .f64 dy], .slice (some ⟨G, 0, none⟩) 4 4, .pointer (some ⟨G, 2, none⟩), .agg #[.float .f64 bx, .float .f64 by'], .agg #[.slice (some ⟨ga2, 0, none⟩) na2 ca2, .slice (some ⟨gb2, 0, none⟩) nb2 cb2], .slice (some ⟨G, 0, none⟩) 4 4, .pointer (some ⟨G, 6, none⟩), .agg #[.float .f64 dx, .float .f64 dy], .slice (some ⟨G, 0, none⟩) 4 4, .pointer (some ⟨G, 4, none⟩), .agg #[.float .f64 cx, .float .f64 cy], undef, undef, undef, undef, undef, undef, undef, undef, undef, undef, undef, undef, undef, undef, undef, undef, undef, undef, undef, undef, undef, undef], defers := [] } y) := by
    intro fuel listed p q r ga1 na1 ca1 gb1 nb1 cb1 ga2 na2 ca2 gb2 nb2 cb2 y hfu hli hB hp lp hq lq hr lr dpq dpr dqr u1 v1 u2 v2
    subst hfu hli
    unfold circOps
    have hHeld := KS y hB
    refine wpAnyH_ready (rs := [20]) (by kernel_rfl) (by simp) ?_
    refine AllReadyH.cons (o := { dst := some 47, op := Op.call { callee := Callee.value (Operand.func 38), args := #[Operand.tmp 43, Operand.tmp 46], argTypes := #[76, 76] }, type := 81, pos := "plumbline.go:34", after := #[{ on := 16, ground := Ground.data }, { on := 19, ground := Ground.data }, { on := 13, ground := Ground.chain }], guard := none }) rfl (fun K hK => ?_) ?_
    · go_simp
      (go_at_call 38; refine (HC.out _).mono ?_; rintro e y1 ⟨z1, z2, rfl, hz1, hz2, hb1⟩)
      obtain ⟨ga3, na3, ca3, he1⟩ := hz1.form
      subst he1
      obtain ⟨gb3, nb3, cb3, he2⟩ := hz2.form
      subst he2
      have hB1 : Below W.heap.size W y1 := below_step hb1 hB
      (try go_wp2_with fail)
      refine hK.out _ _ (KS y1 hB1) (fun _ => ?_)
      clear hK K
      (try simp only [List.setIfInBounds_toArray, List.set_cons_zero, List.set_cons_succ])
      exact T3pqr.out _ _ p q r ga1 na1 ca1 gb1 nb1 cb1 ga2 na2 ca2 gb2 nb2 cb2 ga3 na3 ca3 gb3 nb3 cb3 y1 rfl (by kernel_rfl) hB1 (hp.kept hb1) lp (hq.kept hb1) lq (hr.kept hb1) lr dpq dpr dqr (u1.kept hb1) (v1.kept hb1) (u2.kept hb1) (v2.kept hb1) hz1 hz2
    exact AllReadyH.nil
  have T3pq : Hid (∀ (fuel : Nat) (listed : Array Bool) (p q : Nat) (ga1 na1 ca1 gb1 nb1 cb1 : Nat) (ga2 na2 ca2 gb2 nb2 cb2 : Nat) (ga3 na3 ca3 gb3 nb3 cb3 : Nat) (y : World), fuel = 4 → listed = #[true, true, true, true, true, true, true, true, true, true, true, true, true, true, true, true, true, true, true, true, true, true, true, false, false, false, false] → Below W.heap.size W y → WB y p → W.heap.size ≤ p → WB y q → W.heap.size ≤ q → p ≠ q → Nv y (.slice (some ⟨ga1, 0, none⟩) na1 ca1) 0 XA 974 1 1176 → Nv y (.slice (some ⟨gb1, 0, none⟩) nb1 cb1) 0 YA 974 1 1176 → Nv y (.slice (some ⟨ga2, 0, none⟩) na2 ca2) 0 XB 974 1 1176 → Nv y (.slice (some ⟨gb2, 0, none⟩) nb2 cb2) 0 YB 974 1 1176 → Nv y (.slice (some ⟨ga3, 0, none⟩) na3 ca3) 0 XC 974 1 1176 → Nv y (.slice (some ⟨gb3, 0, none⟩) nb3 cb3) 0 YC 974 1 1176 → wpAnyH Tryz.prog .any circOps Q (fun w' : World => (w'.cell? ⟨G, 0, none⟩ = some (.float .f64 ax) ∧ w'.cell? ⟨G, 1, none⟩ = some (.float .f64 ay) ∧ w'.cell? ⟨G, 2, none⟩ = some (.float .f64 bx) ∧ w'.cell? ⟨G, 3, none⟩ = some (.float .f64 by') ∧ w'.cell? ⟨G, 4, none⟩ = some (.float .f64 cx) ∧ w'.cell? ⟨G, 5, none⟩ = some (.float .f64 cy) ∧ w'.cell? ⟨G, 6, none⟩ = some (.float .f64 dx) ∧ w'.cell? ⟨G, 7, none⟩ = some (.float .f64 dy))) fuel listed { tmps := #[x0, x1, x2, x3, x4, x5, x6, x7, x8, x9, .slice (some ⟨G, 0, none⟩) 4 4, x11, .pointer (some ⟨p, 0, none⟩), .pointer (some ⟨q, 0, none⟩), undef, x15, x16, x17, x18, x19, x20, x21, x22, x23, x24, x25, x26, .slice (some ⟨G, 0, none⟩) 4 4, .pointer (some ⟨G, 6, none⟩), .agg #[.float .f64 dx, .float .f64 dy], .slice (some ⟨G, 0, none⟩) 4 4, .pointer (some ⟨G, 0, none⟩), .agg #[.float .f64 ax, .float .f64 ay], .agg #[.slice (some ⟨ga1, 0, none⟩) na1 ca1, .slice (some ⟨gb1, 0, none⟩) nb1 cb1], .slice (some ⟨G, 0, none⟩) 4 4, .pointer (some ⟨G, 6, none⟩), .agg #[.float .f64 dx, .float .f64 dy], .slice (some ⟨G, 0, none⟩) 4 4, .pointer (some ⟨G, 2, none⟩), .agg #[.float .f64 bx, .float .f64 by'], .agg #[.slice (some ⟨ga2, 0, none⟩) na2 ca2, .slice (some ⟨gb2, 0, none⟩) nb2 cb2], .slice (some ⟨G, 0, none⟩) 4 4, .pointer (some ⟨G, 6, none⟩), .agg #[.float .f64 dx, .float .f64 dy], .slice (some ⟨G, 0, none⟩) 4 4, .pointer (some ⟨G, 4, none⟩), .agg #[.float .f64 cx, .float .f64 cy], .agg #[.slice (some ⟨ga3, 0, none⟩) na3 ca3, .slice (some ⟨gb3, 0, none⟩) nb3 cb3], undef, undef, undef, undef, undef, undef, undef, undef, undef, undef, undef, undef, undef, undef, undef, undef, undef, undef, undef, undef, undef], defers := [] } y) := by
    intro fuel listed p q ga1 na1 ca1 gb1 nb1 cb1 ga2 na2 ca2 gb2 nb2 cb2 ga3 na3 ca3 gb3 nb3 cb3 y hfu hli hB hp lp hq lq dpq u1 v1 u2 v2 u3 v3
    subst hfu hli
    unfold circOps
    have hHeld := KS y hB
    refine wpAnyH_ready (rs := [23]) (by kernel_rfl) (by simp) ?_
    refine AllReadyH.cons (o := { dst := some 14, op := Op.alloc 81, type := 0, pos := "plumbline.go:34", after := #[], guard := none }) rfl (fun K hK => ?_) ?_
    · go_simp
      refine hK.out _ _ (KS _ (below_alloc _ hB)) (fun _ => ?_)
      clear hK K
      (try simp only [List.setIfInBounds_toArray, List.set_cons_zero, List.set_cons_succ])
      exact T3pqr.out _ _ p q y.heap.size ga1 na1 ca1 gb1 nb1 cb1 ga2 na2 ca2 gb2 nb2 cb2 ga3 na3 ca3 gb3 nb3 cb3 _ rfl (by kernel_rfl) (below_alloc _ hB) (hp.kept ((Below.refl _ y).alloc (Nat.le_refl _) _)) lp (hq.kept ((Below.refl _ y).alloc (Nat.le_refl _) _)) lq (WB.new rfl) hB.size dpq (Nat.ne_of_lt hp.lt) (Nat.ne_of_lt hq.lt) (u1.kept ((Below.refl _ y).alloc (Nat.le_refl _) _)) (v1.kept ((Below.refl _ y).alloc (Nat.le_refl _) _)) (u2.kept ((Below.refl _ y).alloc (Nat.le_refl _) _)) (v2.kept ((Below.refl _ y).alloc (Nat.le_refl _) _)) (u3.kept ((Below.refl _ y).alloc (Nat.le_refl _) _)) (v3.kept ((Below.refl _ y).alloc (Nat.le_refl _) _))
    exact AllReadyH.nil
  have T3pr : Hid (∀ (fuel : Nat) (listed : Array Bool) (p r : Nat) (ga1 na1 ca1 gb1 nb1 cb1 : Nat) (ga2 na2 ca2 gb2 nb2 cb2 : Nat) (ga3 na3 ca3 gb3 nb3 cb3 : Nat) (y : World), fuel = 4 → listed = #[true, true, true, true, true, true, true, true, true, true, true, true, true, true, true, true, true, true, true, true, true, true, false, true, false, false, false] → Below W.heap.size W y → WB y p → W.heap.size ≤ p → WB y r → W.heap.size ≤ r → p ≠ r → Nv y (.slice (some ⟨ga1, 0, none⟩) na1 ca1) 0 XA 974 1 1176 → Nv y (.slice (some ⟨gb1, 0, none⟩) nb1 cb1) 0 YA 974 1 1176 → Nv y (.slice (some ⟨ga2, 0, none⟩) na2 ca2) 0 XB 974 1 1176 → Nv y (.slice (some ⟨gb2, 0, none⟩) nb2 cb2) 0 YB 974 1 1176 → Nv y (.slice (some ⟨ga3, 0, none⟩) na3 ca3) 0 XC 974 1 1176 → Nv y (.slice (some ⟨gb3, 0, none⟩) nb3 cb3) 0 YC 974 1 1176 → wpAnyH Tryz.prog .any circOps Q (fun w' : World => (w'.cell? ⟨G, 0, none⟩ = some (.float .f64 ax) ∧ w'.cell? ⟨G, 1, none⟩ = some (.float .f64 ay) ∧ w'.cell? ⟨G, 2, none⟩ = some (.float .f64 bx) ∧ w'.cell? ⟨G, 3, none⟩ = some (.float .f64 by') ∧ w'.cell? ⟨G, 4, none⟩ = some (.float .f64 cx) ∧ w'.cell? ⟨G, 5, none⟩ = some (.float .f64 cy) ∧ w'.cell? ⟨G, 6, none⟩ = some (.float .f64 dx) ∧ w'.cell? ⟨G, 7, none⟩ = some (.float .f64 dy))) fuel listed { tmps := #[x0, x1, x2, x3, x4, x5, x6, x7, x8, x9, .slice (some ⟨G, 0, none⟩) 4 4, x11, .pointer (some ⟨p, 0, none⟩), undef, .pointer (some ⟨r, 0, none⟩), x15, x16, x17, x18, x19, x20, x21, x22, x23, x24, x25, x26, .slice (some ⟨G, 0, none⟩) 4 4, .pointer (some ⟨G, 6, none⟩), .agg #[.float .f64 dx, .float .f64 dy], .slice (some ⟨G, 0, none⟩) 4 4, .pointer (some ⟨G, 0, none⟩), .agg #[.float .f64 ax, .float .f64 ay], .agg #[.slice (some ⟨ga1, 0, none⟩) na1 ca1, .slice (some ⟨gb1, 0, none⟩) nb1 cb1], .slice (some ⟨G, 0, none⟩) 4 4, .pointer (some ⟨G, 6, none⟩), .agg #[.float .f64 dx, .float .f64 dy], .slice (some ⟨G, 0, none⟩) 4 4, .pointer (some ⟨G, 2, none⟩), .agg #[.float .f64 bx, .float .f64 by'], .agg #[.slice (some ⟨ga2, 0, none⟩) na2 ca2, .slice (some ⟨gb2, 0, none⟩) nb2 cb2], .slice (some ⟨G, 0, none⟩) 4 4, .pointer (some ⟨G, 6, none⟩), .agg #[.float .f64 dx, .float .f64 dy], .slice (some ⟨G, 0, none⟩) 4 4, .pointer (some ⟨G, 4, none⟩), .agg #[.float .f64 cx, .float .f64 cy], .agg #[.slice (some ⟨ga3, 0, none⟩) na3 ca3, .slice (some ⟨gb3, 0, none⟩) nb3 cb3], undef, undef, undef, undef, undef, undef, undef, undef, undef, undef, undef, undef, undef, undef, undef, undef, undef, undef, undef, undef, undef], defers := [] } y) := by
    intro fuel listed p r ga1 na1 ca1 gb1 nb1 cb1 ga2 na2 ca2 gb2 nb2 cb2 ga3 na3 ca3 gb3 nb3 cb3 y hfu hli hB hp lp hr lr dpr u1 v1 u2 v2 u3 v3
    subst hfu hli
    unfold circOps
    have hHeld := KS y hB
    refine wpAnyH_ready (rs := [22]) (by kernel_rfl) (by simp) ?_
    refine AllReadyH.cons (o := { dst := some 13, op := Op.alloc 81, type := 0, pos := "plumbline.go:34", after := #[], guard := none }) rfl (fun K hK => ?_) ?_
    · go_simp
      refine hK.out _ _ (KS _ (below_alloc _ hB)) (fun _ => ?_)
      clear hK K
      (try simp only [List.setIfInBounds_toArray, List.set_cons_zero, List.set_cons_succ])
      exact T3pqr.out _ _ p y.heap.size r ga1 na1 ca1 gb1 nb1 cb1 ga2 na2 ca2 gb2 nb2 cb2 ga3 na3 ca3 gb3 nb3 cb3 _ rfl (by kernel_rfl) (below_alloc _ hB) (hp.kept ((Below.refl _ y).alloc (Nat.le_refl _) _)) lp (WB.new rfl) hB.size (hr.kept ((Below.refl _ y).alloc (Nat.le_refl _) _)) lr (Nat.ne_of_lt hp.lt) dpr (Nat.ne_of_gt hr.lt) (u1.kept ((Below.refl _ y).alloc (Nat.le_refl _) _)) (v1.kept ((Below.refl _ y).alloc (Nat.le_refl _) _)) (u2.kept ((Below.refl _ y).alloc (Nat.le_refl _) _)) (v2.kept ((Below.refl _ y).alloc (Nat.le_refl _) _)) (u3.kept ((Below.refl _ y).alloc (Nat.le_refl _) _)) (v3.kept ((Below.refl _ y).alloc (Nat.le_refl _) _))
    exact AllReadyH.nil
  have T3qr : Hid (∀ (fuel : Nat) (listed : Array Bool) (q r : Nat) (ga1 na1 ca1 gb1 nb1 cb1 : Nat) (ga2 na2 ca2 gb2 nb2 cb2 : Nat) (ga3 na3 ca3 gb3 nb3 cb3 : Nat) (y : World), fuel = 4 → listed = #[true, true, true, true, true, true, true, true, true, true, true, true, true, true, true, true, true, true, true, true, true, false, true, true, false, false, false] → Below W.heap.size W y → WB y q → W.heap.size ≤ q → WB y r → W.heap.size ≤ r → q ≠ r → Nv y (.slice (some ⟨ga1, 0, none⟩) na1 ca1) 0 XA 974 1 1176 → Nv y (.slice (some ⟨gb1, 0, none⟩) nb1 cb1) 0 YA 974 1 1176 → Nv y (.slice (some ⟨ga2, 0, none⟩) na2 ca2) 0 XB 974 1 1176 → Nv y (.slice (some ⟨gb2, 0, none⟩) nb2 cb2) 0 YB 974 1 1176 → Nv y (.slice (some ⟨ga3, 0, none⟩) na3 ca3) 0 XC 974 1 1176 → Nv y (.slice (some ⟨gb3, 0, none⟩) nb3 cb3) 0 YC 974 1 1176 → wpAnyH Tryz.prog .any circOps Q (fun w' : World => (w'.cell? ⟨G, 0, none⟩ = some (.float .f64 ax) ∧ w'.cell? ⟨G, 1, none⟩ = some (.float .f64 ay) ∧ w'.cell? ⟨G, 2, none⟩ = some (.float .f64 bx) ∧ w'.cell? ⟨G, 3, none⟩ = some (.float .f64 by') ∧ w'.cell? ⟨G, 4, none⟩ = some (.float .f64 cx) ∧ w'.cell? ⟨G, 5, none⟩ = some (.float .f64 cy) ∧ w'.cell? ⟨G, 6, none⟩ = some (.float .f64 dx) ∧ w'.cell? ⟨G, 7, none⟩ = some (.float .f64 dy))) fuel listed { tmps := #[x0, x1, x2, x3, x4, x5, x6, x7, x8, x9, .slice (some ⟨G, 0, none⟩) 4 4, x11, undef, .pointer (some ⟨q, 0, none⟩), .pointer (some ⟨r, 0, none⟩), x15, x16, x17, x18, x19, x20, x21, x22, x23, x24, x25, x26, .slice (some ⟨G, 0, none⟩) 4 4, .pointer (some ⟨G, 6, none⟩), .agg #[.float .f64 dx, .float .f64 dy], .slice (some ⟨G, 0, none⟩) 4 4, .pointer (some ⟨G, 0, none⟩), .agg #[.float .f64 ax, .float .f64 ay], .agg #[.slice (some ⟨ga1, 0, none⟩) na1 ca1, .slice (some ⟨gb1, 0, none⟩) nb1 cb1], .slice (some ⟨G, 0, none⟩) 4 4, .pointer (some ⟨G, 6, none⟩), .agg #[.float .f64 dx, .float .f64 dy], .slice (some ⟨G, 0, none⟩) 4 4, .pointer (some ⟨G, 2, none⟩), .agg #[.float .f64 bx, .float .f64 by'], .agg #[.slice (some ⟨ga2, 0, none⟩) na2 ca2, .slice (some ⟨gb2, 0, none⟩) nb2 cb2], .slice (some ⟨G, 0, none⟩) 4 4, .pointer (some ⟨G, 6, none⟩), .agg #[.float .f64 dx, .float .f64 dy], .slice (some ⟨G, 0, none⟩) 4 4, .pointer (some ⟨G, 4, none⟩), .agg #[.float .f64 cx, .float .f64 cy], .agg #[.slice (some ⟨ga3, 0, none⟩) na3 ca3, .slice (some ⟨gb3, 0, none⟩) nb3 cb3], undef, undef, undef, undef, undef, undef, undef, undef, undef, undef, undef, undef, undef, undef, undef, undef, undef, undef, undef, undef, undef], defers := [] } y) := by
    intro fuel listed q r ga1 na1 ca1 gb1 nb1 cb1 ga2 na2 ca2 gb2 nb2 cb2 ga3 na3 ca3 gb3 nb3 cb3 y hfu hli hB hq lq hr lr dqr u1 v1 u2 v2 u3 v3
    subst hfu hli
    unfold circOps
    have hHeld := KS y hB
    refine wpAnyH_ready (rs := [21]) (by kernel_rfl) (by simp) ?_
    refine AllReadyH.cons (o := { dst := some 12, op := Op.alloc 81, type := 0, pos := "plumbline.go:34", after := #[], guard := none }) rfl (fun K hK => ?_) ?_
    · go_simp
      refine hK.out _ _ (KS _ (below_alloc _ hB)) (fun _ => ?_)
      clear hK K
      (try simp only [List.setIfInBounds_toArray, List.set_cons_zero, List.set_cons_succ])
      exact T3pqr.out _ _ y.heap.size q r ga1 na1 ca1 gb1 nb1 cb1 ga2 na2 ca2 gb2 nb2 cb2 ga3 na3 ca3 gb3 nb3 cb3 _ rfl (by kernel_rfl) (below_alloc _ hB) (WB.new rfl) hB.size (hq.kept ((Below.refl _ y).alloc (Nat.le_refl _) _)) lq (hr.kept ((Below.refl _ y).alloc (Nat.le_refl _) _)) lr (Nat.ne_of_gt hq.lt) (Nat.ne_of_gt hr.lt) dqr (u1.kept ((Below.refl _ y).alloc (Nat.le_refl _) _)) (v1.kept ((Below.refl _ y).alloc (Nat.le_refl _) _)) (u2.kept ((Below.refl _ y).alloc (Nat.le_refl _) _)) (v2.kept ((Below.refl _ y).alloc (Nat.le_refl _) _)) (u3.kept ((Below.refl _ y).alloc (Nat.le_refl _) _)) (v3.kept ((Below.refl _ y).alloc (Nat.le_refl _) _))
    exact AllReadyH.nil
  clear T3pqr
  have T1pqr : Hid (∀ (fuel : Nat) (listed : Array Bool) (p q r : Nat) (ga1 na1 ca1 gb1 nb1 cb1 : Nat) (y : World), fuel = 5 → listed = #[true, true, true, true, true, true, true, true, true, true, true, true, true, false, true, true, true, true, true, true, false, true, true, true, false, false, false] → Below W.heap.size W y → WB y p → W.heap.size ≤ p → WB y q → W.heap.size ≤ q → WB y r → W.heap.size ≤ r → p ≠ q → p ≠ r → q ≠ r → Nv y (.slice (some ⟨ga1, 0, none⟩) na1 ca1) 0 XA 974 1 1176 → Nv y (.slice (some ⟨gb1, 0, none⟩) nb1 cb1) 0 YA 974 1 1176 → wpAnyH Tryz.prog .any circOps Q (fun w' : World => (w'.cell? ⟨G, 0, none⟩ = some (.float .f64 ax) ∧ w'.cell? ⟨G, 1, none⟩ = some (.float .f64 ay) ∧ w'.cell? ⟨G, 2, none⟩ = some (.float .f64 bx) ∧ w'.cell? ⟨G, 3, none⟩ = some (.float .f64 by') ∧ w'.cell? ⟨G, 4, none⟩ = some (.float .f64 cx) ∧ w'.cell? ⟨G, 5, none⟩ = some (.float .f64 cy) ∧ w'.cell? ⟨G, 6, none⟩ = some (.float .f64 dx) ∧ w'.cell? ⟨G, 7, none⟩ = some (.float .f64 dy))) fuel listed { tmps := #[x0, x1, x2, x3, x4, x5, x6, x7, x8, x9, .slice (some ⟨G, 0, none⟩) 4 4, x11, .pointer (some ⟨p, 0, none⟩), .pointer (some ⟨q, 0, none⟩), .pointer (some ⟨r, 0, none⟩), x15, x16, x17, x18, x19, x20, x21, x22, x23, x24, x25, x26, .slice (some ⟨G, 0, none⟩) 4 4, .pointer (some ⟨G, 6, none⟩), .agg #[.float .f64 dx, .float .f64 dy], .slice (some ⟨G, 0, none⟩) 4 4, .pointer (some ⟨G, 0, none⟩), .agg #[.float .f64 ax, .float .f64 ay], .agg #[.slice (some ⟨ga1, 0, none⟩) na1 ca1, .slice (some ⟨gb1, 0, none⟩) nb1 cb1], .slice (some ⟨G, 0, none⟩) 4 4, .pointer (some ⟨G, 6, none⟩), .agg #[.float .f64 dx, .float .f64 dy], .slice (some ⟨G, 0, none⟩) 4 4, .pointer (some ⟨G, 2, none⟩), .agg #[.float .f64 bx, .float .f64 by'], undef, .slice (some ⟨G, 0, none⟩) 4 4, .pointer (some ⟨G, 6, none⟩), .agg #[.float .f64 dx, .float .f64 dy], .slice (some ⟨G, 0, none⟩) 4 4, .pointer (some ⟨G, 4, none⟩), .agg #[.float .f64 cx, .float .f64 cy], undef, undef, undef, undef, undef, undef, undef, undef, undef, undef, undef, undef, undef, undef, undef, undef, undef, undef, undef, undef, undef, undef], defers := [] } y) := by
    intro fuel listed p q r ga1 na1 ca1 gb1 nb1 cb1 y hfu hli hB hp lp hq lq hr lr dpq dpr dqr u1 v1
    subst hfu hli
    unfold circOps
    have hHeld := KS y hB
    refine wpAnyH_ready (rs := [13]) (by kernel_rfl) (by simp) ?_
    refine AllReadyH.cons (o := { dst := some 40, op := Op.call { callee := Callee.value (Operand.func 38), args := #[Operand.tmp 36, Operand.tmp 39], argTypes := #[76, 76] }, type := 81, pos := "plumbline.go:34", after := #[{ on := 9, ground := Ground.data }, { on := 12, ground := Ground.data }, { on := 6, ground := Ground.chain }], guard := none }) rfl (fun K hK => ?_) ?_
    · go_simp
      (go_at_call 38; refine (HB.out _).mono ?_; rintro e y1 ⟨z1, z2, rfl, hz1, hz2, hb1⟩)
      obtain ⟨ga2, na2, ca2, he1⟩ := hz1.form
      subst he1
      obtain ⟨gb2, nb2, cb2, he2⟩ := hz2.form
      subst he2
      have hB1 : Below W.heap.size W y1 := below_step hb1 hB
      (try go_wp2_with fail)
      refine hK.out _ _ (KS y1 hB1) (fun _ => ?_)
      clear hK K
      (try simp only [List.setIfInBounds_toArray, List.set_cons_zero, List.set_cons_succ])
      exact T2pqr.out _ _ p q r ga1 na1 ca1 gb1 nb1 cb1 ga2 na2 ca2 gb2 nb2 cb2 y1 rfl (by kernel_rfl) hB1 (hp.kept hb1) lp (hq.kept hb1) lq (hr.kept hb1) lr dpq dpr dqr (u1.kept hb1) (v1.kept hb1) hz1 hz2
    exact AllReadyH.nil
  have T2pq : Hid (∀ (fuel : Nat) (listed : Array Bool) (p q : Nat) (ga1 na1 ca1 gb1 nb1 cb1 : Nat) (ga2 na2 ca2 gb2 nb2 cb2 : Nat) (y : World), fuel = 5 → listed = #[true, true, true, true, true, true, true, true, true, true, true, true, true, true, true, true, true, true, true, true, false, true, true, false, false, false, false] → Below W.heap.size W y → WB y p → W.heap.size ≤ p → WB y q → W.heap.size ≤ q → p ≠ q → Nv y (.slice (some ⟨ga1, 0, none⟩) na1 ca1) 0 XA 974 1 1176 → Nv y (.slice (some ⟨gb1, 0, none⟩) nb1 cb1) 0 YA 974 1 1176 → Nv y (.slice (some ⟨ga2, 0, none⟩) na2 ca2) 0 XB 974 1 1176 → Nv y (.slice (some ⟨gb2, 0, none⟩) nb2 cb2) 0 YB 974 1 1176 → wpAnyH Tryz.prog .any circOps Q (fun w' : World => (w'.cell? ⟨G, 0, none⟩ = some (.float .f64 ax) ∧ w'.cell? ⟨G, 1, none⟩ = some (.float .f64 ay) ∧ w'.cell? ⟨G, 2, none⟩ = some (.float .f64 bx) ∧ w'.cell? ⟨G, 3, none⟩ = some (.float .f64 by') ∧ w'.cell? ⟨G, 4, none⟩ = some (.float .f64 cx) ∧ w'.cell? ⟨G, 5, none⟩ = some (.float .f64 cy) ∧ w'.cell? ⟨G, 6, none⟩ = some (.float .f64 dx) ∧ w'.cell? ⟨G, 7, none⟩ = some (.float .f64 dy))) fuel listed { tmps := #[x0, x1, x2, x3, x4, x5, x6, x7, x8, x9, .slice (some ⟨G, 0, none⟩) 4 4, x11, .pointer (some ⟨p, 0, none⟩), .pointer (some ⟨q, 0, none⟩), undef, x15, x16, x17, x18, x19, x20, x21, x22, x23, x24, x25, x26, .slice (some ⟨G, 0, none⟩) 4 4, .pointer (some ⟨G, 6, none⟩), .agg #[.float .f64 dx, .float .f64 dy], .slice (some ⟨G, 0, none⟩) 4 4, .pointer (some ⟨G, 0, none⟩), .agg #[.float .f64 ax, .float .f64 ay], .agg #[.slice (some ⟨ga1, 0, none⟩) na1 ca1, .slice (some ⟨gb1, 0, none⟩) nb1 cb1], .slice (some ⟨G, 0, none⟩) 4 4, .pointer (some ⟨G, 6, none⟩), .agg #[.float .f64 dx, .float .f64 dy], .slice (some ⟨G, 0, none⟩) 4 4, .pointer (some ⟨G, 2, none⟩), .agg #[.float .f64 bx, .float .f64 by'], .agg #[.slice (some ⟨ga2, 0, none⟩) na2 ca2, .slice (some ⟨gb2, 0, none⟩) nb2 cb2], .slice (some ⟨G, 0, none⟩) 4 4, .pointer (some ⟨G, 6, none⟩), .agg #[.float .f64 dx, .float .f64 dy], .slice (some ⟨G, 0, none⟩) 4 4, .pointer (some ⟨G, 4, none⟩), .agg #[.float .f64 cx, .float .f64 cy], undef, undef, undef, undef, undef, undef, undef, undef, undef, undef, undef, undef, undef, undef, undef, undef, undef, undef, undef, undef, undef, undef], defers := [] } y) := by
    intro fuel listed p q ga1 na1 ca1 gb1 nb1 cb1 ga2 na2 ca2 gb2 nb2 cb2 y hfu hli hB hp lp hq lq dpq u1 v1 u2 v2
    subst hfu hli
    unfold circOps
    have hHeld := KS y hB
    refine wpAnyH_ready (rs := [20, 23]) (by kernel_rfl) (by simp) ?_
    refine AllReadyH.cons (o := { dst := some 47, op := Op.call { callee := Callee.value (Operand.func 38), args := #[Operand.tmp 43, Operand.tmp 46], argTypes := #[76, 76] }, type := 81, pos := "plumbline.go:34", after := #[{ on := 16, ground := Ground.data }, { on := 19, ground := Ground.data }, { on := 13, ground := Ground.chain }], guard := none }) rfl (fun K hK => ?_) ?_
    · go_simp
      (go_at_call 38; refine (HC.out _).mono ?_; rintro e y1 ⟨z1, z2, rfl, hz1, hz2, hb1⟩)
      obtain ⟨ga3, na3, ca3, he1⟩ := hz1.form
      subst he1
      obtain ⟨gb3, nb3, cb3, he2⟩ := hz2.form
      subst he2
      have hB1 : Below W.heap.size W y1 := below_step hb1 hB
      (try go_wp2_with fail)
      refine hK.out _ _ (KS y1 hB1) (fun _ => ?_)
      clear hK K
      (try simp only [List.setIfInBounds_toArray, List.set_cons_zero, List.set_cons_succ])
      exact T3pq.out _ _ p q ga1 na1 ca1 gb1 nb1 cb1 ga2 na2 ca2 gb2 nb2 cb2 ga3 na3 ca3 gb3 nb3 cb3 y1 rfl (by kernel_rfl) hB1 (hp.kept hb1) lp (hq.kept hb1) lq dpq (u1.kept hb1) (v1.kept hb1) (u2.kept hb1) (v2.kept hb1) hz1 hz2
    refine AllReadyH.cons (o := { dst := some 14, op := Op.alloc 81, type := 0, pos := "plumbline.go:34", after := #[], guard := none }) rfl (fun K hK => ?_) ?_
    · go_simp
      refine hK.out _ _ (KS _ (below_alloc _ hB)) (fun _ => ?_)
      clear hK K
      (try simp only [List.setIfInBounds_toArray, List.set_cons_zero, List.set_cons_succ])
      exact T2pqr.out _ _ p q y.heap.size ga1 na1 ca1 gb1 nb1 cb1 ga2 na2 ca2 gb2 nb2 cb2 _ rfl (by kernel_rfl) (below_alloc _ hB) (hp.kept ((Below.refl _ y).alloc (Nat.le_refl _) _)) lp (hq.kept ((Below.refl _ y).alloc (Nat.le_refl _) _)) lq (WB.new rfl) hB.size dpq (Nat.ne_of_lt hp.lt) (Nat.ne_of_lt hq.lt) (u1.kept ((Below.refl _ y).alloc (Nat.le_refl _) _)) (v1.kept ((Below.refl _ y).alloc (Nat.le_refl _) _)) (u2.kept ((Below.refl _ y).alloc (Nat.le_refl _) _)) (v2.kept ((Below.refl _ y).alloc (Nat.le_refl _) _))
    exact AllReadyH.nil
  have T2pr : Hid (∀ (fuel : Nat) (listed : Array Bool) (p r : Nat) (ga1 na1 ca1 gb1 nb1 cb1 : Nat) (ga2 na2 ca2 gb2 nb2 cb2 : Nat) (y : World), fuel = 5 → listed = #[true, true, true, true, true, true, true, true, true, true, true, true, true, true, true, true, true, true, true, true, false, true, false, true, false, false, false] → Below W.heap.size W y → WB y p → W.heap.size ≤ p → WB y r → W.heap.size ≤ r → p ≠ r → Nv y (.slice (some ⟨ga1, 0, none⟩) na1 ca1) 0 XA 974 1 1176 → Nv y (.slice (some ⟨gb1, 0, none⟩) nb1 cb1) 0 YA 974 1 1176 → Nv y (.slice (some ⟨ga2, 0, none⟩) na2 ca2) 0 XB 974 1 1176 → Nv y (.slice (some ⟨gb2, 0, none⟩) nb2 cb2) 0 YB 974 1 1176 → wpAnyH Tryz.prog .any circOps Q (fun w' : World => (w'.cell? ⟨G, 0, none⟩ = some (.float .f64 ax) ∧ w'.cell? ⟨G, 1, none⟩ = some (.float .f64 ay) ∧ w'.cell? ⟨G, 2, none⟩ = some (.float .f64 bx) ∧ w'.cell? ⟨G, 3, none⟩ = some (.float .f64 by') ∧ w'.cell? ⟨G, 4, none⟩ = some (.float .f64 cx) ∧ w'.cell? ⟨G, 5, none⟩ = some (.float .f64 cy) ∧ w'.cell? ⟨G, 6, none⟩ = some (.float .f64 dx) ∧ w'.cell? ⟨G, 7, none⟩ = some (.float .f64 dy))) fuel listed { tmps := #[x0, x1, x2, x3, x4, x5, x6, x7, x8, x9, .slice (some ⟨G, 0, none⟩) 4 4, x11, .pointer (some ⟨p, 0, none⟩), undef, .pointer (some ⟨r, 0, none⟩), x15, x16, x17, x18, x19, x20, x21, x22, x23, x24, x25, x26, .slice (some ⟨G, 0, none⟩) 4 4, .pointer (some ⟨G, 6, none⟩), .agg #[.float .f64 dx, .float .f64 dy], .slice (some ⟨G, 0, none⟩) 4 4, .pointer (some ⟨G, 0, none⟩), .agg #[.float .f64 ax, .float .f64 ay], .agg #[.slice (some ⟨ga1, 0, none⟩) na1 ca1, .slice (some ⟨gb1, 0, none⟩) nb1 cb1], .slice (some ⟨G, 0, none⟩) 4 4, .pointer (some ⟨G, 6, none⟩), .agg #[.float .f64 dx, .float .f64 dy], .slice (some ⟨G, 0, none⟩) 4 4, .pointer (some ⟨G, 2, none⟩), .agg #[.float .f64 bx, .float .f64 by'], .agg #[.slice (some ⟨ga2, 0, none⟩) na2 ca2, .slice (some ⟨gb2, 0, none⟩) nb2 cb2], .slice (some ⟨G, 0, none⟩) 4 4, .pointer (some ⟨G, 6, none⟩), .agg #[.float .f64 dx, .float .f64 dy], .slice (some ⟨G, 0, none⟩) 4 4, .pointer (some ⟨G, 4, none⟩), .agg #[.float .f64 cx, .float .f64 cy], undef, undef, undef, undef, undef, undef, undef, undef, undef, undef, undef, undef, undef, undef, undef, undef, undef, undef, undef, undef, undef, undef], defers := [] } y) := by
    intro fuel listed p r ga1 na1 ca1 gb1 nb1 cb1 ga2 na2 ca2 gb2 nb2 cb2 y hfu hli hB hp lp hr lr dpr u1 v1 u2 v2
    subst hfu hli
    unfold circOps
    have hHeld := KS y hB
    refine wpAnyH_ready (rs := [20, 22]) (by kernel_rfl) (by simp) ?_
    refine AllReadyH.cons (o := { dst := some 47, op := Op.call { callee := Callee.value (Operand.func 38), args := #[Operand.tmp 43, Operand.tmp 46], argTypes := #[76, 76] }, type := 81, pos := "plumbline.go:34", after := #[{ on := 16, ground := Ground.data }, { on := 19, ground := Ground.data }, { on := 13, ground := Ground.chain }], guard := none }) rfl (fun K hK => ?_) ?_
    · go_simp
      (go_at_call 38; refine (HC.out _).mono ?_; rintro e y1 ⟨z1, z2, rfl, hz1, hz2, hb1⟩)
      obtain ⟨ga3, na3, ca3, he1⟩ := hz1.form
      subst he1
      obtain ⟨gb3, nb3, cb3, he2⟩ := hz2.form
      subst he2
      have hB1 : Below W.heap.size W y1 := below_step hb1 hB
      (try go_wp2_with fail)
      refine hK.out _ _ (KS y1 hB1) (fun _ => ?_)
      clear hK K
      (try simp only [List.setIfInBounds_toArray, List.set_cons_zero, List.set_cons_succ])
      exact T3pr.out _ _ p r ga1 na1 ca1 gb1 nb1 cb1 ga2 na2 ca2 gb2 nb2 cb2 ga3 na3 ca3 gb3 nb3 cb3 y1 rfl (by kernel_rfl) hB1 (hp.kept hb1) lp (hr.kept hb1) lr dpr (u1.kept hb1) (v1.kept hb1) (u2.kept hb1) (v2.kept hb1) hz1 hz2
    refine AllReadyH.cons (o := { dst := some 13, op := Op.alloc 81, type := 0, pos := "plumbline.go:34", after := #[], guard := none }) rfl (fun K hK => ?_) ?_
    · go_simp
      refine hK.out _ _ (KS _ (below_alloc _ hB)) (fun _ => ?_)
      clear hK K
      (try simp only [List.setIfInBounds_toArray, List.set_cons_zero, List.set_cons_succ])
      exact T2pqr.out _ _ p y.heap.size r ga1 na1 ca1 gb1 nb1 cb1 ga2 na2 ca2 gb2 nb2 cb2 _ rfl (by kernel_rfl) (below_alloc _ hB) (hp.kept ((Below.refl _ y).alloc (Nat.le_refl _) _)) lp (WB.new rfl) hB.size (hr.kept ((Below.refl _ y).alloc (Nat.le_refl _) _)) lr (Nat.ne_of_lt hp.lt) dpr (Nat.ne_of_gt hr.lt) (u1.kept ((Below.refl _ y).alloc (Nat.le_refl _) _)) (v1.kept ((Below.refl _ y).alloc (Nat.le_refl _) _)) (u2.kept ((Below.refl _ y).alloc (Nat.le_refl _) _)) (v2.kept ((Below.refl _ y).alloc (Nat.le_refl _) _))
    exact AllReadyH.nil
  have T2qr : Hid (∀ (fuel : Nat) (listed : Array Bool) (q r : Nat) (ga1 na1 ca1 gb1 nb1 cb1 : Nat) (ga2 na2 ca2 gb2 nb2 cb2 : Nat) (y : World), fuel = 5 → listed = #[true, true, true, true, true, true, true, true, true, true, true, true, true, true, true, true, true, true, true, true, false, false, true, true, false, false, false] → Below W.heap.size W y → WB y q → W.heap.size ≤ q → WB y r → W.heap.size ≤ r → q ≠ r → Nv y (.slice (some ⟨ga1, 0, none⟩) na1 ca1) 0 XA 974 1 1176 → Nv y (.slice (some ⟨gb1, 0, none⟩) nb1 cb1) 0 YA 974 1 1176 → Nv y (.slice (some ⟨ga2, 0, none⟩) na2 ca2) 0 XB 974 1 1176 → Nv y (.slice (some ⟨gb2, 0, none⟩) nb2 cb2) 0 YB 974 1 1176 → wpAnyH Tryz.prog .any circOps Q (fun w' : World => (w'.cell? ⟨G, 0, none⟩ = some (.float .f64 ax) ∧ w'.cell? ⟨G, 1, none⟩ = some (.float .f64 ay) ∧ w'.cell? ⟨G, 2, none⟩ = some (.float .f64 bx) ∧ w'.cell? ⟨G, 3, none⟩ = some (.float .f64 by') ∧ w'.cell? ⟨G, 4, none⟩ = some (.float .f64 cx) ∧ w'.cell? ⟨G, 5, none⟩ = some (.float .f64 cy) ∧ w'.cell? ⟨G, 6, none⟩ = some (.float .f64 dx) ∧ w'.cell? ⟨G, 7, none⟩ = some (.float .f64 dy))) fuel listed { tmps := #[x0, x1, x2, x3, x4, x5, x6, x7, x8, x9, .slice (some ⟨G, 0, none⟩) 4 4, x11, undef, .pointer (some ⟨q, 0, none⟩), .pointer (some ⟨r, 0, none⟩), x15, x16, x17, x18, x19, x20, x21, x22, x23, x24, x25, x26, .slice (some ⟨G, 0, none⟩) 4 4, .pointer (some ⟨G, 6, none⟩), .agg #[.float .f64 dx, .float .f64 dy], .slice (some ⟨G, 0, none⟩) 4 4, .pointer (some ⟨G, 0, none⟩), .agg #[.float .f64 ax, .float .f64 ay], .agg #[.slice (some ⟨ga1, 0, none⟩) na1 ca1, .slice (some ⟨gb1, 0, none⟩) nb1 cb1], .slice (some ⟨G, 0, none⟩) 4 4, .pointer (some ⟨G, 6, none⟩), .agg #[.float .f64 dx, .float .f64 dy], .slice (some ⟨G, 0, none⟩) 4 4, .pointer (some ⟨G, 2, none⟩), .agg #[.float .f64 bx, .float .f64 by'], .agg #[.slice (some ⟨ga2, 0, none⟩) na2 ca2, .slice (some ⟨gb2, 0, none⟩) nb2 cb2], .slice (some ⟨G, 0, none⟩) 4 4, .pointer (some ⟨G, 6, none⟩), .agg #[.float .f64 dx, .float .f64 dy], .slice (some ⟨G, 0, none⟩) 4 4, .pointer (some ⟨G, 4, none⟩), .agg #[.float .f64 cx, .float .f64 cy], undef, undef, undef, undef, undef, undef, undef, undef, undef, undef, undef, undef, undef, undef, undef, undef, undef, undef, undef, undef, undef, undef], defers := [] } y) := by
    intro fuel listed q r ga1 na1 ca1 gb1 nb1 cb1 ga2 na2 ca2 gb2 nb2 cb2 y hfu hli hB hq lq hr lr dqr u1 v1 u2 v2
    subst hfu hli
    unfold circOps
    have hHeld := KS y hB
    refine wpAnyH_ready (rs := [20, 21]) (by kernel_rfl) (by simp) ?_
    refine AllReadyH.cons (o := { dst := some 47, op := Op.call { callee := Callee.value (Operand.func 38), args := #[Operand.tmp 43, Operand.tmp 46], argTypes := #[76, 76] }, type := 81, pos := "plumbline.go:34", after := #[{ on := 16, ground := Ground.data }, { on := 19, ground := Ground.data }, { on := 13, ground := Ground.chain }], guard := none }) rfl (fun K hK => ?_) ?_
    · go_simp
      (go_at_call 38; refine (HC.out _).mono ?_; rintro e y1 ⟨z1, z2, rfl, hz1, hz2, hb1⟩)
      obtain ⟨ga3, na3, ca3, he1⟩ := hz1.form
      subst he1
      obtain ⟨gb3, nb3, cb3, he2⟩ := hz2.form
      subst he2
      have hB1 : Below W.heap.size W y1 := below_step hb1 hB
      (try go_wp2_with fail)
      refine hK.out _ _ (KS y1 hB1) (fun _ => ?_)
      clear hK K
      (try simp only [List.setIfInBounds_toArray, List.set_cons_zero, List.set_cons_succ])
      exact T3qr.out _ _ q r ga1 na1 ca1 gb1 nb1 cb1 ga2 na2 ca2 gb2 nb2 cb2 ga3 na3 ca3 gb3 nb3 cb3 y1 rfl (by kernel_rfl) hB1 (hq.kept hb1) lq (hr.kept hb1) lr dqr (u1.kept hb1) (v1.kept hb1) (u2.kept hb1) (v2.kept hb1) hz1 hz2
    refine AllReadyH.cons (o := { dst := some 12, op := Op.alloc 81, type := 0, pos := "plumbline.go:34", after := #[], guard := none }) rfl (fun K hK => ?_) ?_
    · go_simp
      refine hK.out _ _ (KS _ (below_alloc _ hB)) (fun _ => ?_)
      clear hK K
      (try simp only [List.setIfInBounds_toArray, List.set_cons_zero, List.set_cons_succ])
      exact T2pqr.out _ _ y.heap.size q r ga1 na1 ca1 gb1 nb1 cb1 ga2 na2 ca2 gb2 nb2 cb2 _ rfl (by kernel_rfl) (below_alloc _ hB) (WB.new rfl) hB.size (hq.kept ((Below.refl _ y).alloc (Nat.le_refl _) _)) lq (hr.kept ((Below.refl _ y).alloc (Nat.le_refl _) _)) lr (Nat.ne_of_gt hq.lt) (Nat.ne_of_gt hr.lt) dqr (u1.kept ((Below.refl _ y).alloc (Nat.le_refl _) _)) (v1.kept ((Below.refl _ y).alloc (Nat.le_refl _) _)) (u2.kept ((Below.refl _ y).alloc (Nat.le_refl _) _)) (v2.kept ((Below.refl _ y).alloc (Nat.le_refl _) _))
    exact AllReadyH.nil
  have T3p : Hid (∀ (fuel : Nat) (listed : Array Bool) (p : Nat) (ga1 na1 ca1 gb1 nb1 cb1 : Nat) (ga2 na2 ca2 gb2 nb2 cb2 : Nat) (ga3 na3 ca3 gb3 nb3 cb3 : Nat) (y : World), fuel = 5 → listed = #[true, true, true, true, true, true, true, true, true, true, true, true, true, true, true, true, true, true, true, true, true, true, false, false, false, false, false] → Below W.heap.size W y → WB y p → W.heap.size ≤ p → Nv y (.slice (some ⟨ga1, 0, none⟩) na1 ca1) 0 XA 974 1 1176 → Nv y (.slice (some ⟨gb1, 0, none⟩) nb1 cb1) 0 YA 974 1 1176 → Nv y (.slice (some ⟨ga2, 0, none⟩) na2 ca2) 0 XB 974 1 1176 → Nv y (.slice (some ⟨gb2, 0, none⟩) nb2 cb2) 0 YB 974 1 1176 → Nv y (.slice (some ⟨ga3, 0, none⟩) na3 ca3) 0 XC 974 1 1176 → Nv y (.slice (some ⟨gb3, 0, none⟩) nb3 cb3) 0 YC 974 1 1176 → wpAnyH Tryz.prog .any circOps Q (fun w' : World => (w'.cell? ⟨G, 0, none⟩ = some (.float .f64 ax) ∧ w'.cell? ⟨G, 1, none⟩ = some (.float .f64 ay) ∧ w'.cell? ⟨G, 2, none⟩ = some (.float .f64 bx) ∧ w'.cell? ⟨G, 3, none⟩ = some (.float .f64 by') ∧ w'.cell? ⟨G, 4, none⟩ = some (.float .f64 cx) ∧ w'.cell? ⟨G, 5, none⟩ = some (.float .f64 cy) ∧ w'.cell? ⟨G, 6, none⟩ = some (.float .f64 dx) ∧ w'.cell? ⟨G, 7, none⟩ = some (.float .f64 dy))) fuel listed { tmps := #[x0, x1, x2, x3, x4, x5, x6, x7, x8, x9, .slice (some ⟨G, 0, none⟩) 4 4, x11, .pointer (some ⟨p, 0, none⟩), undef, undef, x15, x16, x17, x18, x19, x20, x21, x22, x23, x24, x25, x26, .slice (some ⟨G, 0, none⟩) 4 4, .pointer (some ⟨G, 6, none⟩), .agg #[.float .f64 dx, .float .f64 dy], .slice (some ⟨G, 0, none⟩) 4 4, .pointer (some ⟨G, 0, none⟩), .agg #[.float .f64 ax, .float .f64 ay], .agg #[.slice (some ⟨ga1, 0, none⟩) na1 ca1, .slice (some ⟨gb1, 0, none⟩) nb1 cb1], .slice (some ⟨G, 0, none⟩) 4 4, .pointer (some ⟨G, 6, none⟩), .agg #[.float .f64 dx, .float .f64 dy], .slice (some ⟨G, 0, none⟩) 4 4, .pointer (some ⟨G, 2, none⟩), .agg #[.float .f64 bx, .float .f64 by'], .agg #[.slice (some ⟨ga2, 0, none⟩) na2 ca2, .slice (some ⟨gb2, 0, none⟩) nb2 cb2], .slice (some ⟨G, 0, none⟩) 4 4, .pointer (some ⟨G, 6, none⟩), .agg #[.float .f64 dx, .float .f64 dy], .slice (some ⟨G, 0, none⟩) 4 4, .pointer (some ⟨G, 4, none⟩), .agg #[.float .f64 cx, .float .f64 cy], .agg #[.slice (some ⟨ga3, 0, none⟩) na3 ca3, .slice (some ⟨gb3, 0, none⟩) nb3 cb3], undef, undef, undef, undef, undef, undef, undef, undef, undef, undef, undef, undef, undef, undef, undef, undef, undef, undef, undef, undef, undef], defers := [] } y) := by
    intro fuel listed p ga1 na1 ca1 gb1 nb1 cb1 ga2 na2 ca2 gb2 nb2 cb2 ga3 na3 ca3 gb3 nb3 cb3 y hfu hli hB hp lp u1 v1 u2 v2 u3 v3
    subst hfu hli
    unfold circOps
    have hHeld := KS y hB
    refine wpAnyH_ready (rs := [22, 23]) (by kernel_rfl) (by simp) ?_
    refine AllReadyH.cons (o := { dst := some 13, op := Op.alloc 81, type := 0, pos := "plumbline.go:34", after := #[], guard := none }) rfl (fun K hK => ?_) ?_
    · go_simp
      refine hK.out _ _ (KS _ (below_alloc _ hB)) (fun _ => ?_)
      clear hK K
      (try simp only [List.setIfInBounds_toArray, List.set_cons_zero, List.set_cons_succ])
      exact T3pq.out _ _ p y.heap.size ga1 na1 ca1 gb1 nb1 cb1 ga2 na2 ca2 gb2 nb2 cb2 ga3 na3 ca3 gb3 nb3 cb3 _ rfl (by kernel_rfl) (below_alloc _ hB) (hp.kept ((Below.refl _ y).alloc (Nat.le_refl _) _)) lp (WB.new rfl) hB.size (Nat.ne_of_lt hp.lt) (u1.kept ((Below.refl _ y).alloc (Nat.le_refl _) _)) (v1.kept ((Below.refl _ y).alloc (Nat.le_refl _) _)) (u2.kept ((Below.refl _ y).alloc (Nat.le_refl _) _)) (v2.kept ((Below.refl _ y).alloc (Nat.le_refl _) _)) (u3.kept ((Below.refl _ y).alloc (Nat.le_refl _) _)) (v3.kept ((Below.refl _ y).alloc (Nat.le_refl _) _))
    refine AllReadyH.cons (o := { dst := some 14, op := Op.alloc 81, type := 0, pos := "plumbline.go:34", after := #[], guard := none }) rfl (fun K hK => ?_) ?_
    · go_simp
      refine hK.out _ _ (KS _ (below_alloc _ hB)) (fun _ => ?_)
      clear hK K
      (try simp only [List.setIfInBounds_toArray, List.set_cons_zero, List.set_cons_succ])
      exact T3pr.out _ _ p y.heap.size ga1 na1 ca1 gb1 nb1 cb1 ga2 na2 ca2 gb2 nb2 cb2 ga3 na3 ca3 gb3 nb3 cb3 _ rfl (by kernel_rfl) (below_alloc _ hB) (hp.kept ((Below.refl _ y).alloc (Nat.le_refl _) _)) lp (WB.new rfl) hB.size (Nat.ne_of_lt hp.lt) (u1.kept ((Below.refl _ y).alloc (Nat.le_refl _) _)) (v1.kept ((Below.refl _ y).alloc (Nat.le_refl _) _)) (u2.kept ((Below.refl _ y).alloc (Nat.le_refl _) _)) (v2.kept ((Below.refl _ y).alloc (Nat.le_refl _) _)) (u3.kept ((Below.refl _ y).alloc (Nat.le_refl _) _)) (v3.kept ((Below.refl _ y).alloc (Nat.le_refl _) _))
    exact AllReadyH.nil
  have T3q : Hid (∀ (fuel : Nat) (listed : Array Bool) (q : Nat) (ga1 na1 ca1 gb1 nb1 cb1 : Nat) (ga2 na2 ca2 gb2 nb2 cb2 : Nat) (ga3 na3 ca3 gb3 nb3 cb3 : Nat) (y : World), fuel = 5 → listed = #[true, true, true, true, true, true, true, true, true, true, true, true, true, true, true, true, true, true, true, true, true, false, true, false, false, false, false] → Below W.heap.size W y → WB y q → W.heap.size ≤ q → Nv y (.slice (some ⟨ga1, 0, none⟩) na1 ca1) 0 XA 974 1 1176 → Nv y (.slice (some ⟨gb1, 0, none⟩) nb1 cb1) 0 YA 974 1 1176 → Nv y (.slice (some ⟨ga2, 0, none⟩) na2 ca2) 0 XB 974 1 1176 → Nv y (.slice (some ⟨gb2, 0, none⟩) nb2 cb2) 0 YB 974 1 1176 → Nv y (.slice (some ⟨ga3, 0, none⟩) na3 ca3) 0 XC 974 1 1176 → Nv y (.slice (some ⟨gb3, 0, none⟩) nb3 cb3) 0 YC 974 1 1176 → wpAnyH Tryz.prog .any circOps Q (fun w' : World => (w'.cell? ⟨G, 0, none⟩ = some (.float .f64 ax) ∧ w'.cell? ⟨G, 1, none⟩ = some (.float .f64 ay) ∧ w'.cell? ⟨G, 2, none⟩ = some (.float .f64 bx) ∧ w'.cell? ⟨G, 3, none⟩ = some (.float .f64 by') ∧ w'.cell? ⟨G, 4, none⟩ = some (.float .f64 cx) ∧ w'.cell? ⟨G, 5, none⟩ = some (.float .f64 cy) ∧ w'.cell? ⟨G, 6, none⟩ = some (.float .f64 dx) ∧ w'.cell? ⟨G, 7, none⟩ = some (.float .f64 dy))) fuel listed { tmps := #[x0, x1, x2, x3, x4, x5, x6, x7, x8, x9, .slice (some ⟨G, 0, none⟩) 4 4, x11, undef, .pointer (some ⟨q, 0, none⟩), undef, x15, x16, x17, x18, x19, x20, x21, x22, x23, x24, x25, x26, .slice (some ⟨G, 0, none⟩) 4 4, .pointer (some ⟨G, 6, none⟩), .agg #[.float .f64 dx, .float .f64 dy], .slice (some ⟨G, 0, none⟩) 4 4, .pointer (some ⟨G, 0, none⟩), .agg #[.float .f64 ax, .float .f64 ay], .agg #[.slice (some ⟨ga1, 0, none⟩) na1 ca1, .slice (some ⟨gb1, 0, none⟩) nb1 cb1], .slice (some ⟨G, 0, none⟩) 4 4, .pointer (some ⟨G, 6, none⟩), .agg #[.float .f64 dx, .float .f64 dy], .slice (some ⟨G, 0, none⟩) 4 4, .pointer (some ⟨G, 2, none⟩), .agg #[.float .f64 bx, .float .f64 by'], .agg #[.slice (some ⟨ga2, 0, none⟩) na2 ca2, .slice (some ⟨gb2, 0, none⟩) nb2 cb2], .slice (some ⟨G, 0, none⟩) 4 4, .pointer (some ⟨G, 6, none⟩), .agg #[.float .f64 dx, .float .f64 dy], .slice (some ⟨G, 0, none⟩) 4 4, .pointer (some ⟨G, 4, none⟩), .agg #[.float .f64 cx, .float .f64 cy], .agg #[.slice (some ⟨ga3, 0, none⟩) na3 ca3, .slice (some ⟨gb3, 0, none⟩) nb3 cb3], undef, undef, undef, undef, undef, undef, undef, undef, undef, undef, undef, undef, undef, undef, undef, undef, undef, undef, undef, undef, undef], defers := [] } y) := by
    intro fuel listed q ga1 na1 ca1 gb1 nb1 cb1 ga2 na2 ca2 gb2 nb2 cb2 ga3 na3 ca3 gb3 nb3 cb3 y hfu hli hB hq lq u1 v1 u2 v2 u3 v3
    subst hfu hli
    unfold circOps
    have hHeld := KS y hB
    refine wpAnyH_ready (rs := [21, 23]) (by kernel_rfl) (by simp) ?_
    refine AllReadyH.cons (o := { dst := some 12, op := Op.alloc 81, type := 0, pos := "plumbline.go:34", after := #[], guard := none }) rfl (fun K hK => ?_) ?_
    · go_simp
      refine hK.out _ _ (KS _ (below_alloc _ hB)) (fun _ => ?_)
      clear hK K
      (try simp only [List.setIfInBounds_toArray, List.set_cons_zero, List.set_cons_succ])
      exact T3pq.out _ _ y.heap.size q ga1 na1 ca1 gb1 nb1 cb1 ga2 na2 ca2 gb2 nb2 cb2 ga3 na3 ca3 gb3 nb3 cb3 _ rfl (by kernel_rfl) (below_alloc _ hB) (WB.new rfl) hB.size (hq.kept ((Below.refl _ y).alloc (Nat.le_refl _) _)) lq (Nat.ne_of_gt hq.lt) (u1.kept ((Below.refl _ y).alloc (Nat.le_refl _) _)) (v1.kept ((Below.refl _ y).alloc (Nat.le_refl _) _)) (u2.kept ((Below.refl _ y).alloc (Nat.le_refl _) _)) (v2.kept ((Below.refl _ y).alloc (Nat.le_refl _) _)) (u3.kept ((Below.refl _ y).alloc (Nat.le_refl _) _)) (v3.kept ((Below.refl _ y).alloc (Nat.le_refl _) _))
    refine AllReadyH.cons (o := { dst := some 14, op := Op.alloc 81, type := 0, pos := "plumbline.go:34", after := #[], guard := none }) rfl (fun K hK => ?_) ?_
    · go_simp
      refine hK.out _ _ (KS _ (below_alloc _ hB)) (fun _ => ?_)
      clear hK K
      (try simp only [List.setIfInBounds_toArray, List.set_cons_zero, List.set_cons_succ])
      exact T3qr.out _ _ q y.heap.size ga1 na1 ca1 gb1 nb1 cb1 ga2 na2 ca2 gb2 nb2 cb2 ga3 na3 ca3 gb3 nb3 cb3 _ rfl (by kernel_rfl) (below_alloc _ hB) (hq.kept ((Below.refl _ y).alloc (Nat.le_refl _) _)) lq (WB.new rfl) hB.size (Nat.ne_of_lt hq.lt) (u1.kept ((Below.refl _ y).alloc (Nat.le_refl _) _)) (v1.kept ((Below.refl _ y).alloc (Nat.le_refl _) _)) (u2.kept ((Below.refl _ y).alloc (Nat.le_refl _) _)) (v2.kept ((Below.refl _ y).alloc (Nat.le_refl _) _)) (u3.kept ((Below.refl _ y).alloc (Nat.le_refl _) _)) (v3.kept ((Below.refl _ y).alloc (Nat.le_refl _) _))
    exact AllReadyH.nil
  have T3r : Hid (∀ (fuel : Nat) (listed : Array Bool) (r : Nat) (ga1 na1 ca1 gb1 nb1 cb1 : Nat) (ga2 na2 ca2 gb2 nb2 cb2 : Nat) (ga3 na3 ca3 gb3 nb3 cb3 : Nat) (y : World), fuel = 5 → listed = #[true, true, true, true, true, true, true, true, true, true, true, true, true, true, true, true, true, true, true, true, true, false, false, true, false, false, false] → Below W.heap.size W y → WB y r → W.heap.size ≤ r → Nv y (.slice (some ⟨ga1, 0, none⟩) na1 ca1) 0 XA 974 1 1176 → Nv y (.slice (some ⟨gb1, 0, none⟩) nb1 cb1) 0 YA 974 1 1176 → Nv y (.slice (some ⟨ga2, 0, none⟩) na2 ca2) 0 XB 974 1 1176 → Nv y (.slice (some ⟨gb2, 0, none⟩) nb2 cb2) 0 YB 974 1 1176 → Nv y (.slice (some ⟨ga3, 0, none⟩) na3 ca3) 0 XC 974 1 1176 → Nv y (.slice (some ⟨gb3, 0, none⟩) nb3 cb3) 0 YC 974 1 1176 → wpAnyH Tryz.prog .any circOps Q (fun w' : World => (w'.cell? ⟨G, 0, none⟩ = some (.float .f64 ax) ∧ w'.cell? ⟨G, 1, none⟩ = some (.float .f64 ay) ∧ w'.cell? ⟨G, 2, none⟩ = some (.float .f64 bx) ∧ w'.cell? ⟨G, 3, none⟩ = some (.float .f64 by') ∧ w'.cell? ⟨G, 4, none⟩ = some (.float .f64 cx) ∧ w'.cell? ⟨G, 5, none⟩ = some (.float .f64 cy) ∧ w'.cell? ⟨G, 6, none⟩ = some (.float .f64 dx) ∧ w'.cell? ⟨G, 7, none⟩ = some (.float .f64 dy))) fuel listed { tmps := #[x0, x1, x2, x3, x4, x5, x6, x7, x8, x9, .slice (some ⟨G, 0, none⟩) 4 4, x11, undef, undef, .pointer (some ⟨r, 0, none⟩), x15, x16, x17, x18, x19, x20, x21, x22, x23, x24, x25, x26, .slice (some ⟨G, 0, none⟩) 4 4, .pointer (some ⟨G, 6, none⟩), .agg #[.float .f64 dx, .float .f64 dy], .slice (some ⟨G, 0, none⟩) 4 4, .pointer (some ⟨G, 0, none⟩), .agg #[.float .f64 ax, .float .f64 ay], .agg #[.slice (some ⟨ga1, 0, none⟩) na1 ca1, .slice (some ⟨gb1, 0, none⟩) nb1 cb1], .slice (some ⟨G, 0, none⟩) 4 4, .pointer (some ⟨G, 6, none⟩), .agg #[.float .f64 dx, .float .f64 dy], .slice (some ⟨G, 0, none⟩) 4 4, .pointer (some ⟨G, 2, none⟩), .agg #[.float .f64 bx, .float .f64 by'], .agg #[.slice (some ⟨ga2, 0, none⟩) na2 ca2, .slice (some ⟨gb2, 0, none⟩) nb2 cb2], .slice (some ⟨G, 0, none⟩) 4 4, .pointer (some ⟨G, 6, none⟩), .agg #[.float .f64 dx, .float .f64 dy], .slice (some ⟨G, 0, none⟩) 4 4, .pointer (some ⟨G, 4, none⟩), .agg #[.float .f64 cx, .float .f64 cy], .agg #[.slice (some ⟨ga3, 0, none⟩) na3 ca3, .slice (some ⟨gb3, 0, none⟩) nb3 cb3], undef, undef, undef, undef, undef, undef, undef, undef, undef, undef, undef, undef, undef, undef, undef, undef, undef, undef, undef, undef, undef], defers := [] } y) := by
    intro fuel listed r ga1 na1 ca1 gb1 nb1 cb1 ga2 na2 ca2 gb2 nb2 cb2 ga3 na3 ca3 gb3 nb3 cb3 y hfu hli hB hr lr u1 v1 u2 v2 u3 v3
    subst hfu hli
    unfold circOps
    have hHeld := KS y hB
    refine wpAnyH_ready (rs := [21, 22]) (by kernel_rfl) (by simp) ?_
    refine AllReadyH.cons (o := { dst := some 12, op := Op.alloc 81, type := 0, pos := "plumbline.go:34", after := #[], guard := none }) rfl (fun K hK => ?_) ?_
    · go_simp
      refine hK.out _ _ (KS _ (below_alloc _ hB)) (fun _ => ?_)
      clear hK K
      (try simp only [List.setIfInBounds_toArray, List.set_cons_zero, List.set_cons_succ])
      exact T3pr.out _ _ y.heap.size r ga1 na1 ca1 gb1 nb1 cb1 ga2 na2 ca2 gb2 nb2 cb2 ga3 na3 ca3 gb3 nb3 cb3 _ rfl (by kernel_rfl) (below_alloc _ hB) (WB.new rfl) hB.size (hr.kept ((Below.refl _ y).alloc (Nat.le_refl _) _)) lr (Nat.ne_of_gt hr.lt) (u1.kept ((Below.refl _ y).alloc (Nat.le_refl _) _)) (v1.kept ((Below.refl _ y).alloc (Nat.le_refl _) _)) (u2.kept ((Below.refl _ y).alloc (Nat.le_refl _) _)) (v2.kept ((Below.refl _ y).alloc (Nat.le_refl _) _)) (u3.kept ((Below.refl _ y).alloc (Nat.le_refl _) _)) (v3.kept ((Below.refl _ y).alloc (Nat.le_refl _) _))
    refine AllReadyH.cons (o := { dst := some 13, op := Op.alloc 81, type := 0, pos := "plumbline.go:34", after := #[], guard := none }) rfl (fun K hK => ?_) ?_
    · go_simp
      refine hK.out _ _ (KS _ (below_alloc _ hB)) (fun _ => ?_)
      clear hK K
      (try simp only [List.setIfInBounds_toArray, List.set_cons_zero, List.set_cons_succ])
      exact T3qr.out _ _ y.heap.size r ga1 na1 ca1 gb1 nb1 cb1 ga2 na2 ca2 gb2 nb2 cb2 ga3 na3 ca3 gb3 nb3 cb3 _ rfl (by kernel_rfl) (below_alloc _ hB) (WB.new rfl) hB.size (hr.kept ((Below.refl _ y).alloc (Nat.le_refl _) _)) lr (Nat.ne_of_gt hr.lt) (u1.kept ((Below.refl _ y).alloc (Nat.le_refl _) _)) (v1.kept ((Below.refl _ y).alloc (Nat.le_refl _) _)) (u2.kept ((Below.refl _ y).alloc (Nat.le_refl _) _)) (v2.kept ((Below.refl _ y).alloc (Nat.le_refl _) _)) (u3.kept ((Below.refl _ y).alloc (Nat.le_refl _) _)) (v3.kept ((Below.refl _ y).alloc (Nat.le_refl _) _))
    exact AllReadyH.nil
  clear T2pqr T3pq T3pr T3qr
  have T0pqr : Hid (∀ (fuel : Nat) (listed : Array Bool) (p q r : Nat) (y : World), fuel = 6 → listed = #[true, true, true, true, true, true, false, true, true, true, true, true, true, false, true, true, true, true, true, true, false, true, true, true, false, false, false] → Below W.heap.size W y → WB y p → W.heap.size ≤ p → WB y q → W.heap.size ≤ q → WB y r → W.heap.size ≤ r → p ≠ q → p ≠ r → q ≠ r → wpAnyH Tryz.prog .any circOps Q (fun w' : World => (w'.cell? ⟨G, 0, none⟩ = some (.float .f64 ax) ∧ w'.cell? ⟨G, 1, none⟩ = some (.float .f64 ay) ∧ w'.cell? ⟨G, 2, none⟩ = some (.float .f64 bx) ∧ w'.cell? ⟨G, 3, none⟩ = some (.float .f64 by') ∧ w'.cell? ⟨G, 4, none⟩ = some (.float .f64 cx) ∧ w'.cell? ⟨G, 5, none⟩ = some (.float .f64 cy) ∧ w'.cell? ⟨G, 6, none⟩ = some (.float .f64 dx) ∧ w'.cell? ⟨G, 7, none⟩ = some (.float .f64 dy))) fuel listed { tmps := #[x0, x1, x2, x3, x4, x5, x6, x7, x8, x9, .slice (some ⟨G, 0, none⟩) 4 4, x11, .pointer (some ⟨p, 0, none⟩), .pointer (some ⟨q, 0, none⟩), .pointer (some ⟨r, 0, none⟩), x15, x16, x17, x18, x19, x20, x21, x22, x23, x24, x25, x26, .slice (some ⟨G, 0, none⟩) 4 4, .pointer (some ⟨G, 6, none⟩), .agg #[.float .f64 dx, .float .f64 dy], .slice (some ⟨G, 0, none⟩) 4 4, .pointer (some ⟨G, 0, none⟩), .agg #[.float .f64 ax, .float .f64 ay], undef, .slice (some ⟨G, 0, none⟩) 4 4, .pointer (some ⟨G, 6, none⟩), .agg #[.float .f64 dx, .float .f64 dy], .slice (some ⟨G, 0, none⟩) 4 4, .pointer (some ⟨G, 2, none⟩), .agg #[.float .f64 bx, .float .f64 by'], undef, .slice (some ⟨G, 0, none⟩) 4 4, .pointer (some ⟨G, 6, none⟩), .agg #[.float .f64 dx, .float .f64 dy], .slice (some ⟨G, 0, none⟩) 4 4, .pointer (some ⟨G, 4, none⟩), .agg #[.float .f64 cx, .float .f64 cy], undef, undef, undef, undef, undef, undef, undef, undef, undef, undef, undef, undef, undef, undef, undef, undef, undef, undef, undef, undef, undef, undef], defers := [] } y) := by
    intro fuel listed p q r y hfu hli hB hp lp hq lq hr lr dpq dpr dqr
    subst hfu hli
    unfold circOps
    have hHeld := KS y hB
    refine wpAnyH_ready (rs := [6]) (by kernel_rfl) (by simp) ?_
    refine AllReadyH.cons (o := { dst := some 33, op := Op.call { callee := Callee.value (Operand.func 38), args := #[Operand.tmp 29, Operand.tmp 32], argTypes := #[76, 76] }, type := 81, pos := "plumbline.go:34", after := #[{ on := 2, ground := Ground.data }, { on := 5, ground := Ground.data }], guard := none }) rfl (fun K hK => ?_) ?_
    · go_simp
      (go_at_call 38; refine (HA.out _).mono ?_; rintro e y1 ⟨z1, z2, rfl, hz1, hz2, hb1⟩)
      obtain ⟨ga1, na1, ca1, he1⟩ := hz1.form
      subst he1
      obtain ⟨gb1, nb1, cb1, he2⟩ := hz2.form
      subst he2
      have hB1 : Below W.heap.size W y1 := below_step hb1 hB
      (try go_wp2_with fail)
      refine hK.out _ _ (KS y1 hB1) (fun _ => ?_)
      clear hK K
      (try simp only [List.setIfInBounds_toArray, List.set_cons_zero, List.set_cons_succ])
      exact T1pqr.out _ _ p q r ga1 na1 ca1 gb1 nb1 cb1 y1 rfl (by kernel_rfl) hB1 (hp.kept hb1) lp (hq.kept hb1) lq (hr.kept hb1) lr dpq dpr dqr hz1 hz2
    exact AllReadyH.nil
  have T1pq : Hid (∀ (fuel : Nat) (listed : Array Bool) (p q : Nat) (ga1 na1 ca1 gb1 nb1 cb1 : Nat) (y : World), fuel = 6 → listed = #[true, true, true, true, true, true, true, true, true, true, true, true, true, false, true, true, true, true, true, true, false, true, true, false, false, false, false] → Below W.heap.size W y → WB y p → W.heap.size ≤ p → WB y q → W.heap.size ≤ q → p ≠ q → Nv y (.slice (some ⟨ga1, 0, none⟩) na1 ca1) 0 XA 974 1 1176 → Nv y (.slice (some ⟨gb1, 0, none⟩) nb1 cb1) 0 YA 974 1 1176 → wpAnyH Tryz.prog .any circOps Q (fun w' : World => (w'.cell? ⟨G, 0, none⟩ = some (.float .f64 ax) ∧ w'.cell? ⟨G, 1, none⟩ = some (.float .f64 ay) ∧ w'.cell? ⟨G, 2, none⟩ = some (.float .f64 bx) ∧ w'.cell? ⟨G, 3, none⟩ = some (.float .f64 by') ∧ w'.cell? ⟨G, 4, none⟩ = some (.float .f64 cx) ∧ w'.cell? ⟨G, 5, none⟩ = some (.float .f64 cy) ∧ w'.cell? ⟨G, 6, none⟩ = some (.float .f64 dx) ∧ w'.cell? ⟨G, 7, none⟩ = some (.float .f64 dy))) fuel listed { tmps := #[x0, x1, x2, x3, x4, x5, x6, x7, x8, x9, .slice (some ⟨G, 0, none⟩) 4 4, x11, .pointer (some ⟨p, 0, none⟩), .pointer (some ⟨q, 0, none⟩), undef, x15, x16, x17, x18, x19, x20, x21, x22, x23, x24, x25, x26, .slice (some ⟨G, 0, none⟩) 4 4, .pointer (some ⟨G, 6, none⟩), .agg #[.float .f64 dx, .float .f64 dy], .slice (some ⟨G, 0, none⟩) 4 4, .pointer (some ⟨G, 0, none⟩), .agg #[.float .f64 ax, .float .f64 ay], .agg #[.slice (some ⟨ga1, 0, none⟩) na1 ca1, .slice (some ⟨gb1, 0, none⟩) nb1 cb1], .slice (some ⟨G, 0, none⟩) 4 4, .pointer (some ⟨G, 6, none⟩), .agg #[.float .f64 dx, .float .f64 dy], .slice (some ⟨G, 0, none⟩) 4 4, .pointer (some ⟨G, 2, none⟩), .agg #[.float .f64 bx, .float .f64 by'], undef, .slice (some ⟨G, 0, none⟩) 4 4, .pointer (some ⟨G, 6, none⟩), .agg #[.float .f64 dx, .float .f64 dy], .slice (some ⟨G, 0, none⟩) 4 4, .pointer (some ⟨G, 4, none⟩), .agg #[.float .f64 cx, .float .f64 cy], undef, undef, undef, undef, undef, undef, undef, undef, undef, undef, undef, undef, undef, undef, undef, undef, undef, undef, undef, undef, undef, undef], defers := [] } y) := by
    intro fuel listed p q ga1 na1 ca1 gb1 nb1 cb1 y hfu hli hB hp lp hq lq dpq u1 v1
    subst hfu hli
    unfold circOps
    have hHeld := KS y hB
    refine wpAnyH_ready (rs := [13, 23]) (by kernel_rfl) (by simp) ?_
    refine AllReadyH.cons (o := { dst := some 40, op := Op.call { callee := Callee.value (Operand.func 38), args := #[Operand.tmp 36, Operand.tmp 39], argTypes := #[76, 76] }, type := 81, pos := "plumbline.go:34", after := #[{ on := 9, ground := Ground.data }, { on := 12, ground := Ground.data }, { on := 6, ground := Ground.chain }], guard := none }) rfl (fun K hK => ?_) ?_
    · go_simp
      (go_at_call 38; refine (HB.out _).mono ?_; rintro e y1 ⟨z1, z2, rfl, hz1, hz2, hb1⟩)
      obtain ⟨ga2, na2, ca2, he1⟩ := hz1.form
      subst he1
      obtain ⟨gb2, nb2, cb2, he2⟩ := hz2.form
      subst he2
      have hB1 : Below W.heap.size W y1 := below_step hb1 hB
      (try go_wp2_with fail)
      refine hK.out _ _ (KS y1 hB1) (fun _ => ?_)
      clear hK K
      (try simp only [List.setIfInBounds_toArray, List.set_cons_zero, List.set_cons_succ])
      exact T2pq.out _ _ p q ga1 na1 ca1 gb1 nb1 cb1 ga2 na2 ca2 gb2 nb2 cb2 y1 rfl (by kernel_rfl) hB1 (hp.kept hb1) lp (hq.kept hb1) lq dpq (u1.kept hb1) (v1.kept hb1) hz1 hz2
    refine AllReadyH.cons (o := { dst := some 14, op := Op.alloc 81, type := 0, pos := "plumbline.go:34", after := #[], guard := none }) rfl (fun K hK => ?_) ?_
    · go_simp
      refine hK.out _ _ (KS _ (below_alloc _ hB)) (fun _ => ?_)
      clear hK K
      (try simp only [List.setIfInBounds_toArray, List.set_cons_zero, List.set_cons_succ])
      exact T1pqr.out _ _ p q y.heap.size ga1 na1 ca1 gb1 nb1 cb1 _ rfl (by kernel_rfl) (below_alloc _ hB) (hp.kept ((Below.refl _ y).alloc (Nat.le_refl _) _)) lp (hq.kept ((Below.refl _ y).alloc (Nat.le_refl _) _)) lq (WB.new rfl) hB.size dpq (Nat.ne_of_lt hp.lt) (Nat.ne_of_lt hq.lt) (u1.kept ((Below.refl _ y).alloc (Nat.le_refl _) _)) (v1.kept ((Below.refl _ y).alloc (Nat.le_refl _) _))
    exact AllReadyH.nil
  have T1pr : Hid (∀ (fuel : Nat) (listed : Array Bool) (p r : Nat) (ga1 na1 ca1 gb1 nb1 cb1 : Nat) (y : World), fuel = 6 → listed = #[true, true, true, true, true, true, true, true, true, true, true, true, true, false, true, true, true, true, true, true, false, true, false, true, false, false, false] → Below W.heap.size W y → WB y p → W.heap.size ≤ p → WB y r → W.heap.size ≤ r → p ≠ r → Nv y (.slice (some ⟨ga1, 0, none⟩) na1 ca1) 0 XA 974 1 1176 → Nv y (.slice (some ⟨gb1, 0, none⟩) nb1 cb1) 0 YA 974 1 1176 → wpAnyH Tryz.prog .any circOps Q (fun w' : World => (w'.cell? ⟨G, 0, none⟩ = some (.float .f64 ax) ∧ w'.cell? ⟨G, 1, none⟩ = some (.float .f64 ay) ∧ w'.cell? ⟨G, 2, none⟩ = some (.float .f64 bx) ∧ w'.cell? ⟨G, 3, none⟩ = some (.float .f64 by') ∧ w'.cell? ⟨G, 4, none⟩ = some (.float .f64 cx) ∧ w'.cell? ⟨G, 5, none⟩ = some (.float .f64 cy) ∧ w'.cell? ⟨G, 6, none⟩ = some (.float .f64 dx) ∧ w'.cell? ⟨G, 7, none⟩ = some (.float .f64 dy))) fuel listed { tmps := #[x0, x1, x2, x3, x4, x5, x6, x7, x8, x9, .slice (some ⟨G, 0, none⟩) 4 4, x11, .pointer (some ⟨p, 0, none⟩), undef, .pointer (some ⟨r, 0, none⟩), x15, x16, x17, x18, x19, x20, x21, x22, x23, x24, x25, x26, .slice (some ⟨G, 0, none⟩) 4 4, .pointer (some ⟨G, 6, none⟩), .agg #[.float .f64 dx, .float .f64 dy], .slice (some ⟨G, 0, none⟩) 4 4, .pointer (some ⟨G, 0, none⟩), .agg #[.float .f64 ax, .float .f64 ay], .agg #[.slice (some ⟨ga1, 0, none⟩) na1 ca1, .slice (some ⟨gb1, 0, none⟩) nb1 cb1], .slice (some ⟨G, 0, none⟩) 4 4, .pointer (some ⟨G, 6, none⟩), .agg #[.float .f64 dx, .float .f64 dy], .slice (some ⟨G, 0, none⟩) 4 4, .pointer (some ⟨G, 2, none⟩), .agg #[.float .f64 bx, .float .f64 by'], undef, .slice (some ⟨G, 0, none⟩) 4 4, .pointer (some ⟨G, 6, none⟩), .agg #[.float .f64 dx, .float .f64 dy], .slice (some ⟨G, 0, none⟩) 4 4, .pointer (some ⟨G, 4, none⟩), .agg #[.float .f64 cx, .float .f64 cy], undef, undef, undef, undef, undef, undef, undef, undef, undef, undef, undef, undef, undef, undef, undef, undef, undef, undef, undef, undef, undef, undef], defers := [] } y) := by
    intro fuel listed p r ga1 na1 ca1 gb1 nb1 cb1 y hfu hli hB hp lp hr lr dpr u1 v1
    subst hfu hli
    unfold circOps
    have hHeld := KS y hB
    refine wpAnyH_ready (rs := [13, 22]) (by kernel_rfl) (by simp) ?_
    refine AllReadyH.cons (o := { dst := some 40, op := Op.call { callee := Callee.value (Operand.func 38), args := #[Operand.tmp 36, Operand.tmp 39], argTypes := #[76, 76] }, type := 81, pos := "plumbline.go:34", after := #[{ on := 9, ground := Ground.data }, { on := 12, ground := Ground.data }, { on := 6, ground := Ground.chain }], guard := none }) rfl (fun K hK => ?_) ?_
    · go_simp
      (go_at_call 38; refine (HB.out _).mono ?_; rintro e y1 ⟨z1, z2, rfl, hz1, hz2, hb1⟩)
      obtain ⟨ga2, na2, ca2, he1⟩ := hz1.form
      subst he1
      obtain ⟨gb2, nb2, cb2, he2⟩ := hz2.form
      subst he2
      have hB1 : Below W.heap.size W y1 := below_step hb1 hB
      (try go_wp2_with fail)
      refine hK.out _ _ (KS y1 hB1) (fun _ => ?_)
      clear hK K
      (try simp only [List.setIfInBounds_toArray, List.set_cons_zero, List.set_cons_succ])
      exact T2pr.out _ _ p r ga1 na1 ca1 gb1 nb1 cb1 ga2 na2 ca2 gb2 nb2 cb2 y1 rfl (by kernel_rfl) hB1 (hp.kept hb1) lp (hr.kept hb1) lr dpr (u1.kept hb1) (v1.kept hb1) hz1 hz2
    refine AllReadyH.cons (o := { dst := some 13, op := Op.alloc 81, type := 0, pos := "plumbline.go:34", after := #[], guard := none }) rfl (fun K hK => ?_) ?_
    · go_simp
      refine hK.out _ _ (KS _ (below_alloc _ hB)) (fun _ => ?_)
      clear hK K
      (try simp only [List.setIfInBounds_toArray, List.set_cons_zero, List.set_cons_succ])
      exact T1pqr.out _ _ p y.heap.size r ga1 na1 ca1 gb1 nb1 cb1 _ rfl (by kernel_rfl) (below_alloc _ hB) (hp.kept ((Below.refl _ y).alloc (Nat.le_refl _) _)) lp (WB.new rfl) hB.size (hr.kept ((Below.refl _ y).alloc (Nat.le_refl _) _)) lr (Nat.ne_of_lt hp.lt) dpr (Nat.ne_of_gt hr.lt) (u1.kept ((Below.refl _ y).alloc (Nat.le_refl _) _)) (v1.kept ((Below.refl _ y).alloc (Nat.le_refl _) _))
    exact AllReadyH.nil
  have T1qr : Hid (∀ (fuel : Nat) (listed : Array Bool) (q r : Nat) (ga1 na1 ca1 gb1 nb1 cb1 : Nat) (y : World), fuel = 6 → listed = #[true, true, true, true, true, true, true, true, true, true, true, true, true, false, true, true, true, true, true, true, false, false, true, true, false, false, false] → Below W.heap.size W y → WB y q → W.heap.size ≤ q → WB y r → W.heap.size ≤ r → q ≠ r → Nv y (.slice (some ⟨ga1, 0, none⟩) na1 ca1) 0 XA 974 1 1176 → Nv y (.slice (some ⟨gb1, 0, none⟩) nb1 cb1) 0 YA 974 1 1176 → wpAnyH Tryz.prog .any circOps Q (fun w' : World => (w'.cell? ⟨G, 0, none⟩ = some (.float .f64 ax) ∧ w'.cell? ⟨G, 1, none⟩ = some (.float .f64 ay) ∧ w'.cell? ⟨G, 2, none⟩ = some (.float .f64 bx) ∧ w'.cell? ⟨G, 3, none⟩ = some (.float .f64 by') ∧ w'.cell? ⟨G, 4, none⟩ = some (.float .f64 cx) ∧ w'.cell? ⟨G, 5, none⟩ = some (.float .f64 cy) ∧ w'.cell? ⟨G, 6, none⟩ = some (.float .f64 dx) ∧ w'.cell? ⟨G, 7, none⟩ = some (.float .f64 dy))) fuel listed { tmps := #[x0, x1, x2, x3, x4, x5, x6, x7, x8, x9, .slice (some ⟨G, 0, none⟩) 4 4, x11, undef, .pointer (some ⟨q, 0, none⟩), .pointer (some ⟨r, 0, none⟩), x15, x16, x17, x18, x19, x20, x21, x22, x23, x24, x25, x26, .slice (some ⟨G, 0, none⟩) 4 4, .pointer (some ⟨G, 6, none⟩), .agg #[.float .f64 dx, .float .f64 dy], .slice (some ⟨G, 0, none⟩) 4 4, .pointer (some ⟨G, 0, none⟩), .agg #[.float .f64 ax, .float .f64 ay], .agg #[.slice (some ⟨ga1, 0, none⟩) na1 ca1, .slice (some ⟨gb1, 0, none⟩) nb1 cb1], .slice (some ⟨G, 0, none⟩) 4 4, .pointer (some ⟨G, 6, none⟩), .agg #[.float .f64 dx, .float .f64 dy], .slice (some ⟨G, 0, none⟩) 4 4, .pointer (some ⟨G, 2, none⟩), .agg #[.float .f64 bx, .float .f64 by'], undef, .slice (some ⟨G, 0, none⟩) 4 4, .pointer (some ⟨G, 6, none⟩), .agg #[.float .f64 dx, .float .f64 dy], .slice (some ⟨G, 0, none⟩) 4 4, .pointer (some ⟨G, 4, none⟩), .agg #[.float .f64 cx, .float .f64 cy], undef, undef, undef, undef, undef, undef, undef, undef, undef, undef, undef, undef, undef, undef, undef, undef, undef, undef, undef, undef, undef, undef], defers := [] } y) := by
    intro fuel listed q r ga1 na1 ca1 gb1 nb1 cb1 y hfu hli hB hq lq hr lr dqr u1 v1
    subst hfu hli
    unfold circOps
    have hHeld := KS y hB
    refine wpAnyH_ready (rs := [13, 21]) (by kernel_rfl) (by simp) ?_
    refine AllReadyH.cons (o := { dst := some 40, op := Op.call { callee := Callee.value (Operand.func 38), args := #[Operand.tmp 36, Operand.tmp 39], argTypes := #[76, 76] }, type := 81, pos := "plumbline.go:34", after := #[{ on := 9, ground := Ground.data }, { on := 12, ground := Ground.data }, { on := 6, ground := Ground.chain }], guard := none }) rfl (fun K hK => ?_) ?_
    · go_simp
      (go_at_call 38; refine (HB.out _).mono ?_; rintro e y1 ⟨z1, z2, rfl, hz1, hz2, hb1⟩)
      obtain ⟨ga2, na2, ca2, he1⟩ := hz1.form
      subst he1
      obtain ⟨gb2, nb2, cb2, he2⟩ := hz2.form
      subst he2
      have hB1 : Below W.heap.size W y1 := below_step hb1 hB
      (try go_wp2_with fail)
      refine hK.out _ _ (KS y1 hB1) (fun _ => ?_)
      clear hK K
      (try simp only [List.setIfInBounds_toArray, List.set_cons_zero, List.set_cons_succ])
      exact T2qr.out _ _ q r ga1 na1 ca1 gb1 nb1 cb1 ga2 na2 ca2 gb2 nb2 cb2 y1 rfl (by kernel_rfl) hB1 (hq.kept hb1) lq (hr.kept hb1) lr dqr (u1.kept hb1) (v1.kept hb1) hz1 hz2
    refine AllReadyH.cons (o := { dst := some 12, op := Op.alloc 81, type := 0, pos := "plumbline.go:34", after := #[], guard := none }) rfl (fun K hK => ?_) ?_
    · go_simp
      refine hK.out _ _ (KS _ (below_alloc _ hB)) (fun _ => ?_)
      clear hK K
      (try simp only [List.setIfInBounds_toArray, List.set_cons_zero, List.set_cons_succ])
      exact T1pqr.out _ _ y.heap.size q r ga1 na1 ca1 gb1 nb1 cb1 _ rfl (by kernel_rfl) (below_alloc _ hB) (WB.new rfl) hB.size (hq.kept ((Below.refl _ y).alloc (Nat.le_refl _) _)) lq (hr.kept ((Below.refl _ y).alloc (Nat.le_refl _) _)) lr (Nat.ne_of_gt hq.lt) (Nat.ne_of_gt hr.lt) dqr (u1.kept ((Below.refl _ y).alloc (Nat.le_refl _) _)) (v1.kept ((Below.refl _ y).alloc (Nat.le_refl _) _))
    exact AllReadyH.nil
  have T2p : Hid (∀ (fuel : Nat) (listed : Array Bool) (p : Nat) (ga1 na1 ca1 gb1 nb1 cb1 : Nat) (ga2 na2 ca2 gb2 nb2 cb2 : Nat) (y : World), fuel = 6 → listed = #[true, true, true, true, true, true, true, true, true, true, true, true, true, true, true, true, true, true, true, true, false, true, false, false, false, false, false] → Below W.heap.size W y → WB y p → W.heap.size ≤ p → Nv y (.slice (some ⟨ga1, 0, none⟩) na1 ca1) 0 XA 974 1 1176 → Nv y (.slice (some ⟨gb1, 0, none⟩) nb1 cb1) 0 YA 974 1 1176 → Nv y (.slice (some ⟨ga2, 0, none⟩) na2 ca2) 0 XB 974 1 1176 → Nv y (.slice (some ⟨gb2, 0, none⟩) nb2 cb2) 0 YB 974 1 1176 → wpAnyH Tryz.prog .any circOps Q (fun w' : World => (w'.cell? ⟨G, 0, none⟩ = some (.float .f64 ax) ∧ w'.cell? ⟨G, 1, none⟩ = some (.float .f64 ay) ∧ w'.cell? ⟨G, 2, none⟩ = some (.float .f64 bx) ∧ w'.cell? ⟨G, 3, none⟩ = some (.float .f64 by') ∧ w'.cell? ⟨G, 4, none⟩ = some (.float .f64 cx) ∧ w'.cell? ⟨G, 5, none⟩ = some (.float .f64 cy) ∧ w'.cell? ⟨G, 6, none⟩ = some (.float .f64 dx) ∧ w'.cell? ⟨G, 7, none⟩ = some (.float .f64 dy))) fuel listed { tmps := #[x0, x1, x2, x3, x4, x5, x6, x7, x8, x9, .slice (some ⟨G, 0, none⟩) 4 4, x11, .pointer (some ⟨p, 0, none⟩), undef, undef, x15, x16, x17, x18, x19, x20, x21, x22, x23, x24, x25, x26, .slice (some ⟨G, 0, none⟩) 4 4, .pointer (some ⟨G, 6, none⟩), .agg #[.float .f64 dx, .float .f64 dy], .slice (some ⟨G, 0, none⟩) 4 4, .pointer (some ⟨G, 0, none⟩), .agg #[.float .f64 ax, .float .f64 ay], .agg #[.slice (some ⟨ga1, 0, none⟩) na1 ca1, .slice (some ⟨gb1, 0, none⟩) nb1 cb1], .slice (some ⟨G, 0, none⟩) 4 4, .pointer (some ⟨G, 6, none⟩), .agg #[.float .f64 dx, .float .f64 dy], .slice (some ⟨G, 0, none⟩) 4 4, .pointer (some ⟨G, 2, none⟩), .agg #[.float .f64 bx, .float .f64 by'], .agg #[.slice (some ⟨ga2, 0, none⟩) na2 ca2, .slice (some ⟨gb2, 0, none⟩) nb2 cb2], .slice (some ⟨G, 0, none⟩) 4 4, .pointer (some ⟨G, 6, none⟩), .agg #[.float .f64 dx, .float .f64 dy], .slice (some ⟨G, 0, none⟩) 4 4, .pointer (some ⟨G, 4, none⟩), .agg #[.float .f64 cx, .float .f64 cy], undef, undef, undef, undef, undef, undef, undef, undef, undef, undef, undef, undef, undef, undef, undef, undef, undef, undef, undef, undef, undef, undef], defers := [] } y) := by
    intro fuel listed p ga1 na1 ca1 gb1 nb1 cb1 ga2 na2 ca2 gb2 nb2 cb2 y hfu hli hB hp lp u1 v1 u2 v2
    subst hfu hli
    unfold circOps
    have hHeld := KS y hB
    refine wpAnyH_ready (rs := [20, 22, 23]) (by kernel_rfl) (by simp) ?_
    refine AllReadyH.cons (o := { dst := some 47, op := Op.call { callee := Callee.value (Operand.func 38), args := #[Operand.tmp 43, Operand.tmp 46], argTypes := #[76, 76] }, type := 81, pos := "plumbline.go:34", after := #[{ on := 16, ground := Ground.data }, { on := 19, ground := Ground.data }, { on := 13, ground := Ground.chain }], guard := none }) rfl (fun K hK => ?_) ?_
    · go_simp
      (go_at_call 38; refine (HC.out _).mono ?_; rintro e y1 ⟨z1, z2, rfl, hz1, hz2, hb1⟩)
      obtain ⟨ga3, na3, ca3, he1⟩ := hz1.form
      subst he1
      obtain ⟨gb3, nb3, cb3, he2⟩ := hz2.form
      subst he2
      have hB1 : Below W.heap.size W y1 := below_step hb1 hB
      (try go_wp2_with fail)
      refine hK.out _ _ (KS y1 hB1) (fun _ => ?_)
      clear hK K
      (try simp only [List.setIfInBounds_toArray, List.set_cons_zero, List.set_cons_succ])
      exact T3p.out _ _ p ga1 na1 ca1 gb1 nb1 cb1 ga2 na2 ca2 gb2 nb2 cb2 ga3 na3 ca3 gb3 nb3 cb3 y1 rfl (by kernel_rfl) hB1 (hp.kept hb1) lp (u1.kept hb1) (v1.kept hb1) (u2.kept hb1) (v2.kept hb1) hz1 hz2
    refine AllReadyH.cons (o := { dst := some 13, op := Op.alloc 81, type := 0, pos := "plumbline.go:34", after := #[], guard := none }) rfl (fun K hK => ?_) ?_
    · go_simp
      refine hK.out _ _ (KS _ (below_alloc _ hB)) (fun _ => ?_)
      clear hK K
      (try simp only [List.setIfInBounds_toArray, List.set_cons_zero, List.set_cons_succ])
      exact T2pq.out _ _ p y.heap.size ga1 na1 ca1 gb1 nb1 cb1 ga2 na2 ca2 gb2 nb2 cb2 _ rfl (by kernel_rfl) (below_alloc _ hB) (hp.kept ((Below.refl _ y).alloc (Nat.le_refl _) _)) lp (WB.new rfl) hB.size (Nat.ne_of_lt hp.lt) (u1.kept ((Below.refl _ y).alloc (Nat.le_refl _) _)) (v1.kept ((Below.refl _ y).alloc (Nat.le_refl _) _)) (u2.kept ((Below.refl _ y).alloc (Nat.le_refl _) _)) (v2.kept ((Below.refl _ y).alloc (Nat.le_refl _) _))
    refine AllReadyH.cons (o := { dst := some 14, op := Op.alloc 81, type := 0, pos := "plumbline.go:34", after := #[], guard := none }) rfl (fun K hK => ?_) ?_
    · go_simp
      refine hK.out _ _ (KS _ (below_alloc _ hB)) (fun _ => ?_)
      clear hK K
      (try simp only [List.setIfInBounds_toArray, List.set_cons_zero, List.set_cons_succ])
      exact T2pr.out _ _ p y.heap.size ga1 na1 ca1 gb1 nb1 cb1 ga2 na2 ca2 gb2 nb2 cb2 _ rfl (by kernel_rfl) (below_alloc _ hB) (hp.kept ((Below.refl _ y).alloc (Nat.le_refl _) _)) lp (WB.new rfl) hB.size (Nat.ne_of_lt hp.lt) (u1.kept ((Below.refl _ y).alloc (Nat.le_refl _) _)) (v1.kept ((Below.refl _ y).alloc (Nat.le_refl _) _)) (u2.kept ((Below.refl _ y).alloc (Nat.le_refl _) _)) (v2.kept ((Below.refl _ y).alloc (Nat.le_refl _) _))
    exact AllReadyH.nil
  have T2q : Hid (∀ (fuel : Nat) (listed : Array Bool) (q : Nat) (ga1 na1 ca1 gb1 nb1 cb1 : Nat) (ga2 na2 ca2 gb2 nb2 cb2 : Nat) (y : World), fuel = 6 → listed = #[true, true, true, true, true, true, true, true, true, true, true, true, true, true, true, true, true, true, true, true, false, false, true, false, false, false, false] → Below W.heap.size W y → WB y q → W.heap.size ≤ q → Nv y (.slice (some ⟨ga1, 0, none⟩) na1 ca1) 0 XA 974 1 1176 → Nv y (.slice (some ⟨gb1, 0, none⟩) nb1 cb1) 0 YA 974 1 1176 → Nv y (.slice (some ⟨ga2, 0, none⟩) na2 ca2) 0 XB 974 1 1176 → Nv y (.slice (some ⟨gb2, 0, none⟩) nb2 cb2) 0 YB 974 1 1176 → wpAnyH Tryz.prog .any circOps Q (fun w' : World => (w'.cell? ⟨G, 0, none⟩ = some (.float .f64 ax) ∧ w'.cell? ⟨G, 1, none⟩ = some (.float .f64 ay) ∧ w'.cell? ⟨G, 2, none⟩ = some (.float .f64 bx) ∧ w'.cell? ⟨G, 3, none⟩ = some (.float .f64 by') ∧ w'.cell? ⟨G, 4, none⟩ = some (.float .f64 cx) ∧ w'.cell? ⟨G, 5, none⟩ = some (.float .f64 cy) ∧ w'.cell? ⟨G, 6, none⟩ = some (.float .f64 dx) ∧ w'.cell? ⟨G, 7, none⟩ = some (.float .f64 dy))) fuel listed { tmps := #[x0, x1, x2, x3, x4, x5, x6, x7, x8, x9, .slice (some ⟨G, 0, none⟩) 4 4, x11, undef, .pointer (some ⟨q, 0, none⟩), undef, x15, x16, x17, x18, x19, x20, x21, x22, x23, x24, x25, x26, .slice (some ⟨G, 0, none⟩) 4 4, .pointer (some ⟨G, 6, none⟩), .agg #[.float .f64 dx, .float .f64 dy], .slice (some ⟨G, 0, none⟩) 4 4, .pointer (some ⟨G, 0, none⟩), .agg #[.float .f64 ax, .float .f64 ay], .agg #[.slice (some ⟨ga1, 0, none⟩) na1 ca1, .slice (some ⟨gb1, 0, none⟩) nb1 cb1], .slice (some ⟨G, 0, none⟩) 4 4, .pointer (some ⟨G, 6, none⟩), .agg #[.float .f64 dx, .float .f64 dy], .slice (some ⟨G, 0, none⟩) 4 4, .pointer (some ⟨G, 2, none⟩), .agg #[.float .f64 bx, .float .f64 by'], .agg #[.slice (some ⟨ga2, 0, none⟩) na2 ca2, .slice (some ⟨gb2, 0, none⟩) nb2 cb2], .slice (some ⟨G, 0, none⟩) 4 4, .pointer (some ⟨G, 6, none⟩), .agg #[.float .f64 dx, .float .f64 dy], .slice (some ⟨G, 0, none⟩) 4 4, .pointer (some ⟨G, 4, none⟩), .agg #[.float .f64 cx, .float .f64 cy], undef, undef, undef, undef, undef, undef, undef, undef, undef, undef, undef, undef, undef, undef, undef, undef, undef, undef, undef, undef, undef, undef], defers := [] } y) := by
    intro fuel listed q ga1 na1 ca1 gb1 nb1 cb1 ga2 na2 ca2 gb2 nb2 cb2 y hfu hli hB hq lq u1 v1 u2 v2
    subst hfu hli
    unfold circOps
    have hHeld := KS y hB
    refine wpAnyH_ready (rs := [20, 21, 23]) (by kernel_rfl) (by simp) ?_
    refine AllReadyH.cons (o := { dst := some 47, op := Op.call { callee := Callee.value (Operand.func 38), args := #[Operand.tmp 43, Operand.tmp 46], argTypes := #[76, 76] }, type := 81, pos := "plumbline.go:34", after := #[{ on := 16, ground := Ground.data }, { on := 19, ground := Ground.data }, { on := 13, ground := Ground.chain }], guard := none }) rfl (fun K hK => ?_) ?_
    · go_simp
      (go_at_call 38; refine (HC.out _).mono ?_; rintro e y1 ⟨z1, z2, rfl, hz1, hz2, hb1⟩)
      obtain ⟨ga3, na3, ca3, he1⟩ := hz1.form
      subst he1
      obtain ⟨gb3, nb3, cb3, he2⟩ := hz2.form
      subst he2
      have hB1 : Below W.heap.size W y1 := below_step hb1 hB
      (try go_wp2_with fail)
      refine hK.out _ _ (KS y1 hB1) (fun _ => ?_)
      clear hK K
      (try simp only [List.setIfInBounds_toArray, List.set_cons_zero, List.set_cons_succ])
      exact T3q.out _ _ q ga1 na1 ca1 gb1 nb1 cb1 ga2 na2 ca2 gb2 nb2 cb2 ga3 na3 ca3 gb3 nb3 cb3 y1 rfl (by kernel_rfl) hB1 (hq.kept hb1) lq (u1.kept hb1) (v1.kept hb1) (u2.kept hb1) (v2.kept hb1) hz1 hz2
    refine AllReadyH.cons (o := { dst := some 12, op := Op.alloc 81, type := 0, pos := "plumbline.go:34", after := #[], guard := none }) rfl (fun K hK => ?_) ?_
    · go_simp
      refine hK.out _ _ (KS _ (below_alloc _ hB)) (fun _ => ?_)
      clear hK K
      (try simp only [List.setIfInBounds_toArray, List.set_cons_zero, List.set_cons_succ])
      exact T2pq.out _ _ y.heap.size q ga1 na1 ca1 gb1 nb1 cb1 ga2 na2 ca2 gb2 nb2 cb2 _ rfl (by kernel_rfl) (below_alloc _ hB) (WB.new rfl) hB.size (hq.kept ((Below.refl _ y).alloc (Nat.le_refl _) _)) lq (Nat.ne_of_gt hq.lt) (u1.kept ((Below.refl _ y).alloc (Nat.le_refl _) _)) (v1.kept ((Below.refl _ y).alloc (Nat.le_refl _) _)) (u2.kept ((Below.refl _ y).alloc (Nat.le_refl _) _)) (v2.kept ((Below.refl _ y).alloc (Nat.le_refl _) _))
    refine AllReadyH.cons (o := { dst := some 14, op := Op.alloc 81, type := 0, pos := "plumbline.go:34", after := #[], guard := none }) rfl (fun K hK => ?_) ?_
    · go_simp
      refine hK.out _ _ (KS _ (below_alloc _ hB)) (fun _ => ?_)
      clear hK K
      (try simp only [List.setIfInBounds_toArray, List.set_cons_zero, List.set_cons_succ])
      exact T2qr.out _ _ q y.heap.size ga1 na1 ca1 gb1 nb1 cb1 ga2 na2 ca2 gb2 nb2 cb2 _ rfl (by kernel_rfl) (below_alloc _ hB) (hq.kept ((Below.refl _ y).alloc (Nat.le_refl _) _)) lq (WB.new rfl) hB.size (Nat.ne_of_lt hq.lt) (u1.kept ((Below.refl _ y).alloc (Nat.le_refl _) _)) (v1.kept ((Below.refl _ y).alloc (Nat.le_refl _) _)) (u2.kept ((Below.refl _ y).alloc (Nat.le_refl _) _)) (v2.kept ((Below.refl _ y).alloc (Nat.le_refl _) _))
    exact AllReadyH.nil
  have T2r : Hid (∀ (fuel : Nat) (listed : Array Bool) (r : Nat) (ga1 na1 ca1 gb1 nb1 cb1 : Nat) (ga2 na2 ca2 gb2 nb2 cb2 : Nat) (y : World), fuel = 6 → listed = #[true, true, true, true, true, true, true, true, true, true, true, true, true, true, true, true, true, true, true, true, false, false, false, true, false, false, false] → Below W.heap.size W y → WB y r → W.heap.size ≤ r → Nv y (.slice (some ⟨ga1, 0, none⟩) na1 ca1) 0 XA 974 1 1176 → Nv y (.slice (some ⟨gb1, 0, none⟩) nb1 cb1) 0 YA 974 1 1176 → Nv y (.slice (some ⟨ga2, 0, none⟩) na2 ca2) 0 XB 974 1 1176 → Nv y (.slice (some ⟨gb2, 0, none⟩) nb2 cb2) 0 YB 974 1 1176 → wpAnyH Tryz.prog .any circOps Q (fun w' : World => (w'.cell? ⟨G, 0, none⟩ = some (.float .f64 ax) ∧ w'.cell? ⟨G, 1, none⟩ = some (.float .f64 ay) ∧ w'.cell? ⟨G, 2, none⟩ = some (.float .f64 bx) ∧ w'.cell? ⟨G, 3, none⟩ = some (.float .f64 by') ∧ w'.cell? ⟨G, 4, none⟩ = some (.float .f64 cx) ∧ w'.cell? ⟨G, 5, none⟩ = some (.float .f64 cy) ∧ w'.cell? ⟨G, 6, none⟩ = some (.float .f64 dx) ∧ w'.cell? ⟨G, 7, none⟩ = some (.float .f64 dy))) fuel listed { tmps := #[x0, x1, x2, x3, x4, x5, x6, x7, x8, x9, .slice (some ⟨G, 0, none⟩) 4 4, x11, undef, undef, .pointer (some ⟨r, 0, none⟩), x15, x16, x17, x18, x19, x20, x21, x22, x23, x24, x25, x26, .slice (some ⟨G, 0, none⟩) 4 4, .pointer (some ⟨G, 6, none⟩), .agg #[.float .f64 dx, .float .f64 dy], .slice (some ⟨G, 0, none⟩) 4 4, .pointer (some ⟨G, 0, none⟩), .agg #[.float .f64 ax, .float .f64 ay], .agg #[.slice (some ⟨ga1, 0, none⟩) na1 ca1, .slice (some ⟨gb1, 0, none⟩) nb1 cb1], .slice (some ⟨G, 0, none⟩) 4 4, .pointer (some ⟨G, 6, none⟩), .agg #[.float .f64 dx, .float .f64 dy], .slice (some ⟨G, 0, none⟩) 4 4, .pointer (some ⟨G, 2, none⟩), .agg #[.float .f64 bx, .float .f64 by'], .agg #[.slice (some ⟨ga2, 0, none⟩) na2 ca2, .slice (some ⟨gb2, 0, none⟩) nb2 cb2], .slice (some ⟨G, 0, none⟩) 4 4, .pointer (some ⟨G, 6, none⟩), .agg #[.float .f64 dx, .float .f64 dy], .slice (some ⟨G, 0, none⟩) 4 4, .pointer (some ⟨G, 4, none⟩), .agg #[.float .f64 cx, .float .f64 cy], undef, undef, undef, undef, undef, undef, undef, undef, undef, undef, undef, undef, undef, undef, undef, undef, undef, undef, undef, undef, undef, undef], defers := [] } y) := by
    intro fuel listed r ga1 na1 ca1 gb1 nb1 cb1 ga2 na2 ca2 gb2 nb2 cb2 y hfu hli hB hr lr u1 v1 u2 v2
    subst hfu hli
    unfold circOps
    have hHeld := KS y hB
    refine wpAnyH_ready (rs := [20, 21, 22]) (by kernel_rfl) (by simp) ?_
    refine AllReadyH.cons (o := { dst := some 47, op := Op.call { callee := Callee.value (Operand.func 38), args := #[Operand.tmp 43, Operand.tmp 46], argTypes := #[76, 76] }, type := 81, pos := "plumbline.go:34", after := #[{ on := 16, ground := Ground.data }, { on := 19, ground := Ground.data }, { on := 13, ground := Ground.chain }], guard := none }) rfl (fun K hK => ?_) ?_
    · go_simp
      (go_at_call 38; refine (HC.out _).mono ?_; rintro e y1 ⟨z1, z2, rfl, hz1, hz2, hb1⟩)
      obtain ⟨ga3, na3, ca3, he1⟩ := hz1.form
      subst he1
      obtain ⟨gb3, nb3, cb3, he2⟩ := hz2.form
      subst he2
      have hB1 : Below W.heap.size W y1 := below_step hb1 hB
      (try go_wp2_with fail)
      refine hK.out _ _ (KS y1 hB1) (fun _ => ?_)
      clear hK K
      (try simp only [List.setIfInBounds_toArray, List.set_cons_zero, List.set_cons_succ])
      exact T3r.out _ _ r ga1 na1 ca1 gb1 nb1 cb1 ga2 na2 ca2 gb2 nb2 cb2 ga3 na3 ca3 gb3 nb3 cb3 y1 rfl (by kernel_rfl) hB1 (hr.kept hb1) lr (u1.kept hb1) (v1.kept hb1) (u2.kept hb1) (v2.kept hb1) hz1 hz2
    refine AllReadyH.cons (o := { dst := some 12, op := Op.alloc 81, type := 0, pos := "plumbline.go:34", after := #[], guard := none }) rfl (fun K hK => ?_) ?_
    · go_simp
      refine hK.out _ _ (KS _ (below_alloc _ hB)) (fun _ => ?_)
      clear hK K
      (try simp only [List.setIfInBounds_toArray, List.set_cons_zero, List.set_cons_succ])
      exact T2pr.out _ _ y.heap.size r ga1 na1 ca1 gb1 nb1 cb1 ga2 na2 ca2 gb2 nb2 cb2 _ rfl (by kernel_rfl) (below_alloc _ hB) (WB.new rfl) hB.size (hr.kept ((Below.refl _ y).alloc (Nat.le_refl _) _)) lr (Nat.ne_of_gt hr.lt) (u1.kept ((Below.refl _ y).alloc (Nat.le_refl _) _)) (v1.kept ((Below.refl _ y).alloc (Nat.le_refl _) _)) (u2.kept ((Below.refl _ y).alloc (Nat.le_refl _) _)) (v2.kept ((Below.refl _ y).alloc (Nat.le_refl _) _))
    refine AllReadyH.cons (o := { dst := some 13, op := Op.alloc 81, type := 0, pos := "plumbline.go:34", after := #[], guard := none }) rfl (fun K hK => ?_) ?_
    · go_simp
      refine hK.out _ _ (KS _ (below_alloc _ hB)) (fun _ => ?_)
      clear hK K
      (try simp only [List.setIfInBounds_toArray, List.set_cons_zero, List.set_cons_succ])
      exact T2qr.out _ _ y.heap.size r ga1 na1 ca1 gb1 nb1 cb1 ga2 na2 ca2 gb2 nb2 cb2 _ rfl (by kernel_rfl) (below_alloc _ hB) (WB.new rfl) hB.size (hr.kept ((Below.refl _ y).alloc (Nat.le_refl _) _)) lr (Nat.ne_of_gt hr.lt) (u1.kept ((Below.refl _ y).alloc (Nat.le_refl _) _)) (v1.kept ((Below.refl _ y).alloc (Nat.le_refl _) _)) (u2.kept ((Below.refl _ y).alloc (Nat.le_refl _) _)) (v2.kept ((Below.refl _ y).alloc (Nat.le_refl _) _))
    exact AllReadyH.nil
  have T3 : Hid (∀ (fuel : Nat) (listed : Array Bool) (ga1 na1 ca1 gb1 nb1 cb1 : Nat) (ga2 na2 ca2 gb2 nb2 cb2 : Nat) (ga3 na3 ca3 gb3 nb3 cb3 : Nat) (y : World), fuel = 6 → listed = #[true, true, true, true, true, true, true, true, true, true, true, true, true, true, true, true, true, true, true, true, true, false, false, false, false, false, false] → Below W.heap.size W y → Nv y (.slice (some ⟨ga1, 0, none⟩) na1 ca1) 0 XA 974 1 1176 → Nv y (.slice (some ⟨gb1, 0, none⟩) nb1 cb1) 0 YA 974 1 1176 → Nv y (.slice (some ⟨ga2, 0, none⟩) na2 ca2) 0 XB 974 1 1176 → Nv y (.slice (some ⟨gb2, 0, none⟩) nb2 cb2) 0 YB 974 1 1176 → Nv y (.slice (some ⟨ga3, 0, none⟩) na3 ca3) 0 XC 974 1 1176 → Nv y (.slice (some ⟨gb3, 0, none⟩) nb3 cb3) 0 YC 974 1 1176 → wpAnyH Tryz.prog .any circOps Q (fun w' : World => (w'.cell? ⟨G, 0, none⟩ = some (.float .f64 ax) ∧ w'.cell? ⟨G, 1, none⟩ = some (.float .f64 ay) ∧ w'.cell? ⟨G, 2, none⟩ = some (.float .f64 bx) ∧ w'.cell? ⟨G, 3, none⟩ = some (.float .f64 by') ∧ w'.cell? ⟨G, 4, none⟩ = some (.float .f64 cx) ∧ w'.cell? ⟨G, 5, none⟩ = some (.float .f64 cy) ∧ w'.cell? ⟨G, 6, none⟩ = some (.float .f64 dx) ∧ w'.cell? ⟨G, 7, none⟩ = some (.float .f64 dy))) fuel listed { tmps := #[x0, x1, x2, x3, x4, x5, x6, x7, x8, x9, .slice (some ⟨G, 0, none⟩) 4 4, x11, undef, undef, undef, x15, x16, x17, x18, x19, x20, x21, x22, x23, x24, x25, x26, .slice (some ⟨G, 0, none⟩) 4 4, .pointer (some ⟨G, 6, none⟩), .agg #[.float .f64 dx, .float .f64 dy], .slice (some ⟨G, 0, none⟩) 4 4, .pointer (some ⟨G, 0, none⟩), .agg #[.float .f64 ax, .float .f64 ay], .agg #[.slice (some ⟨ga1, 0, none⟩) na1 ca1, .slice (some ⟨gb1, 0, none⟩) nb1 cb1], .slice (some ⟨G, 0, none⟩) 4 4, .pointer (some ⟨G, 6, none⟩), .agg #[.float .f64 dx, .float .f64 dy], .slice (some ⟨G, 0, none⟩) 4 4, .pointer (some ⟨G, 2, none⟩), .agg #[.float .f64 bx, .float .f64 by'], .agg #[.slice (some ⟨ga2, 0, none⟩) na2 ca2, .slice (some ⟨gb2, 0, none⟩) nb2 cb2], .slice (some ⟨G, 0, none⟩) 4 4, .pointer (some ⟨G, 6, none⟩), .agg #[.float .f64 dx, .float .f64 dy], .slice (some ⟨G, 0, none⟩) 4 4, .pointer (some ⟨G, 4, none⟩), .agg #[.float .f64 cx, .float .f64 cy], .agg #[.slice (some ⟨ga3, 0, none⟩) na3 ca3, .slice (some ⟨gb3, 0, none⟩) nb3 cb3], undef, undef, undef, undef, undef, undef, undef, undef, undef, undef, undef, undef, undef, undef, undef, undef, undef, undef, undef, undef, undef], defers := [] } y) := by
    intro fuel listed ga1 na1 ca1 gb1 nb1 cb1 ga2 na2 ca2 gb2 nb2 cb2 ga3 na3 ca3 gb3 nb3 cb3 y hfu hli hB u1 v1 u2 v2 u3 v3
    subst hfu hli
    unfold circOps
    have hHeld := KS y hB
    refine wpAnyH_ready (rs := [21, 22, 23]) (by kernel_rfl) (by simp) ?_
    refine AllReadyH.cons (o := { dst := some 12, op := Op.alloc 81, type := 0, pos := "plumbline.go:34", after := #[], guard := none }) rfl (fun K hK => ?_) ?_
    · go_simp
      refine hK.out _ _ (KS _ (below_alloc _ hB)) (fun _ => ?_)
      clear hK K
      (try simp only [List.setIfInBounds_toArray, List.set_cons_zero, List.set_cons_succ])
      exact T3p.out _ _ y.heap.size ga1 na1 ca1 gb1 nb1 cb1 ga2 na2 ca2 gb2 nb2 cb2 ga3 na3 ca3 gb3 nb3 cb3 _ rfl (by kernel_rfl) (below_alloc _ hB) (WB.new rfl) hB.size (u1.kept ((Below.refl _ y).alloc (Nat.le_refl _) _)) (v1.kept ((Below.refl _ y).alloc (Nat.le_refl _) _)) (u2.kept ((Below.refl _ y).alloc (Nat.le_refl _) _)) (v2.kept ((Below.refl _ y).alloc (Nat.le_refl _) _)) (u3.kept ((Below.refl _ y).alloc (Nat.le_refl _) _)) (v3.kept ((Below.refl _ y).alloc (Nat.le_refl _) _))
    refine AllReadyH.cons (o := { dst := some 13, op := Op.alloc 81, type := 0, pos := "plumbline.go:34", after := #[], guard := none }) rfl (fun K hK => ?_) ?_
    · go_simp
      refine hK.out _ _ (KS _ (below_alloc _ hB)) (fun _ => ?_)
      clear hK K
      (try simp only [List.setIfInBounds_toArray, List.set_cons_zero, List.set_cons_succ])
      exact T3q.out _ _ y.heap.size ga1 na1 ca1 gb1 nb1 cb1 ga2 na2 ca2 gb2 nb2 cb2 ga3 na3 ca3 gb3 nb3 cb3 _ rfl (by kernel_rfl) (below_alloc _ hB) (WB.new rfl) hB.size (u1.kept ((Below.refl _ y).alloc (Nat.le_refl _) _)) (v1.kept ((Below.refl _ y).alloc (Nat.le_refl _) _)) (u2.kept ((Below.refl _ y).alloc (Nat.le_refl _) _)) (v2.kept ((Below.refl _ y).alloc (Nat.le_refl _) _)) (u3.kept ((Below.refl _ y).alloc (Nat.le_refl _) _)) (v3.kept ((Below.refl _ y).alloc (Nat.le_refl _) _))
    refine AllReadyH.cons (o := { dst := some 14, op := Op.alloc 81, type := 0, pos := "plumbline.go:34", after := #[], guard := none }) rfl (fun K hK => ?_) ?_
    · go_simp
      refine hK.out _ _ (KS _ (below_alloc _ hB)) (fun _ => ?_)
      clear hK K
      (try simp only [List.setIfInBounds_toArray, List.set_cons_zero, List.set_cons_succ])
      exact T3r.out _ _ y.heap.size ga1 na1 ca1 gb1 nb1 cb1 ga2 na2 ca2 gb2 nb2 cb2 ga3 na3 ca3 gb3 nb3 cb3 _ rfl (by kernel_rfl) (below_alloc _ hB) (WB.new rfl) hB.size (u1.kept ((Below.refl _ y).alloc (Nat.le_refl _) _)) (v1.kept ((Below.refl _ y).alloc (Nat.le_refl _) _)) (u2.kept ((Below.refl _ y).alloc (Nat.le_refl _) _)) (v2.kept ((Below.refl _ y).alloc (Nat.le_refl _) _)) (u3.kept ((Below.refl _ y).alloc (Nat.le_refl _) _)) (v3.kept ((Below.refl _ y).alloc (Nat.le_refl _) _))
    exact AllReadyH.nil
  clear T1pqr T2pq T2pr T2qr T3p T3q T3r
  have T0pq : Hid (∀ (fuel : Nat) (listed : Array Bool) (p q : Nat) (y : World), fuel = 7 → listed = #[true, true, true, true, true, true, false, true, true, true, true, true, true, false, true, true, true, true, true, true, false, true, true, false, false, false, false] → Below W.heap.size W y → WB y p → W.heap.size ≤ p → WB y q → W.heap.size ≤ q → p ≠ q → wpAnyH Tryz.prog .any circOps Q (fun w' : World => (w'.cell? ⟨G, 0, none⟩ = some (.float .f64 ax) ∧ w'.cell? ⟨G, 1, none⟩ = some (.float .f64 ay) ∧ w'.cell? ⟨G, 2, none⟩ = some (.float .f64 bx) ∧ w'.cell? ⟨G, 3, none⟩ = some (.float .f64 by') ∧ w'.cell? ⟨G, 4, none⟩ = some (.float .f64 cx) ∧ w'.cell? ⟨G, 5, none⟩ = some (.float .f64 cy) ∧ w'.cell? ⟨G, 6, none⟩ = some (.float .f64 dx) ∧ w'.cell? ⟨G, 7, none⟩ = some (.float .f64 dy))) fuel listed { tmps := #[x0, x1, x2, x3, x4, x5, x6, x7, x8, x9, .slice (some ⟨G, 0, none⟩) 4 4, x11, .pointer (some ⟨p, 0, none⟩), .pointer (some ⟨q, 0, none⟩), undef, x15, x16, x17, x18, x19, x20, x21, x22, x23, x24, x25, x26, .slice (some ⟨G, 0, none⟩) 4 4, .pointer (some ⟨G, 6, none⟩), .agg #[.float .f64 dx, .float .f64 dy], .slice (some ⟨G, 0, none⟩) 4 4, .pointer (some ⟨G, 0, none⟩), .agg #[.float .f64 ax, .float .f64 ay], undef, .slice (some ⟨G, 0, none⟩) 4 4, .pointer (some ⟨G, 6, none⟩), .agg #[.float .f64 dx, .float .f64 dy], .slice (some ⟨G, 0, none⟩) 4 4, .pointer (some ⟨G, 2, none⟩), .agg #[.float .f64 bx, .float .f64 by'], undef, .slice (some ⟨G, 0, none⟩) 4 4, .pointer (some ⟨G, 6, none⟩), .agg #[.float .f64 dx, .float .f64 dy], .slice (some ⟨G, 0, none⟩) 4 4, .pointer (some ⟨G, 4, none⟩), .agg #[.float .f64 cx, .float .f64 cy], undef, undef, undef, undef, undef, undef, undef, undef, undef, undef, undef, undef, undef, undef, undef, undef, undef, undef, undef, undef, undef, undef], defers := [] } y) := by
    intro fuel listed p q y hfu hli hB hp lp hq lq dpq
    subst hfu hli
    unfold circOps
    have hHeld := KS y hB
    refine wpAnyH_ready (rs := [6, 23]) (by kernel_rfl) (by simp) ?_
    refine AllReadyH.cons (o := { dst := some 33, op := Op.call { callee := Callee.value (Operand.func 38), args := #[Operand.tmp 29, Operand.tmp 32], argTypes := #[76, 76] }, type := 81, pos := "plumbline.go:34", after := #[{ on := 2, ground := Ground.data }, { on := 5, ground := Ground.data }], guard := none }) rfl (fun K hK => ?_) ?_
    · go_simp
      (go_at_call 38; refine (HA.out _).mono ?_; rintro e y1 ⟨z1, z2, rfl, hz1, hz2, hb1⟩)
      obtain ⟨ga1, na1, ca1, he1⟩ := hz1.form
      subst he1
      obtain ⟨gb1, nb1, cb1, he2⟩ := hz2.form
      subst he2
      have hB1 : Below W.heap.size W y1 := below_step hb1 hB
      (try go_wp2_with fail)
      refine hK.out _ _ (KS y1 hB1) (fun _ => ?_)
      clear hK K
      (try simp only [List.setIfInBounds_toArray, List.set_cons_zero, List.set_cons_succ])
      exact T1pq.out _ _ p q ga1 na1 ca1 gb1 nb1 cb1 y1 rfl (by kernel_rfl) hB1 (hp.kept hb1) lp (hq.kept hb1) lq dpq hz1 hz2
    refine AllReadyH.cons (o := { dst := some 14, op := Op.alloc 81, type := 0, pos := "plumbline.go:34", after := #[], guard := none }) rfl (fun K hK => ?_) ?_
    · go_simp
      refine hK.out _ _ (KS _ (below_alloc _ hB)) (fun _ => ?_)
      clear hK K
      (try simp only [List.setIfInBounds_toArray, List.set_cons_zero, List.set_cons_succ])
      exact T0pqr.out _ _ p q y.heap.size _ rfl (by kernel_rfl) (below_alloc _ hB) (hp.kept ((Below.refl _ y).alloc (Nat.le_refl _) _)) lp (hq.kept ((Below.refl _ y).alloc (Nat.le_refl _) _)) lq (WB.new rfl) hB.size dpq (Nat.ne_of_lt hp.lt) (Nat.ne_of_lt hq.lt)
    exact AllReadyH.nil
  have T0pr : Hid (∀ (fuel : Nat) (listed : Array Bool) (p r : Nat) (y : World), fuel = 7 → listed = #[true, true, true, true, true, true, false, true, true, true, true, true, true, false, true, true, true, true, true, true, false, true, false, true, false, false, false] → Below W.heap.size W y → WB y p → W.heap.size ≤ p → WB y r → W.heap.size ≤ r → p ≠ r → wpAnyH Tryz.prog .any circOps Q (fun w' : World => (w'.cell? ⟨G, 0, none⟩ = some (.float .f64 ax) ∧ w'.cell? ⟨G, 1, none⟩ = some (.float .f64 ay) ∧ w'.cell? ⟨G, 2, none⟩ = some (.float .f64 bx) ∧ w'.cell? ⟨G, 3, none⟩ = some (.float .f64 by') ∧ w'.cell? ⟨G, 4, none⟩ = some (.float .f64 cx) ∧ w'.cell? ⟨G, 5, none⟩ = some (.float .f64 cy) ∧ w'.cell? ⟨G, 6, none⟩ = some (.float .f64 dx) ∧ w'.cell? ⟨G, 7, none⟩ = some (.float .f64 dy))) fuel listed { tmps := #[x0, x1, x2, x3, x4, x5, x6, x7, x8, x9, .slice (some ⟨G, 0, none⟩) 4 4, x11, .pointer (some ⟨p, 0, none⟩), undef, .pointer (some ⟨r, 0, none⟩), x15, x16, x17, x18, x19, x20, x21, x22, x23, x24, x25, x26, .slice (some ⟨G, 0, none⟩) 4 4, .pointer (some ⟨G, 6, none⟩), .agg #[.float .f64 dx, .float .f64 dy], .slice (some ⟨G, 0, none⟩) 4 4, .pointer (some ⟨G, 0, none⟩), .agg #[.float .f64 ax, .float .f64 ay], undef, .slice (some ⟨G, 0, none⟩) 4 4, .pointer (some ⟨G, 6, none⟩), .agg #[.float .f64 dx, .float .f64 dy], .slice (some ⟨G, 0, none⟩) 4 4, .pointer (some ⟨G, 2, none⟩), .agg #[.float .f64 bx, .float .f64 by'], undef, .slice (some ⟨G, 0, none⟩) 4 4, .pointer (some ⟨G, 6, none⟩), .agg #[.float .f64 dx, .float .f64 dy], .slice (some ⟨G, 0, none⟩) 4 4, .pointer (some ⟨G, 4, none⟩), .agg #[.float .f64 cx, .float .f64 cy], undef, undef, undef, undef, undef, undef, undef, undef, undef, undef, undef, undef, undef, undef, undef, undef, undef, undef, undef, undef, undef, undef], defers := [] } y) := by
    intro fuel listed p r y hfu hli hB hp lp hr lr dpr
    subst hfu hli
    unfold circOps
    have hHeld := KS y hB
    refine wpAnyH_ready (rs := [6, 22]) (by kernel_rfl) (by simp) ?_
    refine AllReadyH.cons (o := { dst := some 33, op := Op.call { callee := Callee.value (Operand.func 38), args := #[Operand.tmp 29, Operand.tmp 32], argTypes := #[76, 76] }, type := 81, pos := "plumbline.go:34", after := #[{ on := 2, ground := Ground.data }, { on := 5, ground := Ground.data }], guard := none }) rfl (fun K hK => ?_) ?_
    · go_simp
      (go_at_call 38; refine (HA.out _).mono ?_; rintro e y1 ⟨z1, z2, rfl, hz1, hz2, hb1⟩)
      obtain ⟨ga1, na1, ca1, he1⟩ := hz1.form
      subst he1
      obtain ⟨gb1, nb1, cb1, he2⟩ := hz2.form
      subst he2
      have hB1 : Below W.heap.size W y1 := below_step hb1 hB
      (try go_wp2_with fail)
      refine hK.out _ _ (KS y1 hB1) (fun _ => ?_)
      clear hK K
      (try simp only [List.setIfInBounds_toArray, List.set_cons_zero, List.set_cons_succ])
      exact T1pr.out _ _ p r ga1 na1 ca1 gb1 nb1 cb1 y1 rfl (by kernel_rfl) hB1 (hp.kept hb1) lp (hr.kept hb1) lr dpr hz1 hz2
    refine AllReadyH.cons (o := { dst := some 13, op := Op.alloc 81, type := 0, pos := "plumbline.go:34", after := #[], guard := none }) rfl (fun K hK => ?_) ?_
    · go_simp
      refine hK.out _ _ (KS _ (below_alloc _ hB)) (fun _ => ?_)
      clear hK K
      (try simp only [List.setIfInBounds_toArray, List.set_cons_zero, List.set_cons_succ])
      exact T0pqr.out _ _ p y.heap.size r _ rfl (by kernel_rfl) (below_alloc _ hB) (hp.kept ((Below.refl _ y).alloc (Nat.le_refl _) _)) lp (WB.new rfl) hB.size (hr.kept ((Below.refl _ y).alloc (Nat.le_refl _) _)) lr (Nat.ne_of_lt hp.lt) dpr (Nat.ne_of_gt hr.lt)
    exact AllReadyH.nil
  have T0qr : Hid (∀ (fuel : Nat) (listed : Array Bool) (q r : Nat) (y : World), fuel = 7 → listed = #[true, true, true, true, true, true, false, true, true, true, true, true, true, false, true, true, true, true, true, true, false, false, true, true, false, false, false] → Below W.heap.size W y → WB y q → W.heap.size ≤ q → WB y r → W.heap.size ≤ r → q ≠ r → wpAnyH Tryz.prog .any circOps Q (fun w' : World => (w'.cell? ⟨G, 0, none⟩ = some (.float .f64 ax) ∧ w'.cell? ⟨G, 1, none⟩ = some (.float .f64 ay) ∧ w'.cell? ⟨G, 2, none⟩ = some (.float .f64 bx) ∧ w'.cell? ⟨G, 3, none⟩ = some (.float .f64 by') ∧ w'.cell? ⟨G, 4, none⟩ = some (.float .f64 cx) ∧ w'.cell? ⟨G, 5, none⟩ = some (.float .f64 cy) ∧ w'.cell? ⟨G, 6, none⟩ = some (.float .f64 dx) ∧ w'.cell? ⟨G, 7, none⟩ = some (.float .f64 dy))) fuel listed { tmps := #[x0, x1, x2, x3, x4, x5, x6, x7, x8, x9, .slice (some ⟨G, 0, none⟩) 4 4, x11, undef, .pointer (some ⟨q, 0, none⟩), .pointer (some ⟨r, 0, none⟩), x15, x16, x17, x18, x19, x20, x21, x22, x23, x24, x25, x26, .slice (some ⟨G, 0, none⟩) 4 4, .pointer (some ⟨G, 6, none⟩), .agg #[.float .f64 dx, .float .f64 dy], .slice (some ⟨G, 0, none⟩) 4 4, .pointer (some ⟨G, 0, none⟩), .agg #[.float .f64 ax, .float .f64 ay], undef, .slice (some ⟨G, 0, none⟩) 4 4, .pointer (some ⟨G, 6, none⟩), .agg #[.float .f64 dx, .float .f64 dy], .slice (some ⟨G, 0, none⟩) 4 4, .pointer (some ⟨G, 2, none⟩), .agg #[.float .f64 bx, .float .f64 by'], undef, .slice (some ⟨G, 0, none⟩) 4 4, .pointer (some ⟨G, 6, none⟩), .agg #[.float .f64 dx, .float .f64 dy], .slice (some ⟨G, 0, none⟩) 4 4, .pointer (some ⟨G, 4, none⟩), .agg #[.float .f64 cx, .float .f64 cy], undef, undef, undef, undef, undef, undef, undef, undef, undef, undef, undef, undef, undef, undef, undef, undef, undef, undef, undef, undef, undef, undef], defers := [] } y) := by
    intro fuel listed q r y hfu hli hB hq lq hr lr dqr
    subst hfu hli
    unfold circOps
    have hHeld := KS y hB
    refine wpAnyH_ready (rs := [6, 21]) (by kernel_rfl) (by simp) ?_
    refine AllReadyH.cons (o := { dst := some 33, op := Op.call { callee := Callee.value (Operand.func 38), args := #[Operand.tmp 29, Operand.tmp 32], argTypes := #[76, 76] }, type := 81, pos := "plumbline.go:34", after := #[{ on := 2, ground := Ground.data }, { on := 5, ground := Ground.data }], guard := none }) rfl (fun K hK => ?_) ?_
    · go_simp
      (go_at_call 38; refine (HA.out _).mono ?_; rintro e y1 ⟨z1, z2, rfl, hz1, hz2, hb1⟩)
      obtain ⟨ga1, na1, ca1, he1⟩ := hz1.form
      subst he1
      obtain ⟨gb1, nb1, cb1, he2⟩ := hz2.form
      subst he2
      have hB1 : Below W.heap.size W y1 := below_step hb1 hB
      (try go_wp2_with fail)
      refine hK.out _ _ (KS y1 hB1) (fun _ => ?_)
      clear hK K
      (try simp only [List.setIfInBounds_toArray, List.set_cons_zero, List.set_cons_succ])
      exact T1qr.out _ _ q r ga1 na1 ca1 gb1 nb1 cb1 y1 rfl (by kernel_rfl) hB1 (hq.kept hb1) lq (hr.kept hb1) lr dqr hz1 hz2
    refine AllReadyH.cons (o := { dst := some 12, op := Op.alloc 81, type := 0, pos := "plumbline.go:34", after := #[], guard := none }) rfl (fun K hK => ?_) ?_
    · go_simp
      refine hK.out _ _ (KS _ (below_alloc _ hB)) (fun _ => ?_)
      clear hK K
      (try simp only [List.setIfInBounds_toArray, List.set_cons_zero, List.set_cons_succ])
      exact T0pqr.out _ _ y.heap.size q r _ rfl (by kernel_rfl) (below_alloc _ hB) (WB.new rfl) hB.size (hq.kept ((Below.refl _ y).alloc (Nat.le_refl _) _)) lq (hr.kept ((Below.refl _ y).alloc (Nat.le_refl _) _)) lr (Nat.ne_of_gt hq.lt) (Nat.ne_of_gt hr.lt) dqr
    exact AllReadyH.nil
  have T1p : Hid (∀ (fuel : Nat) (listed : Array Bool) (p : Nat) (ga1 na1 ca1 gb1 nb1 cb1 : Nat) (y : World), fuel = 7 → listed = #[true, true, true, true, true, true, true, true, true, true, true, true, true, false, true, true, true, true, true, true, false, true, false, false, false, false, false] → Below W.heap.size W y → WB y p → W.heap.size ≤ p → Nv y (.slice (some ⟨ga1, 0, none⟩) na1 ca1) 0 XA 974 1 1176 → Nv y (.slice (some ⟨gb1, 0, none⟩) nb1 cb1) 0 YA 974 1 1176 → wpAnyH Tryz.prog .any circOps Q (fun w' : World => (w'.cell? ⟨G, 0, none⟩ = some (.float .f64 ax) ∧ w'.cell? ⟨G, 1, none⟩ = some (.float .f64 ay) ∧ w'.cell? ⟨G, 2, none⟩ = some (.float .f64 bx) ∧ w'.cell? ⟨G, 3, none⟩ = some (.float .f64 by') ∧ w'.cell? ⟨G, 4, none⟩ = some (.float .f64 cx) ∧ w'.cell? ⟨G, 5, none⟩ = some (.float .f64 cy) ∧ w'.cell? ⟨G, 6, none⟩ = some (.float .f64 dx) ∧ w'.cell? ⟨G, 7, none⟩ = some (.float .f64 dy))) fuel listed { tmps := #[x0, x1, x2, x3, x4, x5, x6, x7, x8, x9, .slice (some ⟨G, 0, none⟩) 4 4, x11, .pointer (some ⟨p, 0, none⟩), undef, undef, x15, x16, x17, x18, x19, x20, x21, x22, x23, x24, x25, x26, .slice (some ⟨G, 0, none⟩) 4 4, .pointer (some ⟨G, 6, none⟩), .agg #[.float .f64 dx, .float .f64 dy], .slice (some ⟨G, 0, none⟩) 4 4, .pointer (some ⟨G, 0, none⟩), .agg #[.float .f64 ax, .float .f64 ay], .agg #[.slice (some ⟨ga1, 0, none⟩) na1 ca1, .slice (some ⟨gb1, 0, none⟩) nb1 cb1], .slice (some ⟨G, 0, none⟩) 4 4, .pointer (some ⟨G, 6, none⟩), .agg #[.float .f64 dx, .float .f64 dy], .slice (some ⟨G, 0, none⟩) 4 4, .pointer (some ⟨G, 2, none⟩), .agg #[.float .f64 bx, .float .f64 by'], undef, .slice (some ⟨G, 0, none⟩) 4 4, .pointer (some ⟨G, 6, none⟩), .agg #[.float .f64 dx, .float .f64 dy], .slice (some ⟨G, 0, none⟩) 4 4, .pointer (some ⟨G, 4, none⟩), .agg #[.float .f64 cx, .float .f64 cy], undef, undef, undef, undef, undef, undef, undef, undef, undef, undef, undef, undef, undef, undef, undef, undef, undef, undef, undef, undef, undef, undef], defers := [] } y) := by
    intro fuel listed p ga1 na1 ca1 gb1 nb1 cb1 y hfu hli hB hp lp u1 v1
    subst hfu hli
    unfold circOps
    have hHeld := KS y hB
    refine wpAnyH_ready (rs := [13, 22, 23]) (by kernel_rfl) (by simp) ?_
    refine AllReadyH.cons (o := { dst := some 40, op := Op.call { callee := Callee.value (Operand.func 38), args := #[Operand.tmp 36, Operand.tmp 39], argTypes := #[76, 76] }, type := 81, pos := "plumbline.go:34", after := #[{ on := 9, ground := Ground.data }, { on := 12, ground := Ground.data }, { on := 6, ground := Ground.chain }], guard := none }) rfl (fun K hK => ?_) ?_
    · go_simp
      (go_at_call 38; refine (HB.out _).mono ?_; rintro e y1 ⟨z1, z2, rfl, hz1, hz2, hb1⟩)
      obtain ⟨ga2, na2, ca2, he1⟩ := hz1.form
      subst he1
      obtain ⟨gb2, nb2, cb2, he2⟩ := hz2.form
      subst he2
      have hB1 : Below W.heap.size W y1 := below_step hb1 hB
      (try go_wp2_with fail)
      refine hK.out _ _ (KS y1 hB1) (fun _ => ?_)
      clear hK K
      (try simp only [List.setIfInBounds_toArray, List.set_cons_zero, List.set_cons_succ])
      exact T2p.out _ _ p ga1 na1 ca1 gb1 nb1 cb1 ga2 na2 ca2 gb2 nb2 cb2 y1 rfl (by kernel_rfl) hB1 (hp.kept hb1) lp (u1.kept hb1) (v1.kept hb1) hz1 hz2
    refine AllReadyH.cons (o := { dst := some 13, op := Op.alloc 81, type := 0, pos := "plumbline.go:34", after := #[], guard := none }) rfl (fun K hK => ?_) ?_
    · go_simp
      refine hK.out _ _ (KS _ (below_alloc _ hB)) (fun _ => ?_)
      clear hK K
      (try simp only [List.setIfInBounds_toArray, List.set_cons_zero, List.set_cons_succ])
      exact T1pq.out _ _ p y.heap.size ga1 na1 ca1 gb1 nb1 cb1 _ rfl (by kernel_rfl) (below_alloc _ hB) (hp.kept ((Below.refl _ y).alloc (Nat.le_refl _) _)) lp (WB.new rfl) hB.size (Nat.ne_of_lt hp.lt) (u1.kept ((Below.refl _ y).alloc (Nat.le_refl _) _)) (v1.kept ((Below.refl _ y).alloc (Nat.le_refl _) _))
    refine AllReadyH.cons (o := { dst := some 14, op := Op.alloc 81, type := 0, pos := "plumbline.go:34", after := #[], guard := none }) rfl (fun K hK => ?_) ?_
    · go_simp
      refine hK.out _ _ (KS _ (below_alloc _ hB)) (fun _ => ?_)
      clear hK K
      (try simp only [List.setIfInBounds_toArray, List.set_cons_zero, List.set_cons_succ])
      exact T1pr.out _ _ p y.heap.size ga1 na1 ca1 gb1 nb1 cb1 _ rfl (by kernel_rfl) (below_alloc _ hB) (hp.kept ((Below.refl _ y).alloc (Nat.le_refl _) _)) lp (WB.new rfl) hB.size (Nat.ne_of_lt hp.lt) (u1.kept ((Below.refl _ y).alloc (Nat.le_refl _) _)) (v1.kept ((Below.refl _ y).alloc (Nat.le_refl _) _))
    exact AllReadyH.nil
  have T1q : Hid (∀ (fuel : Nat) (listed : Array Bool) (q : Nat) (ga1 na1 ca1 gb1 nb1 cb1 : Nat) (y : World), fuel = 7 → listed = #[true, true, true, true, true, true, true, true, true, true, true, true, true, false, true, true, true, true, true, true, false, false, true, false, false, false, false] → Below W.heap.size W y → WB y q → W.heap.size ≤ q → Nv y (.slice (some ⟨ga1, 0, none⟩) na1 ca1) 0 XA 974 1 1176 → Nv y (.slice (some ⟨gb1, 0, none⟩) nb1 cb1) 0 YA 974 1 1176 → wpAnyH Tryz.prog .any circOps Q (fun w' : World => (w'.cell? ⟨G, 0, none⟩ = some (.float .f64 ax) ∧ w'.cell? ⟨G, 1, none⟩ = some (.float .f64 ay) ∧ w'.cell? ⟨G, 2, none⟩ = some (.float .f64 bx) ∧ w'.cell? ⟨G, 3, none⟩ = some (.float .f64 by') ∧ w'.cell? ⟨G, 4, none⟩ = some (.float .f64 cx) ∧ w'.cell? ⟨G, 5, none⟩ = some (.float .f64 cy) ∧ w'.cell? ⟨G, 6, none⟩ = some (.float .f64 dx) ∧ w'.cell? ⟨G, 7, none⟩ = some (.float .f64 dy))) fuel listed { tmps := #[x0, x1, x2, x3, x4, x5, x6, x7, x8, x9, .slice (some ⟨G, 0, none⟩) 4 4, x11, undef, .pointer (some ⟨q, 0, none⟩), undef, x15, x16, x17, x18, x19, x20, x21, x22, x23, x24, x25, x26, .slice (some ⟨G, 0, none⟩) 4 4, .pointer (some ⟨G, 6, none⟩), .agg #[.float .f64 dx, .float .f64 dy], .slice (some ⟨G, 0, none⟩) 4 4, .pointer (some ⟨G, 0, none⟩), .agg #[.float .f64 ax, .float .f64 ay], .agg #[.slice (some ⟨ga1, 0, none⟩) na1 ca1, .slice (some ⟨gb1, 0, none⟩) nb1 cb1], .slice (some ⟨G, 0, none⟩) 4 4, .pointer (some ⟨G, 6, none⟩), .agg #[.float .f64 dx, .float .f64 dy], .slice (some ⟨G, 0, none⟩) 4 4, .pointer (some ⟨G, 2, none⟩), .agg #[.float .f64 bx, .float .f64 by'], undef, .slice (some ⟨G, 0, none⟩) 4 4, .pointer (some ⟨G, 6, none⟩), .agg #[.float .f64 dx, .float .f64 dy], .slice (some ⟨G, 0, none⟩) 4 4, .pointer (some ⟨G, 4, none⟩), .agg #[.float .f64 cx, .float .f64 cy], undef, undef, undef, undef, undef, undef, undef, undef, undef, undef, undef, undef, undef, undef, undef, undef, undef, undef, undef, undef, undef, undef], defers := [] } y) := by
    intro fuel listed q ga1 na1 ca1 gb1 nb1 cb1 y hfu hli hB hq lq u1 v1
    subst hfu hli
    unfold circOps
    have hHeld := KS y hB
    refine wpAnyH_ready (rs := [13, 21, 23]) (by kernel_rfl) (by simp) ?_
    refine AllReadyH.cons (o := { dst := some 40, op := Op.call { callee := Callee.value (Operand.func 38), args := #[Operand.tmp 36, Operand.tmp 39], argTypes := #[76, 76] }, type := 81, pos := "plumbline.go:34", after := #[{ on := 9, ground := Ground.data }, { on := 12, ground := Ground.data }, { on := 6, ground := Ground.chain }], guard := none }) rfl (fun K hK => ?_) ?_
    · go_simp
      (go_at_call 38; refine (HB.out _).mono ?_; rintro e y1 ⟨z1, z2, rfl, hz1, hz2, hb1⟩)
      obtain ⟨ga2, na2, ca2, he1⟩ := hz1.form
      subst he1
      obtain ⟨gb2, nb2, cb2, he2⟩ := hz2.form
      subst he2
      have hB1 : Below W.heap.size W y1 := below_step hb1 hB
      (try go_wp2_with fail)
      refine hK.out _ _ (KS y1 hB1) (fun _ => ?_)
      clear hK K
      (try simp only [List.setIfInBounds_toArray, List.set_cons_zero, List.set_cons_succ])
      exact T2q.out _ _ q ga1 na1 ca1 gb1 nb1 cb1 ga2 na2 ca2 gb2 nb2 cb2 y1 rfl (by kernel_rfl) hB1 (hq.kept hb1) lq (u1.kept hb1) (v1.kept hb1) hz1 hz2
    refine AllReadyH.cons (o := { dst := some 12, op := Op.alloc 81, type := 0, pos := "plumbline.go:34", after := #[], guard := none }) rfl (fun K hK => ?_) ?_
    · go_simp
      refine hK.out _ _ (KS _ (below_alloc _ hB)) (fun _ => ?_)
      clear hK K
      (try simp only [List.setIfInBounds_toArray, List.set_cons_zero, List.set_cons_succ])
      exact T1pq.out _ _ y.heap.size q ga1 na1 ca1 gb1 nb1 cb1 _ rfl (by kernel_rfl) (below_alloc _ hB) (WB.new rfl) hB.size (hq.kept ((Below.refl _ y).alloc (Nat.le_refl _) _)) lq (Nat.ne_of_gt hq.lt) (u1.kept ((Below.refl _ y).alloc (Nat.le_refl _) _)) (v1.kept ((Below.refl _ y).alloc (Nat.le_refl _) _))
    refine AllReadyH.cons (o := { dst := some 14, op := Op.alloc 81, type := 0, pos := "plumbline.go:34", after := #[], guard := none }) rfl (fun K hK => ?_) ?_
    · go_simp
      refine hK.out _ _ (KS _ (below_alloc _ hB)) (fun _ => ?_)
      clear hK K
      (try simp only [List.setIfInBounds_toArray, List.set_cons_zero, List.set_cons_succ])
      exact T1qr.out _ _ q y.heap.size ga1 na1 ca1 gb1 nb1 cb1 _ rfl (by kernel_rfl) (below_alloc _ hB) (hq.kept ((Below.refl _ y).alloc (Nat.le_refl _) _)) lq (WB.new rfl) hB.size (Nat.ne_of_lt hq.lt) (u1.kept ((Below.refl _ y).alloc (Nat.le_refl _) _)) (v1.kept ((Below.refl _ y).alloc (Nat.le_refl _) _))
    exact AllReadyH.nil
  have T1r : Hid (∀ (fuel : Nat) (listed : Array Bool) (r : Nat) (ga1 na1 ca1 gb1 nb1 cb1 : Nat) (y : World), fuel = 7 → listed = #[true, true, true, true, true, true, true, true, true, true, true, true, true, false, true, true, true, true, true, true, false, false, false, true, false, false, false] → Below W.heap.size W y → WB y r → W.heap.size ≤ r → Nv y (.slice (some ⟨ga1, 0, none⟩) na1 ca1) 0 XA 974 1 1176 → Nv y (.slice (some ⟨gb1, 0, none⟩) nb1 cb1) 0 YA 974 1 1176 → wpAnyH Tryz.prog .any circOps Q (fun w' : World => (w'.cell? ⟨G, 0, none⟩ = some (.float .f64 ax) ∧ w'.cell? ⟨G, 1, none⟩ = some (.float .f64 ay) ∧ w'.cell? ⟨G, 2, none⟩ = some (.float .f64 bx) ∧ w'.cell? ⟨G, 3, none⟩ = some (.float .f64 by') ∧ w'.cell? ⟨G, 4, none⟩ = some (.float .f64 cx) ∧ w'.cell? ⟨G, 5, none⟩ = some (.float .f64 cy) ∧ w'.cell? ⟨G, 6, none⟩ = some (.float .f64 dx) ∧ w'.cell? ⟨G, 7, none⟩ = some (.float .f64 dy))) fuel listed { tmps := #[x0, x1, x2, x3, x4, x5, x6, x7, x8, x9, .slice (some ⟨G, 0, none⟩) 4 4, x11, undef, undef, .pointer (some ⟨r, 0, none⟩), x15, x16, x17, x18, x19, x20, x21, x22, x23, x24, x25, x26, .slice (some ⟨G, 0, none⟩) 4 4, .pointer (some ⟨G, 6, none⟩), .agg #[.float .f64 dx, .float .f64 dy], .slice (some ⟨G, 0, none⟩) 4 4, .pointer (some ⟨G, 0, none⟩), .agg #[.float .f64 ax, .float .f64 ay], .agg #[.slice (some ⟨ga1, 0, none⟩) na1 ca1, .slice (some ⟨gb1, 0, none⟩) nb1 cb1], .slice (some ⟨G, 0, none⟩) 4 4, .pointer (some ⟨G, 6, none⟩), .agg #[.float .f64 dx, .float .f64 dy], .slice (some ⟨G, 0, none⟩) 4 4, .pointer (some ⟨G, 2, none⟩), .agg #[.float .f64 bx, .float .f64 by'], undef, .slice (some ⟨G, 0, none⟩) 4 4, .pointer (some ⟨G, 6, none⟩), .agg #[.float .f64 dx, .float .f64 dy], .slice (some ⟨G, 0, none⟩) 4 4, .pointer (some ⟨G, 4, none⟩), .agg #[.float .f64 cx, .float .f64 cy], undef, undef, undef, undef, undef, undef, undef, undef, undef, undef, undef, undef, undef, undef, undef, undef, undef, undef, undef, undef, undef, undef], defers := [] } y) := by
    intro fuel listed r ga1 na1 ca1 gb1 nb1 cb1 y hfu hli hB hr lr u1 v1
    subst hfu hli
    unfold circOps
    have hHeld := KS y hB
    refine wpAnyH_ready (rs := [13, 21, 22]) (by kernel_rfl) (by simp) ?_
    refine AllReadyH.cons (o := { dst := some 40, op := Op.call { callee := Callee.value (Operand.func 38), args := #[Operand.tmp 36, Operand.tmp 39], argTypes := #[76, 76] }, type := 81, pos := "plumbline.go:34", after := #[{ on := 9, ground := Ground.data }, { on := 12, ground := Ground.data }, { on := 6, ground := Ground.chain }], guard := none }) rfl (fun K hK => ?_) ?_
    · go_simp
      (go_at_call 38; refine (HB.out _).mono ?_; rintro e y1 ⟨z1, z2, rfl, hz1, hz2, hb1⟩)
      obtain ⟨ga2, na2, ca2, he1⟩ := hz1.form
      subst he1
      obtain ⟨gb2, nb2, cb2, he2⟩ := hz2.form
      subst he2
      have hB1 : Below W.heap.size W y1 := below_step hb1 hB
      (try go_wp2_with fail)
      refine hK.out _ _ (KS y1 hB1) (fun _ => ?_)
      clear hK K
      (try simp only [List.setIfInBounds_toArray, List.set_cons_zero, List.set_cons_succ])
      exact T2r.out _ _ r ga1 na1 ca1 gb1 nb1 cb1 ga2 na2 ca2 gb2 nb2 cb2 y1 rfl (by kernel_rfl) hB1 (hr.kept hb1) lr (u1.kept hb1) (v1.kept hb1) hz1 hz2
    refine AllReadyH.cons (o := { dst := some 12, op := Op.alloc 81, type := 0, pos := "plumbline.go:34", after := #[], guard := none }) rfl (fun K hK => ?_) ?_
    · go_simp
      refine hK.out _ _ (KS _ (below_alloc _ hB)) (fun _ => ?_)
      clear hK K
      (try simp only [List.setIfInBounds_toArray, List.set_cons_zero, List.set_cons_succ])
      exact T1pr.out _ _ y.heap.size r ga1 na1 ca1 gb1 nb1 cb1 _ rfl (by kernel_rfl) (below_alloc _ hB) (WB.new rfl) hB.size (hr.kept ((Below.refl _ y).alloc (Nat.le_refl _) _)) lr (Nat.ne_of_gt hr.lt) (u1.kept ((Below.refl _ y).alloc (Nat.le_refl _) _)) (v1.kept ((Below.refl _ y).alloc (Nat.le_refl _) _))
    refine AllReadyH.cons (o := { dst := some 13, op := Op.alloc 81, type := 0, pos := "plumbline.go:34", after := #[], guard := none }) rfl (fun K hK => ?_) ?_
    · go_simp
      refine hK.out _ _ (KS _ (below_alloc _ hB)) (fun _ => ?_)
      clear hK K
      (try simp only [List.setIfInBounds_toArray, List.set_cons_zero, List.set_cons_succ])
      exact T1qr.out _ _ y.heap.size r ga1 na1 ca1 gb1 nb1 cb1 _ rfl (by kernel_rfl) (below_alloc _ hB) (WB.new rfl) hB.size (hr.kept ((Below.refl _ y).alloc (Nat.le_refl _) _)) lr (Nat.ne_of_gt hr.lt) (u1.kept ((Below.refl _ y).alloc (Nat.le_refl _) _)) (v1.kept ((Below.refl _ y).alloc (Nat.le_refl _) _))
    exact AllReadyH.nil
  have T2 : Hid (∀ (fuel : Nat) (listed : Array Bool) (ga1 na1 ca1 gb1 nb1 cb1 : Nat) (ga2 na2 ca2 gb2 nb2 cb2 : Nat) (y : World), fuel = 7 → listed = #[true, true, true, true, true, true, true, true, true, true, true, true, true, true, true, true, true, true, true, true, false, false, false, false, false, false, false] → Below W.heap.size W y → Nv y (.slice (some ⟨ga1, 0, none⟩) na1 ca1) 0 XA 974 1 1176 → Nv y (.slice (some ⟨gb1, 0, none⟩) nb1 cb1) 0 YA 974 1 1176 → Nv y (.slice (some ⟨ga2, 0, none⟩) na2 ca2) 0 XB 974 1 1176 → Nv y (.slice (some ⟨gb2, 0, none⟩) nb2 cb2) 0 YB 974 1 1176 → wpAnyH Tryz.prog .any circOps Q (fun w' : World => (w'.cell? ⟨G, 0, none⟩ = some (.float .f64 ax) ∧ w'.cell? ⟨G, 1, none⟩ = some (.float .f64 ay) ∧ w'.cell? ⟨G, 2, none⟩ = some (.float .f64 bx) ∧ w'.cell? ⟨G, 3, none⟩ = some (.float .f64 by') ∧ w'.cell? ⟨G, 4, none⟩ = some (.float .f64 cx) ∧ w'.cell? ⟨G, 5, none⟩ = some (.float .f64 cy) ∧ w'.cell? ⟨G, 6, none⟩ = some (.float .f64 dx) ∧ w'.cell? ⟨G, 7, none⟩ = some (.float .f64 dy))) fuel listed { tmps := #[x0, x1, x2, x3, x4, x5, x6, x7, x8, x9, .slice (some ⟨G, 0, none⟩) 4 4, x11, undef, undef, undef, x15, x16, x17, x18, x19, x20, x21, x22, x23, x24, x25, x26, .slice (some ⟨G, 0, none⟩) 4 4, .pointer (some ⟨G, 6, none⟩), .agg #[.float .f64 dx, .float .f64 dy], .slice (some ⟨G, 0, none⟩) 4 4, .pointer (some ⟨G, 0, none⟩), .agg #[.float .f64 ax, .float .f64 ay], .agg #[.slice (some ⟨ga1, 0, none⟩) na1 ca1, .slice (some ⟨gb1, 0, none⟩) nb1 cb1], .slice (some ⟨G, 0, none⟩) 4 4, .pointer (some ⟨G, 6, none⟩), .agg #[.float .f64 dx, .float .f64 dy], .slice (some ⟨G, 0, none⟩) 4 4, .pointer (some ⟨G, 2, none⟩), .agg #[.float .f64 bx, .float .f64 by'], .agg #[.slice (some ⟨ga2, 0, none⟩) na2 ca2, .slice (some ⟨gb2, 0, none⟩) nb2 cb2], .slice (some ⟨G, 0, none⟩) 4 4, .pointer (some ⟨G, 6, none⟩), .agg #[.float .f64 dx, .float .f64 dy], .slice (some ⟨G, 0, none⟩) 4 4, .pointer (some ⟨G, 4, none⟩), .agg #[.float .f64 cx, .float .f64 cy], undef, undef, undef, undef, undef, undef, undef, undef, undef, undef, undef, undef, undef, undef, undef, undef, undef, undef, undef, undef, undef, undef], defers := [] } y) := by
    intro fuel listed ga1 na1 ca1 gb1 nb1 cb1 ga2 na2 ca2 gb2 nb2 cb2 y hfu hli hB u1 v1 u2 v2
    subst hfu hli
    unfold circOps
    have hHeld := KS y hB
    refine wpAnyH_ready (rs := [20, 21, 22, 23]) (by kernel_rfl) (by simp) ?_
    refine AllReadyH.cons (o := { dst := some 47, op := Op.call { callee := Callee.value (Operand.func 38), args := #[Operand.tmp 43, Operand.tmp 46], argTypes := #[76, 76] }, type := 81, pos := "plumbline.go:34", after := #[{ on := 16, ground := Ground.data }, { on := 19, ground := Ground.data }, { on := 13, ground := Ground.chain }], guard := none }) rfl (fun K hK => ?_) ?_
    · go_simp
      (go_at_call 38; refine (HC.out _).mono ?_; rintro e y1 ⟨z1, z2, rfl, hz1, hz2, hb1⟩)
      obtain ⟨ga3, na3, ca3, he1⟩ := hz1.form
      subst he1
      obtain ⟨gb3, nb3, cb3, he2⟩ := hz2.form
      subst he2
      have hB1 : Below W.heap.size W y1 := below_step hb1 hB
      (try go_wp2_with fail)
      refine hK.out _ _ (KS y1 hB1) (fun _ => ?_)
      clear hK K
      (try simp only [List.setIfInBounds_toArray, List.set_cons_zero, List.set_cons_succ])
      exact T3.out _ _ ga1 na1 ca1 gb1 nb1 cb1 ga2 na2 ca2 gb2 nb2 cb2 ga3 na3 ca3 gb3 nb3 cb3 y1 rfl (by kernel_rfl) hB1 (u1.kept hb1) (v1.kept hb1) (u2.kept hb1) (v2.kept hb1) hz1 hz2
    refine AllReadyH.cons (o := { dst := some 12, op := Op.alloc 81, type := 0, pos := "plumbline.go:34", after := #[], guard := none }) rfl (fun K hK => ?_) ?_
    · go_simp
      refine hK.out _ _ (KS _ (below_alloc _ hB)) (fun _ => ?_)
      clear hK K
      (try simp only [List.setIfInBounds_toArray, List.set_cons_zero, List.set_cons_succ])
      exact T2p.out _ _ y.heap.size ga1 na1 ca1 gb1 nb1 cb1 ga2 na2 ca2 gb2 nb2 cb2 _ rfl (by kernel_rfl) (below_alloc _ hB) (WB.new rfl) hB.size (u1.kept ((Below.refl _ y).alloc (Nat.le_refl _) _)) (v1.kept ((Below.refl _ y).alloc (Nat.le_refl _) _)) (u2.kept ((Below.refl _ y).alloc (Nat.le_refl _) _)) (v2.kept ((Below.refl _ y).alloc (Nat.le_refl _) _))
    refine AllReadyH.cons (o := { dst := some 13, op := Op.alloc 81, type := 0, pos := "plumbline.go:34", after := #[], guard := none }) rfl (fun K hK => ?_) ?_
    · go_simp
      refine hK.out _ _ (KS _ (below_alloc _ hB)) (fun _ => ?_)
      clear hK K
      (try simp only [List.setIfInBounds_toArray, List.set_cons_zero, List.set_cons_succ])
      exact T2q.out _ _ y.heap.size ga1 na1 ca1 gb1 nb1 cb1 ga2 na2 ca2 gb2 nb2 cb2 _ rfl (by kernel_rfl) (below_alloc _ hB) (WB.new rfl) hB.size (u1.kept ((Below.refl _ y).alloc (Nat.le_refl _) _)) (v1.kept ((Below.refl _ y).alloc (Nat.le_refl _) _)) (u2.kept ((Below.refl _ y).alloc (Nat.le_refl _) _)) (v2.kept ((Below.refl _ y).alloc (Nat.le_refl _) _))
    refine AllReadyH.cons (o := { dst := some 14, op := Op.alloc 81, type := 0, pos := "plumbline.go:34", after := #[], guard := none }) rfl (fun K hK => ?_) ?_
    · go_simp
      refine hK.out _ _ (KS _ (below_alloc _ hB)) (fun _ => ?_)
      clear hK K
      (try simp only [List.setIfInBounds_toArray, List.set_cons_zero, List.set_cons_succ])
      exact T2r.out _ _ y.heap.size ga1 na1 ca1 gb1 nb1 cb1 ga2 na2 ca2 gb2 nb2 cb2 _ rfl (by kernel_rfl) (below_alloc _ hB) (WB.new rfl) hB.size (u1.kept ((Below.refl _ y).alloc (Nat.le_refl _) _)) (v1.kept ((Below.refl _ y).alloc (Nat.le_refl _) _)) (u2.kept ((Below.refl _ y).alloc (Nat.le_refl _) _)) (v2.kept ((Below.refl _ y).alloc (Nat.le_refl _) _))
    exact AllReadyH.nil
  clear T0pqr T1pq T1pr T1qr T2p T2q T2r T3
  have T0p : Hid (∀ (fuel : Nat) (listed : Array Bool) (p : Nat) (y : World), fuel = 8 → listed = #[true, true, true, true, true, true, false, true, true, true, true, true, true, false, true, true, true, true, true, true, false, true, false, false, false, false, false] → Below W.heap.size W y → WB y p → W.heap.size ≤ p → wpAnyH Tryz.prog .any circOps Q (fun w' : World => (w'.cell? ⟨G, 0, none⟩ = some (.float .f64 ax) ∧ w'.cell? ⟨G, 1, none⟩ = some (.float .f64 ay) ∧ w'.cell? ⟨G, 2, none⟩ = some (.float .f64 bx) ∧ w'.cell? ⟨G, 3, none⟩ = some (.float .f64 by') ∧ w'.cell? ⟨G, 4, none⟩ = some (.float .f64 cx) ∧ w'.cell? ⟨G, 5, none⟩ = some (.float .f64 cy) ∧ w'.cell? ⟨G, 6, none⟩ = some (.float .f64 dx) ∧ w'.cell? ⟨G, 7, none⟩ = some (.float .f64 dy))) fuel listed { tmps := #[x0, x1, x2, x3, x4, x5, x6, x7, x8, x9, .slice (some ⟨G, 0, none⟩) 4 4, x11, .pointer (some ⟨p, 0, none⟩), undef, undef, x15, x16, x17, x18, x19, x20, x21, x22, x23, x24, x25, x26, .slice (some ⟨G, 0, none⟩) 4 4, .pointer (some ⟨G, 6, none⟩), .agg #[.float .f64 dx, .float .f64 dy], .slice (some ⟨G, 0, none⟩) 4 4, .pointer (some ⟨G, 0, none⟩), .agg #[.float .f64 ax, .float .f64 ay], undef, .slice (some ⟨G, 0, none⟩) 4 4, .pointer (some ⟨G, 6, none⟩), .agg #[.float .f64 dx, .float .f64 dy], .slice (some ⟨G, 0, none⟩) 4 4, .pointer (some ⟨G, 2, none⟩), .agg #[.float .f64 bx, .float .f64 by'], undef, .slice (some ⟨G, 0, none⟩) 4 4, .pointer (some ⟨G, 6, none⟩), .agg #[.float .f64 dx, .float .f64 dy], .slice (some ⟨G, 0, none⟩) 4 4, .pointer (some ⟨G, 4, none⟩), .agg #[.float .f64 cx, .float .f64 cy], undef, undef, undef, undef, undef, undef, undef, undef, undef, undef, undef, undef, undef, undef, undef, undef, undef, undef, undef, undef, undef, undef], defers := [] } y) := by
    intro fuel listed p y hfu hli hB hp lp
    subst hfu hli
    unfold circOps
    have hHeld := KS y hB
    refine wpAnyH_ready (rs := [6, 22, 23]) (by kernel_rfl) (by simp) ?_
    refine AllReadyH.cons (o := { dst := some 33, op := Op.call { callee := Callee.value (Operand.func 38), args := #[Operand.tmp 29, Operand.tmp 32], argTypes := #[76, 76] }, type := 81, pos := "plumbline.go:34", after := #[{ on := 2, ground := Ground.data }, { on := 5, ground := Ground.data }], guard := none }) rfl (fun K hK => ?_) ?_
    · go_simp
      (go_at_call 38; refine (HA.out _).mono ?_; rintro e y1 ⟨z1, z2, rfl, hz1, hz2, hb1⟩)
      obtain ⟨ga1, na1, ca1, he1⟩ := hz1.form
      subst he1
      obtain ⟨gb1, nb1, cb1, he2⟩ := hz2.form
      subst he2
      have hB1 : Below W.heap.size W y1 := below_step hb1 hB
      (try go_wp2_with fail)
      refine hK.out _ _ (KS y1 hB1) (fun _ => ?_)
      clear hK K
      (try simp only [List.setIfInBounds_toArray, List.set_cons_zero, List.set_cons_succ])
      exact T1p.out _ _ p ga1 na1 ca1 gb1 nb1 cb1 y1 rfl (by kernel_rfl) hB1 (hp.kept hb1) lp hz1 hz2
    refine AllReadyH.cons (o := { dst := some 13, op := Op.alloc 81, type := 0, pos := "plumbline.go:34", after := #[], guard := none }) rfl (fun K hK => ?_) ?_
    · go_simp
      refine hK.out _ _ (KS _ (below_alloc _ hB)) (fun _ => ?_)
      clear hK K
      (try simp only [List.setIfInBounds_toArray, List.set_cons_zero, List.set_cons_succ])
      exact T0pq.out _ _ p y.heap.size _ rfl (by kernel_rfl) (below_alloc _ hB) (hp.kept ((Below.refl _ y).alloc (Nat.le_refl _) _)) lp (WB.new rfl) hB.size (Nat.ne_of_lt hp.lt)
    refine AllReadyH.cons (o := { dst := some 14, op := Op.alloc 81, type := 0, pos := "plumbline.go:34", after := #[], guard := none }) rfl (fun K hK => ?_) ?_
    · go_simp
      refine hK.out _ _ (KS _ (below_alloc _ hB)) (fun _ => ?_)
      clear hK K
      (try simp only [List.setIfInBounds_toArray, List.set_cons_zero, List.set_cons_succ])
      exact T0pr.out _ _ p y.heap.size _ rfl (by kernel_rfl) (below_alloc _ hB) (hp.kept ((Below.refl _ y).alloc (Nat.le_refl _) _)) lp (WB.new rfl) hB.size (Nat.ne_of_lt hp.lt)
    exact AllReadyH.nil
  have T0q : Hid (∀ (fuel : Nat) (listed : Array Bool) (q : Nat) (y : World), fuel = 8 → listed = #[true, true, true, true, true, true, false, true, true, true, true, true, true, false, true, true, true, true, true, true, false, false, true, false, false, false, false] → Below W.heap.size W y → WB y q → W.heap.size ≤ q → wpAnyH Tryz.prog .any circOps Q (fun w' : World => (w'.cell? ⟨G, 0, none⟩ = some (.float .f64 ax) ∧ w'.cell? ⟨G, 1, none⟩ = some (.float .f64 ay) ∧ w'.cell? ⟨G, 2, none⟩ = some (.float .f64 bx) ∧ w'.cell? ⟨G, 3, none⟩ = some (.float .f64 by') ∧ w'.cell? ⟨G, 4, none⟩ = some (.float .f64 cx) ∧ w'.cell? ⟨G, 5, none⟩ = some (.float .f64 cy) ∧ w'.cell? ⟨G, 6, none⟩ = some (.float .f64 dx) ∧ w'.cell? ⟨G, 7, none⟩ = some (.float .f64 dy))) fuel listed { tmps := #[x0, x1, x2, x3, x4, x5, x6, x7, x8, x9, .slice (some ⟨G, 0, none⟩) 4 4, x11, undef, .pointer (some ⟨q, 0, none⟩), undef, x15, x16, x17, x18, x19, x20, x21, x22, x23, x24, x25, x26, .slice (some ⟨G, 0, none⟩) 4 4, .pointer (some ⟨G, 6, none⟩), .agg #[.float .f64 dx, .float .f64 dy], .slice (some ⟨G, 0, none⟩) 4 4, .pointer (some ⟨G, 0, none⟩), .agg #[.float .f64 ax, .float .f64 ay], undef, .slice (some ⟨G, 0, none⟩) 4 4, .pointer (some ⟨G, 6, none⟩), .agg #[.float .f64 dx, .float .f64 dy], .slice (some ⟨G, 0, none⟩) 4 4, .pointer (some ⟨G, 2, none⟩), .agg #[.float .f64 bx, .float .f64 by'], undef, .slice (some ⟨G, 0, none⟩) 4 4, .pointer (some ⟨G, 6, none⟩), .agg #[.float .f64 dx, .float .f64 dy], .slice (some ⟨G, 0, none⟩) 4 4, .pointer (some ⟨G, 4, none⟩), .agg #[.float .f64 cx, .float .f64 cy], undef, undef, undef, undef, undef, undef, undef, undef, undef, undef, undef, undef, undef, undef, undef, undef, undef, undef, undef, undef, undef, undef], defers := [] } y) := by
    intro fuel listed q y hfu hli hB hq lq
    subst hfu hli
    unfold circOps
    have hHeld := KS y hB
    refine wpAnyH_ready (rs := [6, 21, 23]) (by kernel_rfl) (by simp) ?_
    refine AllReadyH.cons (o := { dst := some 33, op := Op.call { callee := Callee.value (Operand.func 38), args := #[Operand.tmp 29, Operand.tmp 32], argTypes := #[76, 76] }, type := 81, pos := "plumbline.go:34", after := #[{ on := 2, ground := Ground.data }, { on := 5, ground := Ground.data }], guard := none }) rfl (fun K hK => ?_) ?_
    · go_simp
      (go_at_call 38; refine (HA.out _).mono ?_; rintro e y1 ⟨z1, z2, rfl, hz1, hz2, hb1⟩)
      obtain ⟨ga1, na1, ca1, he1⟩ := hz1.form
      subst he1
      obtain ⟨gb1, nb1, cb1, he2⟩ := hz2.form
      subst he2
      have hB1 : Below W.heap.size W y1 := below_step hb1 hB
      (try go_wp2_with fail)
      refine hK.out _ _ (KS y1 hB1) (fun _ => ?_)
      clear hK K
      (try simp only [List.setIfInBounds_toArray, List.set_cons_zero, List.set_cons_succ])
      exact T1q.out _ _ q ga1 na1 ca1 gb1 nb1 cb1 y1 rfl (by kernel_rfl) hB1 (hq.kept hb1) lq hz1 hz2
    refine AllReadyH.cons (o := { dst := some 12, op := Op.alloc 81, type := 0, pos := "plumbline.go:34", after := #[], guard := none }) rfl (fun K hK => ?_) ?_
    · go_simp
      refine hK.out _ _ (KS _ (below_alloc _ hB)) (fun _ => ?_)
      clear hK K
      (try simp only [List.setIfInBounds_toArray, List.set_cons_zero, List.set_cons_succ])
      exact T0pq.out _ _ y.heap.size q _ rfl (by kernel_rfl) (below_alloc _ hB) (WB.new rfl) hB.size (hq.kept ((Below.refl _ y).alloc (Nat.le_refl _) _)) lq (Nat.ne_of_gt hq.lt)
    refine AllReadyH.cons (o := { dst := some 14, op := Op.alloc 81, type := 0, pos := "plumbline.go:34", after := #[], guard := none }) rfl (fun K hK => ?_) ?_
    · go_simp
      refine hK.out _ _ (KS _ (below_alloc _ hB)) (fun _ => ?_)
      clear hK K
      (try simp only [List.setIfInBounds_toArray, List.set_cons_zero, List.set_cons_succ])
      exact T0qr.out _ _ q y.heap.size _ rfl (by kernel_rfl) (below_alloc _ hB) (hq.kept ((Below.refl _ y).alloc (Nat.le_refl _) _)) lq (WB.new rfl) hB.size (Nat.ne_of_lt hq.lt)
    exact AllReadyH.nil
  have T0r : Hid (∀ (fuel : Nat) (listed : Array Bool) (r : Nat) (y : World), fuel = 8 → listed = #[true, true, true, true, true, true, false, true, true, true, true, true, true, false, true, true, true, true, true, true, false, false, false, true, false, false, false] → Below W.heap.size W y → WB y r → W.heap.size ≤ r → wpAnyH Tryz.prog .any circOps Q (fun w' : World => (w'.cell? ⟨G, 0, none⟩ = some (.float .f64 ax) ∧ w'.cell? ⟨G, 1, none⟩ = some (.float .f64 ay) ∧ w'.cell? ⟨G, 2, none⟩ = some (.float .f64 bx) ∧ w'.cell? ⟨G, 3, none⟩ = some (.float .f64 by') ∧ w'.cell? ⟨G, 4, none⟩ = some (.float .f64 cx) ∧ w'.cell? ⟨G, 5, none⟩ = some (.float .f64 cy) ∧ w'.cell? ⟨G, 6, none⟩ = some (.float .f64 dx) ∧ w'.cell? ⟨G, 7, none⟩ = some (.float .f64 dy))) fuel listed { tmps := #[x0, x1, x2, x3, x4, x5, x6, x7, x8, x9, .slice (some ⟨G, 0, none⟩) 4 4, x11, undef, undef, .pointer (some ⟨r, 0, none⟩), x15, x16, x17, x18, x19, x20, x21, x22, x23, x24, x25, x26, .slice (some ⟨G, 0, none⟩) 4 4, .pointer (some ⟨G, 6, none⟩), .agg #[.float .f64 dx, .float .f64 dy], .slice (some ⟨G, 0, none⟩) 4 4, .pointer (some ⟨G, 0, none⟩), .agg #[.float .f64 ax, .float .f64 ay], undef, .slice (some ⟨G, 0, none⟩) 4 4, .pointer (some ⟨G, 6, none⟩), .agg #[.float .f64 dx, .float .f64 dy], .slice (some ⟨G, 0, none⟩) 4 4, .pointer (some ⟨G, 2, none⟩), .agg #[.float .f64 bx, .float .f64 by'], undef, .slice (some ⟨G, 0, none⟩) 4 4, .pointer (some ⟨G, 6, none⟩), .agg #[.float .f64 dx, .float .f64 dy], .slice (some ⟨G, 0, none⟩) 4 4, .pointer (some ⟨G, 4, none⟩), .agg #[.float .f64 cx, .float .f64 cy], undef, undef, undef, undef, undef, undef, undef, undef, undef, undef, undef, undef, undef, undef, undef, undef, undef, undef, undef, undef, undef, undef], defers := [] } y) := by
    intro fuel listed r y hfu hli hB hr lr
    subst hfu hli
    unfold circOps
    have hHeld := KS y hB
    refine wpAnyH_ready (rs := [6, 21, 22]) (by kernel_rfl) (by simp) ?_
    refine AllReadyH.cons (o := { dst := some 33, op := Op.call { callee := Callee.value (Operand.func 38), args := #[Operand.tmp 29, Operand.tmp 32], argTypes := #[76, 76] }, type := 81, pos := "plumbline.go:34", after := #[{ on := 2, ground := Ground.data }, { on := 5, ground := Ground.data }], guard := none }) rfl (fun K hK => ?_) ?_
    · go_simp
      (go_at_call 38; refine (HA.out _).mono ?_; rintro e y1 ⟨z1, z2, rfl, hz1, hz2, hb1⟩)
      obtain ⟨ga1, na1, ca1, he1⟩ := hz1.form
      subst he1
      obtain ⟨gb1, nb1, cb1, he2⟩ := hz2.form
      subst he2
      have hB1 : Below W.heap.size W y1 := below_step hb1 hB
      (try go_wp2_with fail)
      refine hK.out _ _ (KS y1 hB1) (fun _ => ?_)
      clear hK K
      (try simp only [List.setIfInBounds_toArray, List.set_cons_zero, List.set_cons_succ])
      exact T1r.out _ _ r ga1 na1 ca1 gb1 nb1 cb1 y1 rfl (by kernel_rfl) hB1 (hr.kept hb1) lr hz1 hz2
    refine AllReadyH.cons (o := { dst := some 12, op := Op.alloc 81, type := 0, pos := "plumbline.go:34", after := #[], guard := none }) rfl (fun K hK => ?_) ?_
    · go_simp
      refine hK.out _ _ (KS _ (below_alloc _ hB)) (fun _ => ?_)
      clear hK K
      (try simp only [List.setIfInBounds_toArray, List.set_cons_zero, List.set_cons_succ])
      exact T0pr.out _ _ y.heap.size r _ rfl (by kernel_rfl) (below_alloc _ hB) (WB.new rfl) hB.size (hr.kept ((Below.refl _ y).alloc (Nat.le_refl _) _)) lr (Nat.ne_of_gt hr.lt)
    refine AllReadyH.cons (o := { dst := some 13, op := Op.alloc 81, type := 0, pos := "plumbline.go:34", after := #[], guard := none }) rfl (fun K hK => ?_) ?_
    · go_simp
      refine hK.out _ _ (KS _ (below_alloc _ hB)) (fun _ => ?_)
      clear hK K
      (try simp only [List.setIfInBounds_toArray, List.set_cons_zero, List.set_cons_succ])
      exact T0qr.out _ _ y.heap.size r _ rfl (by kernel_rfl) (below_alloc _ hB) (WB.new rfl) hB.size (hr.kept ((Below.refl _ y).alloc (Nat.le_refl _) _)) lr (Nat.ne_of_gt hr.lt)
    exact AllReadyH.nil
  have T1 : Hid (∀ (fuel : Nat) (listed : Array Bool) (ga1 na1 ca1 gb1 nb1 cb1 : Nat) (y : World), fuel = 8 → listed = #[true, true, true, true, true, true, true, true, true, true, true, true, true, false, true, true, true, true, true, true, false, false, false, false, false, false, false] → Below W.heap.size W y → Nv y (.slice (some ⟨ga1, 0, none⟩) na1 ca1) 0 XA 974 1 1176 → Nv y (.slice (some ⟨gb1, 0, none⟩) nb1 cb1) 0 YA 974 1 1176 → wpAnyH Tryz.prog .any circOps Q (fun w' : World => (w'.cell? ⟨G, 0, none⟩ = some (.float .f64 ax) ∧ w'.cell? ⟨G, 1, none⟩ = some (.float .f64 ay) ∧ w'.cell? ⟨G, 2, none⟩ = some (.float .f64 bx) ∧ w'.cell? ⟨G, 3, none⟩ = some (.float .f64 by') ∧ w'.cell? ⟨G, 4, none⟩ = some (.float .f64 cx) ∧ w'.cell? ⟨G, 5, none⟩ = some (.float .f64 cy) ∧ w'.cell? ⟨G, 6, none⟩ = some (.float .f64 dx) ∧ w'.cell? ⟨G, 7, none⟩ = some (.float .f64 dy))) fuel listed { tmps := #[x0, x1, x2, x3, x4, x5, x6, x7, x8, x9, .slice (some ⟨G, 0, none⟩) 4 4, x11, undef, undef, undef, x15, x16, x17, x18, x19, x20, x21, x22, x23, x24, x25, x26, .slice (some ⟨G, 0, none⟩) 4 4, .pointer (some ⟨G, 6, none⟩), .agg #[.float .f64 dx, .float .f64 dy], .slice (some ⟨G, 0, none⟩) 4 4, .pointer (some ⟨G, 0, none⟩), .agg #[.float .f64 ax, .float .f64 ay], .agg #[.slice (some ⟨ga1, 0, none⟩) na1 ca1, .slice (some ⟨gb1, 0, none⟩) nb1 cb1], .slice (some ⟨G, 0, none⟩) 4 4, .pointer (some ⟨G, 6, none⟩), .agg #[.float .f64 dx, .float .f64 dy], .slice (some ⟨G, 0, none⟩) 4 4, .pointer (some ⟨G, 2, none⟩), .agg #[.float .f64 bx, .float .f64 by'], undef, .slice (some ⟨G, 0, none⟩) 4 4, .pointer (some ⟨G, 6, none⟩), .agg #[.float .f64 dx, .float .f64 dy], .slice (some ⟨G, 0, none⟩) 4 4, .pointer (some ⟨G, 4, none⟩), .agg #[.float .f64 cx, .float .f64 cy], undef, undef, undef, undef, undef, undef, undef, undef, undef, undef, undef, undef, undef, undef, undef, undef, undef, undef, undef, undef, undef, undef], defers := [] } y) := by
    intro fuel listed ga1 na1 ca1 gb1 nb1 cb1 y hfu hli hB u1 v1
    subst hfu hli
    unfold circOps
    have hHeld := KS y hB
    refine wpAnyH_ready (rs := [13, 21, 22, 23]) (by kernel_rfl) (by simp) ?_
    refine AllReadyH.cons (o := { dst := some 40, op := Op.call { callee := Callee.value (Operand.func 38), args := #[Operand.tmp 36, Operand.tmp 39], argTypes := #[76, 76] }, type := 81, pos := "plumbline.go:34", after := #[{ on := 9, ground := Ground.data }, { on := 12, ground := Ground.data }, { on := 6, ground := Ground.chain }], guard := none }) rfl (fun K hK => ?_) ?_
    · go_simp
      (go_at_call 38; refine (HB.out _).mono ?_; rintro e y1 ⟨z1, z2, rfl, hz1, hz2, hb1⟩)
      obtain ⟨ga2, na2, ca2, he1⟩ := hz1.form
      subst he1
      obtain ⟨gb2, nb2, cb2, he2⟩ := hz2.form
      subst he2
      have hB1 : Below W.heap.size W y1 := below_step hb1 hB
      (try go_wp2_with fail)
      refine hK.out _ _ (KS y1 hB1) (fun _ => ?_)
      clear hK K
      (try simp only [List.setIfInBounds_toArray, List.set_cons_zero, List.set_cons_succ])
      exact T2.out _ _ ga1 na1 ca1 gb1 nb1 cb1 ga2 na2 ca2 gb2 nb2 cb2 y1 rfl (by kernel_rfl) hB1 (u1.kept hb1) (v1.kept hb1) hz1 hz2
    refine AllReadyH.cons (o := { dst := some 12, op := Op.alloc 81, type := 0, pos := "plumbline.go:34", after := #[], guard := none }) rfl (fun K hK => ?_) ?_
    · go_simp
      refine hK.out _ _ (KS _ (below_alloc _ hB)) (fun _ => ?_)
      clear hK K
      (try simp only [List.setIfInBounds_toArray, List.set_cons_zero, List.set_cons_succ])
      exact T1p.out _ _ y.heap.size ga1 na1 ca1 gb1 nb1 cb1 _ rfl (by kernel_rfl) (below_alloc _ hB) (WB.new rfl) hB.size (u1.kept ((Below.refl _ y).alloc (Nat.le_refl _) _)) (v1.kept ((Below.refl _ y).alloc (Nat.le_refl _) _))
    refine AllReadyH.cons (o := { dst := some 13, op := Op.alloc 81, type := 0, pos := "plumbline.go:34", after := #[], guard := none }) rfl (fun K hK => ?_) ?_
    · go_simp
      refine hK.out _ _ (KS _ (below_alloc _ hB)) (fun _ => ?_)
      clear hK K
      (try simp only [List.setIfInBounds_toArray, List.set_cons_zero, List.set_cons_succ])
      exact T1q.out _ _ y.heap.size ga1 na1 ca1 gb1 nb1 cb1 _ rfl (by kernel_rfl) (below_alloc _ hB) (WB.new rfl) hB.size (u1.kept ((Below.refl _ y).alloc (Nat.le_refl _) _)) (v1.kept ((Below.refl _ y).alloc (Nat.le_refl _) _))
    refine AllReadyH.cons (o := { dst := some 14, op := Op.alloc 81, type := 0, pos := "plumbline.go:34", after := #[], guard := none }) rfl (fun K hK => ?_) ?_
    · go_simp
      refine hK.out _ _ (KS _ (below_alloc _ hB)) (fun _ => ?_)
      clear hK K
      (try simp only [List.setIfInBounds_toArray, List.set_cons_zero, List.set_cons_succ])
      exact T1r.out _ _ y.heap.size ga1 na1 ca1 gb1 nb1 cb1 _ rfl (by kernel_rfl) (below_alloc _ hB) (WB.new rfl) hB.size (u1.kept ((Below.refl _ y).alloc (Nat.le_refl _) _)) (v1.kept ((Below.refl _ y).alloc (Nat.le_refl _) _))
    exact AllReadyH.nil
  clear T0pq T0pr T0qr T1p T1q T1r T2
  have T0 : Hid (∀ (fuel : Nat) (listed : Array Bool) (y : World), fuel = 9 → listed = #[true, true, true, true, true, true, false, true, true, true, true, true, true, false, true, true, true, true, true, true, false, false, false, false, false, false, false] → Below W.heap.size W y → wpAnyH Tryz.prog .any circOps Q (fun w' : World => (w'.cell? ⟨G, 0, none⟩ = some (.float .f64 ax) ∧ w'.cell? ⟨G, 1, none⟩ = some (.float .f64 ay) ∧ w'.cell? ⟨G, 2, none⟩ = some (.float .f64 bx) ∧ w'.cell? ⟨G, 3, none⟩ = some (.float .f64 by') ∧ w'.cell? ⟨G, 4, none⟩ = some (.float .f64 cx) ∧ w'.cell? ⟨G, 5, none⟩ = some (.float .f64 cy) ∧ w'.cell? ⟨G, 6, none⟩ = some (.float .f64 dx) ∧ w'.cell? ⟨G, 7, none⟩ = some (.float .f64 dy))) fuel listed { tmps := #[x0, x1, x2, x3, x4, x5, x6, x7, x8, x9, .slice (some ⟨G, 0, none⟩) 4 4, x11, undef, undef, undef, x15, x16, x17, x18, x19, x20, x21, x22, x23, x24, x25, x26, .slice (some ⟨G, 0, none⟩) 4 4, .pointer (some ⟨G, 6, none⟩), .agg #[.float .f64 dx, .float .f64 dy], .slice (some ⟨G, 0, none⟩) 4 4, .pointer (some ⟨G, 0, none⟩), .agg #[.float .f64 ax, .float .f64 ay], undef, .slice (some ⟨G, 0, none⟩) 4 4, .pointer (some ⟨G, 6, none⟩), .agg #[.float .f64 dx, .float .f64 dy], .slice (some ⟨G, 0, none⟩) 4 4, .pointer (some ⟨G, 2, none⟩), .agg #[.float .f64 bx, .float .f64 by'], undef, .slice (some ⟨G, 0, none⟩) 4 4, .pointer (some ⟨G, 6, none⟩), .agg #[.float .f64 dx, .float .f64 dy], .slice (some ⟨G, 0, none⟩) 4 4, .pointer (some ⟨G, 4, none⟩), .agg #[.float .f64 cx, .float .f64 cy], undef, undef, undef, undef, undef, undef, undef, undef, undef, undef, undef, undef, undef, undef, undef, undef, undef, undef, undef, undef, undef, undef], defers := [] } y) := by
    intro fuel listed y hfu hli hB
    subst hfu hli
    unfold circOps
    have hHeld := KS y hB
    refine wpAnyH_ready (rs := [6, 21, 22, 23]) (by kernel_rfl) (by simp) ?_
    refine AllReadyH.cons (o := { dst := some 33, op := Op.call { callee := Callee.value (Operand.func 38), args := #[Operand.tmp 29, Operand.tmp 32], argTypes := #[76, 76] }, type := 81, pos := "plumbline.go:34", after := #[{ on := 2, ground := Ground.data }, { on := 5, ground := Ground.data }], guard := none }) rfl (fun K hK => ?_) ?_
    · go_simp
      (go_at_call 38; refine (HA.out _).mono ?_; rintro e y1 ⟨z1, z2, rfl, hz1, hz2, hb1⟩)
      obtain ⟨ga1, na1, ca1, he1⟩ := hz1.form
      subst he1
      obtain ⟨gb1, nb1, cb1, he2⟩ := hz2.form
      subst he2
      have hB1 : Below W.heap.size W y1 := below_step hb1 hB
      (try go_wp2_with fail)
      refine hK.out _ _ (KS y1 hB1) (fun _ => ?_)
      clear hK K
      (try simp only [List.setIfInBounds_toArray, List.set_cons_zero, List.set_cons_succ])
      exact T1.out _ _ ga1 na1 ca1 gb1 nb1 cb1 y1 rfl (by kernel_rfl) hB1 hz1 hz2
    refine AllReadyH.cons (o := { dst := some 12, op := Op.alloc 81, type := 0, pos := "plumbline.go:34", after := #[], guard := none }) rfl (fun K hK => ?_) ?_
    · go_simp
      refine hK.out _ _ (KS _ (below_alloc _ hB)) (fun _ => ?_)
      clear hK K
      (try simp only [List.setIfInBounds_toArray, List.set_cons_zero, List.set_cons_succ])
      exact T0p.out _ _ y.heap.size _ rfl (by kernel_rfl) (below_alloc _ hB) (WB.new rfl) hB.size
    refine AllReadyH.cons (o := { dst := some 13, op := Op.alloc 81, type := 0, pos := "plumbline.go:34", after := #[], guard := none }) rfl (fun K hK => ?_) ?_
    · go_simp
      refine hK.out _ _ (KS _ (below_alloc _ hB)) (fun _ => ?_)
      clear hK K
      (try simp only [List.setIfInBounds_toArray, List.set_cons_zero, List.set_cons_succ])
      exact T0q.out _ _ y.heap.size _ rfl (by kernel_rfl) (below_alloc _ hB) (WB.new rfl) hB.size
    refine AllReadyH.cons (o := { dst := some 14, op := Op.alloc 81, type := 0, pos := "plumbline.go:34", after := #[], guard := none }) rfl (fun K hK => ?_) ?_
    · go_simp
      refine hK.out _ _ (KS _ (below_alloc _ hB)) (fun _ => ?_)
      clear hK K
      (try simp only [List.setIfInBounds_toArray, List.set_cons_zero, List.set_cons_succ])
      exact T0r.out _ _ y.heap.size _ rfl (by kernel_rfl) (below_alloc _ hB) (WB.new rfl) hB.size
    exact AllReadyH.nil
  exact T0

set_option maxHeartbeats 8000000 in
set_option maxRecDepth 100000 in
theorem circ_region (G : Nat) (x0 x1 x2 x3 x4 x5 x6 x7 x8 x9 x11 x15 x16 x17 x18 x19 x20 x21 x22 x23 x24 x25 x26 : Value) (ax ay bx by' cx cy dx dy : Nat) (W : World) (Q : Exit → Act → World → Prop)
    (hQp : ∀ (d : Option Tmp) (v : Value) c (a : Act) w, Q (.panic c) (a.put d v) w → Q (.panic c) a w)
    (KS : ∀ w', Below W.heap.size W w' → (w'.cell? ⟨G, 0, none⟩ = some (.float .f64 ax) ∧ w'.cell? ⟨G, 1, none⟩ = some (.float .f64 ay) ∧ w'.cell? ⟨G, 2, none⟩ = some (.float .f64 bx) ∧ w'.cell? ⟨G, 3, none⟩ = some (.float .f64 by') ∧ w'.cell? ⟨G, 4, none⟩ = some (.float .f64 cx) ∧ w'.cell? ⟨G, 5, none⟩ = some (.float .f64 cy) ∧ w'.cell? ⟨G, 6, none⟩ = some (.float .f64 dx) ∧ w'.cell? ⟨G, 7, none⟩ = some (.float .f64 dy))) (T0 : Hid (∀ (fuel : Nat) (listed : Array Bool) (y : World), fuel = 9 → listed = #[true, true, true, true, true, true, false, true, true, true, true, true, true, false, true, true, true, true, true, true, false, false, false, false, false, false, false] → Below W.heap.size W y → wpAnyH Tryz.prog .any circOps Q (fun w' : World => (w'.cell? ⟨G, 0, none⟩ = some (.float .f64 ax) ∧ w'.cell? ⟨G, 1, none⟩ = some (.float .f64 ay) ∧ w'.cell? ⟨G, 2, none⟩ = some (.float .f64 bx) ∧ w'.cell? ⟨G, 3, none⟩ = some (.float .f64 by') ∧ w'.cell? ⟨G, 4, none⟩ = some (.float .f64 cx) ∧ w'.cell? ⟨G, 5, none⟩ = some (.float .f64 cy) ∧ w'.cell? ⟨G, 6, none⟩ = some (.float .f64 dx) ∧ w'.cell? ⟨G, 7, none⟩ = some (.float .f64 dy))) fuel listed { tmps := #[x0, x1, x2, x3, x4, x5, x6, x7, x8, x9, .slice (some ⟨G, 0, none⟩) 4 4, x11, undef, undef, undef, x15, x16, x17, x18, x19, x20, x21, x22, x23, x24, x25, x26, .slice (some ⟨G, 0, none⟩) 4 4, .pointer (some ⟨G, 6, none⟩), .agg #[.float .f64 dx, .float .f64 dy], .slice (some ⟨G, 0, none⟩) 4 4, .pointer (some ⟨G, 0, none⟩), .agg #[.float .f64 ax, .float .f64 ay], undef, .slice (some ⟨G, 0, none⟩) 4 4, .pointer (some ⟨G, 6, none⟩), .agg #[.float .f64 dx, .float .f64 dy], .slice (some ⟨G, 0, none⟩) 4 4, .pointer (some ⟨G, 2, none⟩), .agg #[.float .f64 bx, .float .f64 by'], undef, .slice (some ⟨G, 0, none⟩) 4 4, .pointer (some ⟨G, 6, none⟩), .agg #[.float .f64 dx, .float .f64 dy], .slice (some ⟨G, 0, none⟩) 4 4, .pointer (some ⟨G, 4, none⟩), .agg #[.float .f64 cx, .float .f64 cy], undef, undef, undef, undef, undef, undef, undef, undef, undef, undef, undef, undef, undef, undef, undef, undef, undef, undef, undef, undef, undef, undef], defers := [] } y)) :
    (Code.region 4 circOps true).wp Tryz.prog Q { tmps := #[x0, x1, x2, x3, x4, x5, x6, x7, x8, x9, .slice (some ⟨G, 0, none⟩) 4 4, x11, undef, undef, undef, x15, x16, x17, x18, x19, x20, x21, x22, x23, x24, x25, x26, undef, undef, undef, undef, undef, undef, undef, undef, undef, undef, undef, undef, undef, undef, undef, undef, undef, undef, undef, undef, undef, undef, undef, undef, undef, undef, undef, undef, undef, undef, undef, undef, undef, undef, undef, undef, undef, undef, undef, undef, undef, undef], defers := [] } W := by
  unfold circOps
  have hHeld := KS W.drew (Below.refl _ _).drew
  refine wp_region_held_drew (S := (fun w' : World => (w'.cell? ⟨G, 0, none⟩ = some (.float .f64 ax) ∧ w'.cell? ⟨G, 1, none⟩ = some (.float .f64 ay) ∧ w'.cell? ⟨G, 2, none⟩ = some (.float .f64 bx) ∧ w'.cell? ⟨G, 3, none⟩ = some (.float .f64 by') ∧ w'.cell? ⟨G, 4, none⟩ = some (.float .f64 cx) ∧ w'.cell? ⟨G, 5, none⟩ = some (.float .f64 cy) ∧ w'.cell? ⟨G, 6, none⟩ = some (.float .f64 dx) ∧ w'.cell? ⟨G, 7, none⟩ = some (.float .f64 dy)))) (by kernel_rfl) hHeld (fun _ => ?_)
  show wpAnyH Tryz.prog .any _ Q _ 27 #[false, false, false, false, false, false, false, false, false, false, false, false, false, false, false, false, false, false, false, false, false, false, false, false, false, false, false] _ _
  refine wpAnyH_take (i := 0) (oi := { dst := some 27, op := Op.move (Operand.tmp 10), type := 70, pos := "plumbline.go:34", after := #[], guard := none }) (v := ?_) rfl (by kernel_rfl) (by kernel_rfl) (by kernel_rfl) (hQp _ _) (Or.inl ⟨by rfl, ?_⟩) hHeld ?_
  rotate_left 1
  · (intro w hSw; (try dsimp only at hSw); go_simp; try with_reducible rfl)
  (try simp only [Act.put, List.setIfInBounds_toArray, List.set_cons_zero, List.set_cons_succ])
  refine wpAnyH_take (i := 1) (oi := { dst := some 28, op := Op.indexAddr 70 (Operand.tmp 27) (Operand.const (Value.int IntKind.i64 3)), type := 0, pos := "plumbline.go:34", after := #[{ on := 0, ground := Ground.data }], guard := none }) (v := ?_) rfl (by kernel_rfl) (by kernel_rfl) (by kernel_rfl) (hQp _ _) (Or.inl ⟨by rfl, ?_⟩) hHeld ?_
  rotate_left 1
  · (intro w hSw; (try dsimp only at hSw); go_simp; try with_reducible rfl)
  (try simp only [Act.put, List.setIfInBounds_toArray, List.set_cons_zero, List.set_cons_succ])
  refine wpAnyH_take (i := 2) (oi := { dst := some 29, op := Op.load 76 (Operand.tmp 28), type := 76, pos := "plumbline.go:34", after := #[{ on := 1, ground := Ground.data }], guard := none }) (v := ?_) rfl (by kernel_rfl) (by kernel_rfl) (by kernel_rfl) (hQp _ _) (Or.inl ⟨by rfl, ?_⟩) hHeld ?_
  rotate_left 1
  · (intro w hSw; (try dsimp only at hSw); go_simp; try with_reducible rfl)
  (try simp only [Act.put, List.setIfInBounds_toArray, List.set_cons_zero, List.set_cons_succ])
  refine wpAnyH_take (i := 3) (oi := { dst := some 30, op := Op.move (Operand.tmp 10), type := 70, pos := "plumbline.go:34", after := #[], guard := none }) (v := ?_) rfl (by kernel_rfl) (by kernel_rfl) (by kernel_rfl) (hQp _ _) (Or.inl ⟨by rfl, ?_⟩) hHeld ?_
  rotate_left 1
  · (intro w hSw; (try dsimp only at hSw); go_simp; try with_reducible rfl)
  (try simp only [Act.put, List.setIfInBounds_toArray, List.set_cons_zero, List.set_cons_succ])
  refine wpAnyH_take (i := 4) (oi := { dst := some 31, op := Op.indexAddr 70 (Operand.tmp 30) (Operand.const (Value.int IntKind.i64 0)), type := 0, pos := "plumbline.go:34", after := #[{ on := 3, ground := Ground.data }], guard := none }) (v := ?_) rfl (by kernel_rfl) (by kernel_rfl) (by kernel_rfl) (hQp _ _) (Or.inl ⟨by rfl, ?_⟩) hHeld ?_
  rotate_left 1
  · (intro w hSw; (try dsimp only at hSw); go_simp; try with_reducible rfl)
  (try simp only [Act.put, List.setIfInBounds_toArray, List.set_cons_zero, List.set_cons_succ])
  refine wpAnyH_take (i := 5) (oi := { dst := some 32, op := Op.load 76 (Operand.tmp 31), type := 76, pos := "plumbline.go:34", after := #[{ on := 4, ground := Ground.data }], guard := none }) (v := ?_) rfl (by kernel_rfl) (by kernel_rfl) (by kernel_rfl) (hQp _ _) (Or.inl ⟨by rfl, ?_⟩) hHeld ?_
  rotate_left 1
  · (intro w hSw; (try dsimp only at hSw); go_simp; try with_reducible rfl)
  (try simp only [Act.put, List.setIfInBounds_toArray, List.set_cons_zero, List.set_cons_succ])
  refine wpAnyH_take (i := 7) (oi := { dst := some 34, op := Op.move (Operand.tmp 10), type := 70, pos := "plumbline.go:34", after := #[], guard := none }) (v := ?_) rfl (by kernel_rfl) (by kernel_rfl) (by kernel_rfl) (hQp _ _) (Or.inl ⟨by rfl, ?_⟩) hHeld ?_
  rotate_left 1
  · (intro w hSw; (try dsimp only at hSw); go_simp; try with_reducible rfl)
  (try simp only [Act.put, List.setIfInBounds_toArray, List.set_cons_zero, List.set_cons_succ])
  refine wpAnyH_take (i := 8) (oi := { dst := some 35, op := Op.indexAddr 70 (Operand.tmp 34) (Operand.const (Value.int IntKind.i64 3)), type := 0, pos := "plumbline.go:34", after := #[{ on := 7, ground := Ground.data }], guard := none }) (v := ?_) rfl (by kernel_rfl) (by kernel_rfl) (by kernel_rfl) (hQp _ _) (Or.inl ⟨by rfl, ?_⟩) hHeld ?_
  rotate_left 1
  · (intro w hSw; (try dsimp only at hSw); go_simp; try with_reducible rfl)
  (try simp only [Act.put, List.setIfInBounds_toArray, List.set_cons_zero, List.set_cons_succ])
  refine wpAnyH_take (i := 9) (oi := { dst := some 36, op := Op.load 76 (Operand.tmp 35), type := 76, pos := "plumbline.go:34", after := #[{ on := 8, ground := Ground.data }], guard := none }) (v := ?_) rfl (by kernel_rfl) (by kernel_rfl) (by kernel_rfl) (hQp _ _) (Or.inl ⟨by rfl, ?_⟩) hHeld ?_
  rotate_left 1
  · (intro w hSw; (try dsimp only at hSw); go_simp; try with_reducible rfl)
  (try simp only [Act.put, List.setIfInBounds_toArray, List.set_cons_zero, List.set_cons_succ])
  refine wpAnyH_take (i := 10) (oi := { dst := some 37, op := Op.move (Operand.tmp 10), type := 70, pos := "plumbline.go:34", after := #[], guard := none }) (v := ?_) rfl (by kernel_rfl) (by kernel_rfl) (by kernel_rfl) (hQp _ _) (Or.inl ⟨by rfl, ?_⟩) hHeld ?_
  rotate_left 1
  · (intro w hSw; (try dsimp only at hSw); go_simp; try with_reducible rfl)
  (try simp only [Act.put, List.setIfInBounds_toArray, List.set_cons_zero, List.set_cons_succ])
  refine wpAnyH_take (i := 11) (oi := { dst := some 38, op := Op.indexAddr 70 (Operand.tmp 37) (Operand.const (Value.int IntKind.i64 1)), type := 0, pos := "plumbline.go:34", after := #[{ on := 10, ground := Ground.data }], guard := none }) (v := ?_) rfl (by kernel_rfl) (by kernel_rfl) (by kernel_rfl) (hQp _ _) (Or.inl ⟨by rfl, ?_⟩) hHeld ?_
  rotate_left 1
  · (intro w hSw; (try dsimp only at hSw); go_simp; try with_reducible rfl)
  (try simp only [Act.put, List.setIfInBounds_toArray, List.set_cons_zero, List.set_cons_succ])
  refine wpAnyH_take (i := 12) (oi := { dst := some 39, op := Op.load 76 (Operand.tmp 38), type := 76, pos := "plumbline.go:34", after := #[{ on := 11, ground := Ground.data }], guard := none }) (v := ?_) rfl (by kernel_rfl) (by kernel_rfl) (by kernel_rfl) (hQp _ _) (Or.inl ⟨by rfl, ?_⟩) hHeld ?_
  rotate_left 1
  · (intro w hSw; (try dsimp only at hSw); go_simp; try with_reducible rfl)
  (try simp only [Act.put, List.setIfInBounds_toArray, List.set_cons_zero, List.set_cons_succ])
  refine wpAnyH_take (i := 14) (oi := { dst := some 41, op := Op.move (Operand.tmp 10), type := 70, pos := "plumbline.go:34", after := #[], guard := none }) (v := ?_) rfl (by kernel_rfl) (by kernel_rfl) (by kernel_rfl) (hQp _ _) (Or.inl ⟨by rfl, ?_⟩) hHeld ?_
  rotate_left 1
  · (intro w hSw; (try dsimp only at hSw); go_simp; try with_reducible rfl)
  (try simp only [Act.put, List.setIfInBounds_toArray, List.set_cons_zero, List.set_cons_succ])
  refine wpAnyH_take (i := 15) (oi := { dst := some 42, op := Op.indexAddr 70 (Operand.tmp 41) (Operand.const (Value.int IntKind.i64 3)), type := 0, pos := "plumbline.go:34", after := #[{ on := 14, ground := Ground.data }], guard := none }) (v := ?_) rfl (by kernel_rfl) (by kernel_rfl) (by kernel_rfl) (hQp _ _) (Or.inl ⟨by rfl, ?_⟩) hHeld ?_
  rotate_left 1
  · (intro w hSw; (try dsimp only at hSw); go_simp; try with_reducible rfl)
  (try simp only [Act.put, List.setIfInBounds_toArray, List.set_cons_zero, List.set_cons_succ])
  refine wpAnyH_take (i := 16) (oi := { dst := some 43, op := Op.load 76 (Operand.tmp 42), type := 76, pos := "plumbline.go:34", after := #[{ on := 15, ground := Ground.data }], guard := none }) (v := ?_) rfl (by kernel_rfl) (by kernel_rfl) (by kernel_rfl) (hQp _ _) (Or.inl ⟨by rfl, ?_⟩) hHeld ?_
  rotate_left 1
  · (intro w hSw; (try dsimp only at hSw); go_simp; try with_reducible rfl)
  (try simp only [Act.put, List.setIfInBounds_toArray, List.set_cons_zero, List.set_cons_succ])
  refine wpAnyH_take (i := 17) (oi := { dst := some 44, op := Op.move (Operand.tmp 10), type := 70, pos := "plumbline.go:34", after := #[], guard := none }) (v := ?_) rfl (by kernel_rfl) (by kernel_rfl) (by kernel_rfl) (hQp _ _) (Or.inl ⟨by rfl, ?_⟩) hHeld ?_
  rotate_left 1
  · (intro w hSw; (try dsimp only at hSw); go_simp; try with_reducible rfl)
  (try simp only [Act.put, List.setIfInBounds_toArray, List.set_cons_zero, List.set_cons_succ])
  refine wpAnyH_take (i := 18) (oi := { dst := some 45, op := Op.indexAddr 70 (Operand.tmp 44) (Operand.const (Value.int IntKind.i64 2)), type := 0, pos := "plumbline.go:34", after := #[{ on := 17, ground := Ground.data }], guard := none }) (v := ?_) rfl (by kernel_rfl) (by kernel_rfl) (by kernel_rfl) (hQp _ _) (Or.inl ⟨by rfl, ?_⟩) hHeld ?_
  rotate_left 1
  · (intro w hSw; (try dsimp only at hSw); go_simp; try with_reducible rfl)
  (try simp only [Act.put, List.setIfInBounds_toArray, List.set_cons_zero, List.set_cons_succ])
  refine wpAnyH_take (i := 19) (oi := { dst := some 46, op := Op.load 76 (Operand.tmp 45), type := 76, pos := "plumbline.go:34", after := #[{ on := 18, ground := Ground.data }], guard := none }) (v := ?_) rfl (by kernel_rfl) (by kernel_rfl) (by kernel_rfl) (hQp _ _) (Or.inl ⟨by rfl, ?_⟩) hHeld ?_
  rotate_left 1
  · (intro w hSw; (try dsimp only at hSw); go_simp; try with_reducible rfl)
  (try simp only [Act.put, List.setIfInBounds_toArray, List.set_cons_zero, List.set_cons_succ])
  refine T0.out _ _ _ ?_ ?_ ?_
  · kernel_rfl
  · kernel_rfl
  · exact (Below.refl _ _).drew

end Go.Proofs.YtbjjkfmdkmbcfaaGreat
