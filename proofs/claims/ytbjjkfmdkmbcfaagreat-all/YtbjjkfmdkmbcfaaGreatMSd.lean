import Derived.Test.YtbjjkfmdkmbcfaaGreatMSa
import Derived.Test.YtbjjkfmdkmbcfaaGreatMWw
import Derived.Test.YtbjjkfmdkmbcfaaGreatMKq
namespace Go.Proofs.YtbjjkfmdkmbcfaaGreat
open Go.RowKit
open PlLv
open PlKq

attribute [local go_sem ↓] Go.wp_at_zero Go.wp_at_succ

/-- The sum of the first terms. -/
def circS (T0 T1 T2 : Int) : Nat → Int
  | 0 => 0
  | 1 => 0 + T0
  | 2 => 0 + T0 + T1
  | _ => 0 + T0 + T1 + T2

theorem circS_lt {e : Nat} {T0 T1 T2 : Int} (h0 : T0.natAbs < 2 ^ e) (h1 : T1.natAbs < 2 ^ e) (h2 : T2.natAbs < 2 ^ e) (k : Nat) : (circS T0 T1 T2 k).natAbs < 2 ^ (e + 2) := by
  have hp := Nat.two_pow_pos e
  rw [Nat.pow_add]
  generalize (2 : Nat) ^ e = E at *
  match k with
  | 0 => show (0 : Int).natAbs < _; simp; omega
  | 1 => show (0 + T0).natAbs < _; omega
  | 2 => show (0 + T0 + T1).natAbs < _; omega
  | n + 3 => show (0 + T0 + T1 + T2).natAbs < _; omega

theorem cterm_lt {a b c d e f g h i j k l : Int} (ha : a.natAbs < 2 ^ 200) (hb : b.natAbs < 2 ^ 200) (hc : c.natAbs < 2 ^ 200) (hd : d.natAbs < 2 ^ 200) (he : e.natAbs < 2 ^ 200) (hf : f.natAbs < 2 ^ 200) (hg : g.natAbs < 2 ^ 200) (hh : h.natAbs < 2 ^ 200) (hi : i.natAbs < 2 ^ 200) (hj : j.natAbs < 2 ^ 200) (hk : k.natAbs < 2 ^ 200) (hl : l.natAbs < 2 ^ 200) :
    (((a - b) * (a - b) + (c - d) * (c - d)) * ((e - f) * (g - h) - (i - j) * (k - l))).natAbs < 2 ^ 806 :=
  lt_mul (e := 403) (f := 806) (sumsq_lt ha hb hc hd) (lt_sub (e := 402) (f := 403) (bprod_lt he hf hg hh) (bprod_lt hi hj hk hl) rfl) rfl

theorem cross_lt {e f g h i j k l : Int} (he : e.natAbs < 2 ^ 200) (hf : f.natAbs < 2 ^ 200) (hg : g.natAbs < 2 ^ 200) (hh : h.natAbs < 2 ^ 200) (hi : i.natAbs < 2 ^ 200) (hj : j.natAbs < 2 ^ 200) (hk : k.natAbs < 2 ^ 200) (hl : l.natAbs < 2 ^ 200) :
    ((e - f) * (g - h) - (i - j) * (k - l)).natAbs < 2 ^ 403 := lt_sub (e := 402) (f := 403) (bprod_lt he hf hg hh) (bprod_lt hi hj hk hl) rfl

theorem and_app12 {a1 a2 a3 a4 a5 a6 a7 a8 a9 a10 a11 a12 b c : Prop} (h : a1 ∧ a2 ∧ a3 ∧ a4 ∧ a5 ∧ a6 ∧ a7 ∧ a8 ∧ a9 ∧ a10 ∧ a11 ∧ a12) (h2 : b ∧ c) : a1 ∧ a2 ∧ a3 ∧ a4 ∧ a5 ∧ a6 ∧ a7 ∧ a8 ∧ a9 ∧ a10 ∧ a11 ∧ a12 ∧ b ∧ c := by simp only [h, h2, and_self]

/-- What stands at each round: the sum so far, in its own memory. -/
structure CRel (W wr : World) (A : Nat) (n : Bool) (v : Value) (ls : List Nat) (S : Int) : Prop where
  bel : Below A W wr
  size : W.heap.size ≤ wr.heap.size
  cs : wr.cell? ⟨A, 0, none⟩ = some (.bool n) ∧ wr.cell? ⟨A, 1, none⟩ = some v
  fr : wr.frozen? ⟨A, 0, none⟩ = false ∧ wr.frozen? ⟨A, 1, none⟩ = false
  row : ∃ cs, wr.heap[A]? = some (.cells cs 53 (0, 0))
  bg : Bg wr n v ls S

theorem CRel.no_row {W wr : World} {A : Nat} {n : Bool} {v : Value} {ls : List Nat} {S : Int} (h : CRel W wr A n v ls S) : ∀ cur, wr.heap[A]? ≠ some (.cells cur 105 (0, 0)) := by
  intro cur hc
  obtain ⟨cs, hcs⟩ := h.row
  rw [hcs] at hc
  simp at hc

/-- The variable all, as it was at the round's start, in a world that has grown. -/
theorem CRel.at {W wr Z : World} {A : Nat} {n : Bool} {v : Value} {ls : List Nat} {S : Int} (h : CRel W wr A n v ls S) (hA : A < W.heap.size) (hb : Below wr.heap.size wr Z) : CRel W Z A n v ls S := by
  have hl : A < wr.heap.size := Nat.lt_of_lt_of_le hA h.size
  obtain ⟨hc, hf⟩ := bcell hb
  refine ⟨h.bel.trans (hb.mono (by omega)), Nat.le_trans h.size hb.size, ?_, ?_, ?_, h.bg.kept hb⟩
  · rw [hc _ _ hl, hc _ _ hl]; exact h.cs
  · rw [hf _ _ hl, hf _ _ hl]; exact h.fr
  · rw [hb.block _ hl]; exact h.row

theorem CRel.put {W Z : World} {A : Nat} {n m : Bool} {v v' : Value} {ls ks : List Nat} {S S' : Int} (h : CRel W Z A n v ls S) (hA : A < W.heap.size) (hg : Bg Z m v' ks S') : CRel W ((Z.setCell ⟨A, 0, none⟩ (.bool m)).setCell ⟨A, 1, none⟩ v') A m v' ks S' := by
  have hl : A < Z.heap.size := Nat.lt_of_lt_of_le hA h.size
  have c0 := h.cs
  have f0 := h.fr
  refine ⟨(h.bel.setCell (Nat.le_refl _) _).setCell (Nat.le_refl _) _, by simpa using h.size, ?_, ?_, ?_, hg.store2 h.no_row⟩
  · simp [go_sem, c0.1, c0.2]
  · simp [go_sem, f0.1, f0.2]
  · obtain ⟨cs, hcs⟩ := h.row
    exact ⟨_, heap_setCell_same _ A 1 _ _ _ (heap_setCell_same _ A 0 _ _ _ hcs)⟩

theorem below_stepD {W X w1 : World} {A : Nat} (hb : Below X.heap.size X w1) (hA : A < W.heap.size) (h : Below A W X) : Below A W w1 := h.trans (hb.mono (by have := h.size; omega))

set_option maxHeartbeats 40000000 in
set_option maxRecDepth 100000 in
theorem rcircle_any (nax : Bool) (oax : Option Addr) (kax : Nat) (lax : List Nat) (Xax : Int) (nay : Bool) (oay : Option Addr) (kay : Nat) (lay : List Nat) (Xay : Int) (nbx : Bool) (obx : Option Addr) (kbx : Nat) (lbx : List Nat) (Xbx : Int) (nby : Bool) (oby : Option Addr) (kby : Nat) (lby : List Nat) (Xby : Int) (ncx : Bool) (ocx : Option Addr) (kcx : Nat) (lcx : List Nat) (Xcx : Int) (ncy : Bool) (ocy : Option Addr) (kcy : Nat) (lcy : List Nat) (Xcy : Int) (ndx : Bool) (odx : Option Addr) (kdx : Nat) (ldx : List Nat) (Xdx : Int) (ndy : Bool) (ody : Option Addr) (kdy : Nat) (ldy : List Nat) (Xdy : Int) (w : World) (hax : Bg w nax (.slice oax lax.length kax) lax Xax) (sax : Xax.natAbs < 2 ^ 200) (hay : Bg w nay (.slice oay lay.length kay) lay Xay) (say : Xay.natAbs < 2 ^ 200) (hbx : Bg w nbx (.slice obx lbx.length kbx) lbx Xbx) (sbx : Xbx.natAbs < 2 ^ 200) (hby : Bg w nby (.slice oby lby.length kby) lby Xby) (sby : Xby.natAbs < 2 ^ 200) (hcx : Bg w ncx (.slice ocx lcx.length kcx) lcx Xcx) (scx : Xcx.natAbs < 2 ^ 200) (hcy : Bg w ncy (.slice ocy lcy.length kcy) lcy Xcy) (scy : Xcy.natAbs < 2 ^ 200) (hdx : Bg w ndx (.slice odx ldx.length kdx) ldx Xdx) (sdx : Xdx.natAbs < 2 ^ 200) (hdy : Bg w ndy (.slice ody ldy.length kdy) ldy Xdy) (sdy : Xdy.natAbs < 2 ^ 200) :
    Calls Tryz.prog 25 #[.agg #[.bool nax, .slice oax lax.length kax, .bool nay, .slice oay lay.length kay], .agg #[.bool nbx, .slice obx lbx.length kbx, .bool nby, .slice oby lby.length kby], .agg #[.bool ncx, .slice ocx lcx.length kcx, .bool ncy, .slice ocy lcy.length kcy], .agg #[.bool ndx, .slice odx ldx.length kdx, .bool ndy, .slice ody ldy.length kdy]] w fun e w' => Below w.heap.size w w' ∧ e = .returned (.int .i64 (PlRd.sgn (circS (((Xax - Xdx) * (Xax - Xdx) + (Xay - Xdy) * (Xay - Xdy)) * ((Xbx - Xdx) * (Xcy - Xdy) - (Xby - Xdy) * (Xcx - Xdx))) (((Xbx - Xdx) * (Xbx - Xdx) + (Xby - Xdy) * (Xby - Xdy)) * ((Xcx - Xdx) * (Xay - Xdy) - (Xcy - Xdy) * (Xax - Xdx))) (((Xcx - Xdx) * (Xcx - Xdx) + (Xcy - Xdy) * (Xcy - Xdy)) * ((Xax - Xdx) * (Xby - Xdy) - (Xay - Xdy) * (Xbx - Xdx))) 3))) := by
  obtain ⟨T0, hT0⟩ : ∃ T, T = ((Xax - Xdx) * (Xax - Xdx) + (Xay - Xdy) * (Xay - Xdy)) * ((Xbx - Xdx) * (Xcy - Xdy) - (Xby - Xdy) * (Xcx - Xdx)) := ⟨_, rfl⟩
  obtain ⟨T1, hT1⟩ : ∃ T, T = ((Xbx - Xdx) * (Xbx - Xdx) + (Xby - Xdy) * (Xby - Xdy)) * ((Xcx - Xdx) * (Xay - Xdy) - (Xcy - Xdy) * (Xax - Xdx)) := ⟨_, rfl⟩
  obtain ⟨T2, hT2⟩ : ∃ T, T = ((Xcx - Xdx) * (Xcx - Xdx) + (Xcy - Xdy) * (Xcy - Xdy)) * ((Xax - Xdx) * (Xby - Xdy) - (Xay - Xdy) * (Xbx - Xdx)) := ⟨_, rfl⟩
  rw [← hT0, ← hT1, ← hT2]
  have HT0 : Hid (T0.natAbs < 2 ^ 806) := by rw [hT0]; exact cterm_lt sax sdx say sdy sbx sdx scy sdy sby sdy scx sdx
  have HE0 : Hid (T0 = ((Xax - Xdx) * (Xax - Xdx) + (Xay - Xdy) * (Xay - Xdy)) * ((Xbx - Xdx) * (Xcy - Xdy) - (Xby - Xdy) * (Xcx - Xdx))) := hT0
  have HT1 : Hid (T1.natAbs < 2 ^ 806) := by rw [hT1]; exact cterm_lt sbx sdx sby sdy scx sdx say sdy scy sdy sax sdx
  have HE1 : Hid (T1 = ((Xbx - Xdx) * (Xbx - Xdx) + (Xby - Xdy) * (Xby - Xdy)) * ((Xcx - Xdx) * (Xay - Xdy) - (Xcy - Xdy) * (Xax - Xdx))) := hT1
  have HT2 : Hid (T2.natAbs < 2 ^ 806) := by rw [hT2]; exact cterm_lt scx sdx scy sdy sax sdx sby sdy say sdy sbx sdx
  have HE2 : Hid (T2 = ((Xcx - Xdx) * (Xcx - Xdx) + (Xcy - Xdy) * (Xcy - Xdy)) * ((Xax - Xdx) * (Xby - Xdy) - (Xay - Xdy) * (Xbx - Xdx))) := hT2
  clear hT0 hT1 hT2
  go_enter Tryz.func25, Tryz.ntmps25
  go_wp2
  generalize hW : World.alloc (World.alloc (World.alloc (World.alloc (World.alloc (World.alloc w _) _) _) _) _) _ = W
  have hWs : W.heap.size = w.heap.size + 6 := by subst hW; simp
  have hw : Below w.heap.size w W := by
    subst hW
    exact (((((((Below.refl _ w).alloc (by simp <;> omega) _).alloc (by simp <;> omega) _).alloc (by simp <;> omega) _).alloc (by simp <;> omega) _).alloc (by simp <;> omega) _).alloc (by simp <;> omega) _)
  have KD : ∀ w', Below (w.heap.size + 1 + 1 + 1 + 1 + 1) W w' → (w'.cell? ⟨w.heap.size + 1 + 1 + 1, 0, none⟩ = some (.bool ndx) ∧ w'.cell? ⟨w.heap.size + 1 + 1 + 1, 1, none⟩ = some (.slice odx ldx.length kdx) ∧ w'.cell? ⟨w.heap.size + 1 + 1 + 1, 2, none⟩ = some (.bool ndy) ∧ w'.cell? ⟨w.heap.size + 1 + 1 + 1, 3, none⟩ = some (.slice ody ldy.length kdy)) ∧ ((w'.cell? ⟨w.heap.size + 1 + 1 + 1 + 1, 0, none⟩ = some (.bool nax) ∧ w'.cell? ⟨w.heap.size + 1 + 1 + 1 + 1, 1, none⟩ = some (.slice oax lax.length kax) ∧ w'.cell? ⟨w.heap.size + 1 + 1 + 1 + 1, 2, none⟩ = some (.bool nay) ∧ w'.cell? ⟨w.heap.size + 1 + 1 + 1 + 1, 3, none⟩ = some (.slice oay lay.length kay)) ∧ (w'.cell? ⟨w.heap.size + 1 + 1 + 1 + 1, 4, none⟩ = some (.bool nbx) ∧ w'.cell? ⟨w.heap.size + 1 + 1 + 1 + 1, 5, none⟩ = some (.slice obx lbx.length kbx) ∧ w'.cell? ⟨w.heap.size + 1 + 1 + 1 + 1, 6, none⟩ = some (.bool nby) ∧ w'.cell? ⟨w.heap.size + 1 + 1 + 1 + 1, 7, none⟩ = some (.slice oby lby.length kby)) ∧ (w'.cell? ⟨w.heap.size + 1 + 1 + 1 + 1, 8, none⟩ = some (.bool ncx) ∧ w'.cell? ⟨w.heap.size + 1 + 1 + 1 + 1, 9, none⟩ = some (.slice ocx lcx.length kcx) ∧ w'.cell? ⟨w.heap.size + 1 + 1 + 1 + 1, 10, none⟩ = some (.bool ncy) ∧ w'.cell? ⟨w.heap.size + 1 + 1 + 1 + 1, 11, none⟩ = some (.slice ocy lcy.length kcy))) := by
    intro w' hb
    have hc : ∀ b o, b < w.heap.size + 1 + 1 + 1 + 1 + 1 → w'.cell? ⟨b, o, none⟩ = W.cell? ⟨b, o, none⟩ := fun b o h => hb.cell (p := ⟨b, o, none⟩) h
    refine ⟨⟨?_, ?_, ?_, ?_⟩, ⟨?_, ?_, ?_, ?_⟩, ⟨?_, ?_, ?_, ?_⟩, ⟨?_, ?_, ?_, ?_⟩⟩
    all_goals (rw [hc _ _ (by omega)]; subst hW; simp [go_sem])
  have hAl : w.heap.size + 1 + 1 + 1 + 1 + 1 < W.heap.size := by omega
  have hR0 : CRel W W (w.heap.size + 1 + 1 + 1 + 1 + 1) false (.slice none 0 0) [] (circS T0 T1 T2 0) := by
    refine ⟨Below.refl _ _, Nat.le_refl _, ?_, ?_, ?_, ⟨World.ownsRow_nil _ _ _ _, fun l hl => by simp at hl, by simp⟩, tr_nil, rfl, fun h => by cases h⟩
    · subst hW; simp [go_sem]
    · subst hW; simp [go_sem]
    · subst hW
      refine ⟨#[.bool false, .slice none 0 0], ?_⟩
      rw [show w.heap.size + 1 + 1 + 1 + 1 + 1 = (((((w.alloc _).alloc _).alloc _).alloc _).alloc _).heap.size by simp, heap_alloc_new]
  clear hW hWs
  go_loopw [11] (fun si wr => ∃ (k : Nat) (n : Bool) (v : Value) (ls : List Nat), si = .int .i64 k ∧ k ≤ 3 ∧ CRel W wr (w.heap.size + 1 + 1 + 1 + 1 + 1) n v ls (circS T0 T1 T2 k)) (fun si _ => 3 - (intOf si).toNat)
  case atStart => exact ⟨0, false, _, [], rfl, by omega, hR0⟩
  case round =>
    obtain ⟨k, n, v, ls, rfl, hk, R⟩ := hrel
    clear hR0
    obtain ⟨ov, kv, hfv⟩ := bg_form R.bg
    subst hfv
    have hwr : Below w.heap.size w wr := hw.trans (R.bel.mono (by omega))
    have hdr := KD wr R.bel
    have hcr := R.cs
    have hsr : w.heap.size + 1 + 1 + 1 + 1 + 1 < wr.heap.size := Nat.lt_of_lt_of_le hAl R.size
    have hsR : w.heap.size + 1 + 1 + 1 + 1 < wr.heap.size := by omega
    have hsD : w.heap.size + 1 + 1 + 1 < wr.heap.size := by omega
    match k, hk with
    | 0, _ =>
      go_wp2_with fail
      generalize hZ : World.alloc (World.alloc wr _) _ = Z
      have hZs : Z.heap.size = wr.heap.size + 2 := by subst hZ; simp
      have hrZ : Below wr.heap.size wr Z := by subst hZ; exact ((Below.refl _ wr).alloc (Nat.le_refl _) _).alloc (by simp) _
      have hwZ : Below w.heap.size w Z := hwr.trans (hrZ.mono hwr.size)
      have KZ : ∀ w', Below Z.heap.size Z w' → (w'.cell? ⟨wr.heap.size, 0, none⟩ = some (.bool nbx) ∧ w'.cell? ⟨wr.heap.size, 1, none⟩ = some (.slice obx lbx.length kbx) ∧ w'.cell? ⟨wr.heap.size, 2, none⟩ = some (.bool nby) ∧ w'.cell? ⟨wr.heap.size, 3, none⟩ = some (.slice oby lby.length kby) ∧ w'.cell? ⟨wr.heap.size + 1, 0, none⟩ = some (.bool ncx) ∧ w'.cell? ⟨wr.heap.size + 1, 1, none⟩ = some (.slice ocx lcx.length kcx) ∧ w'.cell? ⟨wr.heap.size + 1, 2, none⟩ = some (.bool ncy) ∧ w'.cell? ⟨wr.heap.size + 1, 3, none⟩ = some (.slice ocy lcy.length kcy) ∧ w'.cell? ⟨w.heap.size + 1 + 1 + 1, 0, none⟩ = some (.bool ndx) ∧ w'.cell? ⟨w.heap.size + 1 + 1 + 1, 1, none⟩ = some (.slice odx ldx.length kdx) ∧ w'.cell? ⟨w.heap.size + 1 + 1 + 1, 2, none⟩ = some (.bool ndy) ∧ w'.cell? ⟨w.heap.size + 1 + 1 + 1, 3, none⟩ = some (.slice ody ldy.length kdy)) := by
        intro w' hb
        obtain ⟨hc, _⟩ := bcell hb
        have hd := (KD _ (below_stepD (below_step hb hrZ) hAl R.bel)).1
        refine ⟨?_, ?_, ?_, ?_, ?_, ?_, ?_, ?_, hd.1, hd.2.1, hd.2.2.1, hd.2.2.2⟩
        all_goals (rw [hc _ _ (by omega)]; subst hZ; simp [go_sem])
      clear hZ hZs
      have hZ0 := KZ Z (Below.refl _ _)
      go_cut [14] from 21 to 70 (fun v14 wc => ∃ r nc vc lc, v14 = .pointer (some ⟨r, 0, none⟩) ∧ (wc.cell? ⟨r, 0, none⟩ = some (.bool nc) ∧ wc.cell? ⟨r, 1, none⟩ = some vc) ∧ Bg wc nc vc lc ((Xbx - Xdx) * (Xcy - Xdy)) ∧ Z.heap.size ≤ r ∧ r < wc.heap.size ∧ Below Z.heap.size Z wc)
      case first =>
        
        go_region_held3 (fun w' : World => (w'.cell? ⟨wr.heap.size, 0, none⟩ = some (.bool nbx) ∧ w'.cell? ⟨wr.heap.size, 1, none⟩ = some (.slice obx lbx.length kbx) ∧ w'.cell? ⟨wr.heap.size, 2, none⟩ = some (.bool nby) ∧ w'.cell? ⟨wr.heap.size, 3, none⟩ = some (.slice oby lby.length kby) ∧ w'.cell? ⟨wr.heap.size + 1, 0, none⟩ = some (.bool ncx) ∧ w'.cell? ⟨wr.heap.size + 1, 1, none⟩ = some (.slice ocx lcx.length kcx) ∧ w'.cell? ⟨wr.heap.size + 1, 2, none⟩ = some (.bool ncy) ∧ w'.cell? ⟨wr.heap.size + 1, 3, none⟩ = some (.slice ocy lcy.length kcy) ∧ w'.cell? ⟨w.heap.size + 1 + 1 + 1, 0, none⟩ = some (.bool ndx) ∧ w'.cell? ⟨w.heap.size + 1 + 1 + 1, 1, none⟩ = some (.slice odx ldx.length kdx) ∧ w'.cell? ⟨w.heap.size + 1 + 1 + 1, 2, none⟩ = some (.bool ndy) ∧ w'.cell? ⟨w.heap.size + 1 + 1 + 1, 3, none⟩ = some (.slice ody ldy.length kdy))) (exact KZ _ (by repeat (with_reducible first | refine Below.setCell ?_ (by first | (dsimp only; omega) | omega | (simp; done) | (simp; omega)) _ | refine below_alloc _ ?_ | refine Below.drew ?_ | exact hV3 | exact hV2 | exact hV1 | exact Below.refl _ _))) (first | (go_at_call 23; have g1 := hb1; go_must (refine (less_bg ncy ndy _ _ lcy ldy Xcy Xdy _ (hcy.kept (hwZ.trans (Below.mono (B := Z.heap.size) (by repeat (with_reducible first | refine Below.setCell ?_ (by first | (dsimp only; omega) | omega | (simp; done) | (simp; omega)) _ | refine below_alloc _ ?_ | refine Below.drew ?_ | exact hV1 | exact Below.refl _ _)) hwZ.size))) (hdy.kept (hwZ.trans (Below.mono (B := Z.heap.size) (by repeat (with_reducible first | refine Below.setCell ?_ (by first | (dsimp only; omega) | omega | (simp; done) | (simp; omega)) _ | refine below_alloc _ ?_ | refine Below.drew ?_ | exact hV1 | exact Below.refl _ _)) hwZ.size))) (small200 scy) (small200 sdy)).mono ?_; rintro e y2 ⟨m2, v2, j2, rfl, hg2, hb2⟩; obtain ⟨a2, d2, hv2⟩ := bg_form hg2; subst hv2; have hV2 : Below Z.heap.size Z y2 := below_step hb2 (by repeat (with_reducible first | refine Below.setCell ?_ (by first | (dsimp only; omega) | omega | (simp; done) | (simp; omega)) _ | refine below_alloc _ ?_ | refine Below.drew ?_ | exact hV1 | exact Below.refl _ _)); have kz2 : Z.heap.size ≤ y2.heap.size := hV2.size; have kq2 := hb2.size; (try simp at kq2))) | (go_at_call 23; go_must (refine (less_bg nbx ndx _ _ lbx ldx Xbx Xdx _ (hbx.kept (hwZ.trans (Below.mono (B := Z.heap.size) (by repeat (with_reducible first | refine Below.setCell ?_ (by first | (dsimp only; omega) | omega | (simp; done) | (simp; omega)) _ | refine below_alloc _ ?_ | refine Below.drew ?_ | exact Below.refl _ _)) hwZ.size))) (hdx.kept (hwZ.trans (Below.mono (B := Z.heap.size) (by repeat (with_reducible first | refine Below.setCell ?_ (by first | (dsimp only; omega) | omega | (simp; done) | (simp; omega)) _ | refine below_alloc _ ?_ | refine Below.drew ?_ | exact Below.refl _ _)) hwZ.size))) (small200 sbx) (small200 sdx)).mono ?_; rintro e y1 ⟨m1, v1, j1, rfl, hg1, hb1⟩; obtain ⟨a1, d1, hv1⟩ := bg_form hg1; subst hv1; have hV1 : Below Z.heap.size Z y1 := below_step hb1 (by repeat (with_reducible first | refine Below.setCell ?_ (by first | (dsimp only; omega) | omega | (simp; done) | (simp; omega)) _ | refine below_alloc _ ?_ | refine Below.drew ?_ | exact Below.refl _ _)); have kz1 : Z.heap.size ≤ y1.heap.size := hV1.size; have kq1 := hb1.size; (try simp at kq1))) | (go_at_call 45; go_must (refine (times_bg m1 m2 _ _ j1 j2 _ _ _ ((hg1.kept (below_step hb2 (by repeat (with_reducible first | refine below_alloc _ ?_ | refine Below.drew ?_ | exact Below.refl _ _)))).kept (by repeat (with_reducible first | refine below_alloc _ ?_ | refine Below.drew ?_ | exact Below.refl _ _))) (hg2.kept (by repeat (with_reducible first | refine below_alloc _ ?_ | refine Below.drew ?_ | exact Below.refl _ _))) (small_sub sbx sdx) (small_sub scy sdy)).mono ?_; rintro e y3 ⟨m3, v3, j3, rfl, hg3, hb3⟩; obtain ⟨a3, d3, hv3⟩ := bg_form hg3; subst hv3; have hV3 : Below Z.heap.size Z y3 := below_step hb3 (by repeat (with_reducible first | refine Below.setCell ?_ (by first | (dsimp only; omega) | omega | (simp; done) | (simp; omega)) _ | refine below_alloc _ ?_ | refine Below.drew ?_ | exact hV2 | exact hV1 | exact Below.refl _ _)); have kz3 : Z.heap.size ≤ y3.heap.size := hV3.size; have kq3 := hb3.size; (try simp at kq3); (first | (have hrr := number_row hb3; obtain ⟨⟨r0, r1, f0, f1⟩, hrow⟩ := hrr) | (have hrr := number_row (below_step hb3 hb2); obtain ⟨⟨r0, r1, f0, f1⟩, hrow⟩ := hrr) | (have hrr := number_row (below_step hb3 (below_step hb2 hb1)); obtain ⟨⟨r0, r1, f0, f1⟩, hrow⟩ := hrr) | (have hrr := number_row (below_step hb3 (below_step hb2 (below_step hb1 (Below.refl _ _).drew))); obtain ⟨⟨r0, r1, f0, f1⟩, hrow⟩ := hrr) | skip))))
        all_goals
          go_wp2_with fail
          go_meet
          first
            | exact ⟨_, m3, _, j3, rfl, ⟨by simp [go_sem, r0], by simp [go_sem, r1]⟩, hg3.store2 hrow, (by first | exact Nat.le_refl _ | exact hV1.size | exact hV2.size | exact hV3.size), by first | (simp; done) | (simp; omega), (hV3.setCell (by first | exact Nat.le_refl _ | exact hV1.size | exact hV2.size | exact hV3.size) _).setCell (by first | exact Nat.le_refl _ | exact hV1.size | exact hV2.size | exact hV3.size) _⟩
            | exact ⟨_, m3, _, j3, rfl, ⟨by simp [go_sem], by simp [go_sem]⟩, hg3.kept ((Below.refl _ _).alloc (Nat.le_refl _) _), hV3.size, by simp, hV3.alloc hV3.size _⟩
      case rest =>
        obtain ⟨r14, n14, v14', l14, hv14, c14, hg14, hr14, hr14', hbc⟩ := hcut
        subst hv14
        obtain ⟨a14, d14, hf14⟩ := bg_form hg14
        subst hf14
        obtain ⟨wx, hwx⟩ : ∃ wx, wx = wc := ⟨_, rfl⟩
        subst hwx
        have hwX : Below w.heap.size w wx := hwZ.trans (hbc.mono hwZ.size)
        have KT : ∀ w', Below wx.heap.size wx w' → (w'.cell? ⟨wr.heap.size, 0, none⟩ = some (.bool nbx) ∧ w'.cell? ⟨wr.heap.size, 1, none⟩ = some (.slice obx lbx.length kbx) ∧ w'.cell? ⟨wr.heap.size, 2, none⟩ = some (.bool nby) ∧ w'.cell? ⟨wr.heap.size, 3, none⟩ = some (.slice oby lby.length kby) ∧ w'.cell? ⟨wr.heap.size + 1, 0, none⟩ = some (.bool ncx) ∧ w'.cell? ⟨wr.heap.size + 1, 1, none⟩ = some (.slice ocx lcx.length kcx) ∧ w'.cell? ⟨wr.heap.size + 1, 2, none⟩ = some (.bool ncy) ∧ w'.cell? ⟨wr.heap.size + 1, 3, none⟩ = some (.slice ocy lcy.length kcy) ∧ w'.cell? ⟨w.heap.size + 1 + 1 + 1, 0, none⟩ = some (.bool ndx) ∧ w'.cell? ⟨w.heap.size + 1 + 1 + 1, 1, none⟩ = some (.slice odx ldx.length kdx) ∧ w'.cell? ⟨w.heap.size + 1 + 1 + 1, 2, none⟩ = some (.bool ndy) ∧ w'.cell? ⟨w.heap.size + 1 + 1 + 1, 3, none⟩ = some (.slice ody ldy.length kdy)) := fun w' h => KZ w' (below_step h hbc)
        have hT0 := KT wx (Below.refl _ _)
        clear KZ hZ0
        go_wp2_with fail
        go_cut [15] from 21 to 70 (fun v15 wc => ∃ r nc vc lc, v15 = .pointer (some ⟨r, 0, none⟩) ∧ (wc.cell? ⟨r, 0, none⟩ = some (.bool nc) ∧ wc.cell? ⟨r, 1, none⟩ = some vc) ∧ Bg wc nc vc lc ((Xby - Xdy) * (Xcx - Xdx)) ∧ wx.heap.size ≤ r ∧ r < wc.heap.size ∧ Below wx.heap.size wx wc)
        case first =>
          clear c14 hg14
          go_region_held3 (fun w' : World => (w'.cell? ⟨wr.heap.size, 0, none⟩ = some (.bool nbx) ∧ w'.cell? ⟨wr.heap.size, 1, none⟩ = some (.slice obx lbx.length kbx) ∧ w'.cell? ⟨wr.heap.size, 2, none⟩ = some (.bool nby) ∧ w'.cell? ⟨wr.heap.size, 3, none⟩ = some (.slice oby lby.length kby) ∧ w'.cell? ⟨wr.heap.size + 1, 0, none⟩ = some (.bool ncx) ∧ w'.cell? ⟨wr.heap.size + 1, 1, none⟩ = some (.slice ocx lcx.length kcx) ∧ w'.cell? ⟨wr.heap.size + 1, 2, none⟩ = some (.bool ncy) ∧ w'.cell? ⟨wr.heap.size + 1, 3, none⟩ = some (.slice ocy lcy.length kcy) ∧ w'.cell? ⟨w.heap.size + 1 + 1 + 1, 0, none⟩ = some (.bool ndx) ∧ w'.cell? ⟨w.heap.size + 1 + 1 + 1, 1, none⟩ = some (.slice odx ldx.length kdx) ∧ w'.cell? ⟨w.heap.size + 1 + 1 + 1, 2, none⟩ = some (.bool ndy) ∧ w'.cell? ⟨w.heap.size + 1 + 1 + 1, 3, none⟩ = some (.slice ody ldy.length kdy))) (exact KT _ (by repeat (with_reducible first | refine Below.setCell ?_ (by first | (dsimp only; omega) | omega | (simp; done) | (simp; omega)) _ | refine below_alloc _ ?_ | refine Below.drew ?_ | exact hX3 | exact hX2 | exact hX1 | exact Below.refl _ _))) (first | (go_at_call 23; have g1 := hb1; go_must (refine (less_bg ncx ndx _ _ lcx ldx Xcx Xdx _ (hcx.kept (hwX.trans (Below.mono (B := wx.heap.size) (by repeat (with_reducible first | refine Below.setCell ?_ (by first | (dsimp only; omega) | omega | (simp; done) | (simp; omega)) _ | refine below_alloc _ ?_ | refine Below.drew ?_ | exact hX1 | exact Below.refl _ _)) hwX.size))) (hdx.kept (hwX.trans (Below.mono (B := wx.heap.size) (by repeat (with_reducible first | refine Below.setCell ?_ (by first | (dsimp only; omega) | omega | (simp; done) | (simp; omega)) _ | refine below_alloc _ ?_ | refine Below.drew ?_ | exact hX1 | exact Below.refl _ _)) hwX.size))) (small200 scx) (small200 sdx)).mono ?_; rintro e z2 ⟨m2, v2, j2, rfl, hg2, hb2⟩; obtain ⟨a2, d2, hv2⟩ := bg_form hg2; subst hv2; have hX2 : Below wx.heap.size wx z2 := below_step hb2 (by repeat (with_reducible first | refine Below.setCell ?_ (by first | (dsimp only; omega) | omega | (simp; done) | (simp; omega)) _ | refine below_alloc _ ?_ | refine Below.drew ?_ | exact hX1 | exact Below.refl _ _)); have kz2 : wx.heap.size ≤ z2.heap.size := hX2.size; have kq2 := hb2.size; (try simp at kq2))) | (go_at_call 23; go_must (refine (less_bg nby ndy _ _ lby ldy Xby Xdy _ (hby.kept (hwX.trans (Below.mono (B := wx.heap.size) (by repeat (with_reducible first | refine Below.setCell ?_ (by first | (dsimp only; omega) | omega | (simp; done) | (simp; omega)) _ | refine below_alloc _ ?_ | refine Below.drew ?_ | exact Below.refl _ _)) hwX.size))) (hdy.kept (hwX.trans (Below.mono (B := wx.heap.size) (by repeat (with_reducible first | refine Below.setCell ?_ (by first | (dsimp only; omega) | omega | (simp; done) | (simp; omega)) _ | refine below_alloc _ ?_ | refine Below.drew ?_ | exact Below.refl _ _)) hwX.size))) (small200 sby) (small200 sdy)).mono ?_; rintro e z1 ⟨m1, v1, j1, rfl, hg1, hb1⟩; obtain ⟨a1, d1, hv1⟩ := bg_form hg1; subst hv1; have hX1 : Below wx.heap.size wx z1 := below_step hb1 (by repeat (with_reducible first | refine Below.setCell ?_ (by first | (dsimp only; omega) | omega | (simp; done) | (simp; omega)) _ | refine below_alloc _ ?_ | refine Below.drew ?_ | exact Below.refl _ _)); have kz1 : wx.heap.size ≤ z1.heap.size := hX1.size; have kq1 := hb1.size; (try simp at kq1))) | (go_at_call 45; go_must (refine (times_bg m1 m2 _ _ j1 j2 _ _ _ ((hg1.kept (below_step hb2 (by repeat (with_reducible first | refine below_alloc _ ?_ | refine Below.drew ?_ | exact Below.refl _ _)))).kept (by repeat (with_reducible first | refine below_alloc _ ?_ | refine Below.drew ?_ | exact Below.refl _ _))) (hg2.kept (by repeat (with_reducible first | refine below_alloc _ ?_ | refine Below.drew ?_ | exact Below.refl _ _))) (small_sub sby sdy) (small_sub scx sdx)).mono ?_; rintro e z3 ⟨m3, v3, j3, rfl, hg3, hb3⟩; obtain ⟨a3, d3, hv3⟩ := bg_form hg3; subst hv3; have hX3 : Below wx.heap.size wx z3 := below_step hb3 (by repeat (with_reducible first | refine Below.setCell ?_ (by first | (dsimp only; omega) | omega | (simp; done) | (simp; omega)) _ | refine below_alloc _ ?_ | refine Below.drew ?_ | exact hX2 | exact hX1 | exact Below.refl _ _)); have kz3 : wx.heap.size ≤ z3.heap.size := hX3.size; have kq3 := hb3.size; (try simp at kq3); (first | (have hrr := number_row hb3; obtain ⟨⟨r0, r1, f0, f1⟩, hrow⟩ := hrr) | (have hrr := number_row (below_step hb3 hb2); obtain ⟨⟨r0, r1, f0, f1⟩, hrow⟩ := hrr) | (have hrr := number_row (below_step hb3 (below_step hb2 hb1)); obtain ⟨⟨r0, r1, f0, f1⟩, hrow⟩ := hrr) | (have hrr := number_row (below_step hb3 (below_step hb2 (below_step hb1 (Below.refl _ _).drew))); obtain ⟨⟨r0, r1, f0, f1⟩, hrow⟩ := hrr) | skip))))
          all_goals
            go_wp2_with fail
            go_meet
            first
              | exact ⟨_, m3, _, j3, rfl, ⟨by simp [go_sem, r0], by simp [go_sem, r1]⟩, hg3.store2 hrow, (by first | exact Nat.le_refl _ | exact hX1.size | exact hX2.size | exact hX3.size), by first | (simp; done) | (simp; omega), (hX3.setCell (by first | exact Nat.le_refl _ | exact hX1.size | exact hX2.size | exact hX3.size) _).setCell (by first | exact Nat.le_refl _ | exact hX1.size | exact hX2.size | exact hX3.size) _⟩
              | exact ⟨_, m3, _, j3, rfl, ⟨by simp [go_sem], by simp [go_sem]⟩, hg3.kept ((Below.refl _ _).alloc (Nat.le_refl _) _), hX3.size, by simp, hX3.alloc hX3.size _⟩
        case rest =>
          obtain ⟨r15, n15, v15', l15, hv15, c15, hg15, hr15, hr15', hbd⟩ := hcut
          subst hv15
          obtain ⟨a15, d15, hf15⟩ := bg_form hg15
          subst hf15
          obtain ⟨wy, hwy⟩ : ∃ wy, wy = wc := ⟨_, rfl⟩
          subst hwy
          have hwY : Below w.heap.size w wy := hwX.trans (hbd.mono hwX.size)
          have hry : Below wr.heap.size wr wy := below_step hbd (below_step hbc hrZ)
          have hC := R.at hAl hry
          have e140 := ((bcell hbd).1 r14 0 hr14').trans c14.1
          have e141 := ((bcell hbd).1 r14 1 hr14').trans c14.2
          replace hg14 := hg14.kept hbd
          have hrl : r14 < wy.heap.size := Nat.lt_of_lt_of_le hr14' hbd.size
          have KU : ∀ w' : World, (∀ b o, b < wy.heap.size → b ≠ w.heap.size + 1 + 1 + 1 + 1 + 1 → w'.cell? ⟨b, o, none⟩ = wy.cell? ⟨b, o, none⟩) → (w'.cell? ⟨w.heap.size + 1 + 1 + 1, 0, none⟩ = some (.bool ndx) ∧ w'.cell? ⟨w.heap.size + 1 + 1 + 1, 1, none⟩ = some (.slice odx ldx.length kdx) ∧ w'.cell? ⟨w.heap.size + 1 + 1 + 1, 2, none⟩ = some (.bool ndy) ∧ w'.cell? ⟨w.heap.size + 1 + 1 + 1, 3, none⟩ = some (.slice ody ldy.length kdy) ∧ w'.cell? ⟨w.heap.size + 1 + 1 + 1 + 1, 0, none⟩ = some (.bool nax) ∧ w'.cell? ⟨w.heap.size + 1 + 1 + 1 + 1, 1, none⟩ = some (.slice oax lax.length kax) ∧ w'.cell? ⟨w.heap.size + 1 + 1 + 1 + 1, 2, none⟩ = some (.bool nay) ∧ w'.cell? ⟨w.heap.size + 1 + 1 + 1 + 1, 3, none⟩ = some (.slice oay lay.length kay) ∧ w'.cell? ⟨r14, 0, none⟩ = some (.bool n14) ∧ w'.cell? ⟨r14, 1, none⟩ = some (.slice a14 l14.length d14) ∧ w'.cell? ⟨r15, 0, none⟩ = some (.bool n15) ∧ w'.cell? ⟨r15, 1, none⟩ = some (.slice a15 l15.length d15)) := by
            intro w' hc
            obtain ⟨hd, hq⟩ := KD _ (below_stepD hry hAl R.bel)
            have hys := hC.size
            refine ⟨?_, ?_, ?_, ?_, ?_, ?_, ?_, ?_, ?_, ?_, ?_, ?_⟩
            · rw [hc _ _ (by omega) (by omega)]; exact hd.1
            · rw [hc _ _ (by omega) (by omega)]; exact hd.2.1
            · rw [hc _ _ (by omega) (by omega)]; exact hd.2.2.1
            · rw [hc _ _ (by omega) (by omega)]; exact hd.2.2.2
            · rw [hc _ _ (by omega) (by omega)]; exact hq.1.1
            · rw [hc _ _ (by omega) (by omega)]; exact hq.1.2.1
            · rw [hc _ _ (by omega) (by omega)]; exact hq.1.2.2.1
            · rw [hc _ _ (by omega) (by omega)]; exact hq.1.2.2.2
            · rw [hc _ _ (by omega) (by have := hrZ.size; have := hbc.size; omega)]; exact e140
            · rw [hc _ _ (by omega) (by have := hrZ.size; have := hbc.size; omega)]; exact e141
            · rw [hc _ _ (by omega) (by have := hrZ.size; have := hbc.size; omega)]; exact c15.1
            · rw [hc _ _ (by omega) (by have := hrZ.size; have := hbc.size; omega)]; exact c15.2
          have hU0 := KU wy (fun _ _ _ _ => rfl)
          have caY := hC.cs
          have HP : Hid (((Xbx - Xdx) * (Xcy - Xdy)).natAbs < 2 ^ 402 ∧ ((Xby - Xdy) * (Xcx - Xdx)).natAbs < 2 ^ 402) := ⟨bprod_lt sbx sdx scy sdy, bprod_lt sby sdy scx sdx⟩
          have HQ : Hid ((((Xax - Xdx) * (Xax - Xdx) + (Xay - Xdy) * (Xay - Xdy))).natAbs < 2 ^ 403 ∧ ((Xbx - Xdx) * (Xcy - Xdy) - (Xby - Xdy) * (Xcx - Xdx)).natAbs < 2 ^ 403) := ⟨sumsq_lt sax sdx say sdy, cross_lt sbx sdx scy sdy sby sdy scx sdx⟩
          clear KT hT0 e140 e141 c14 c15
          
          have KV : ∀ w' : World, Below wy.heap.size wy w' → (w'.cell? ⟨w.heap.size + 1 + 1 + 1, 0, none⟩ = some (.bool ndx) ∧ w'.cell? ⟨w.heap.size + 1 + 1 + 1, 1, none⟩ = some (.slice odx ldx.length kdx) ∧ w'.cell? ⟨w.heap.size + 1 + 1 + 1, 2, none⟩ = some (.bool ndy) ∧ w'.cell? ⟨w.heap.size + 1 + 1 + 1, 3, none⟩ = some (.slice ody ldy.length kdy) ∧ w'.cell? ⟨w.heap.size + 1 + 1 + 1 + 1, 0, none⟩ = some (.bool nax) ∧ w'.cell? ⟨w.heap.size + 1 + 1 + 1 + 1, 1, none⟩ = some (.slice oax lax.length kax) ∧ w'.cell? ⟨w.heap.size + 1 + 1 + 1 + 1, 2, none⟩ = some (.bool nay) ∧ w'.cell? ⟨w.heap.size + 1 + 1 + 1 + 1, 3, none⟩ = some (.slice oay lay.length kay) ∧ w'.cell? ⟨r14, 0, none⟩ = some (.bool n14) ∧ w'.cell? ⟨r14, 1, none⟩ = some (.slice a14 l14.length d14) ∧ w'.cell? ⟨r15, 0, none⟩ = some (.bool n15) ∧ w'.cell? ⟨r15, 1, none⟩ = some (.slice a15 l15.length d15) ∧ w'.cell? ⟨w.heap.size + 1 + 1 + 1 + 1 + 1, 0, none⟩ = some (.bool n) ∧ w'.cell? ⟨w.heap.size + 1 + 1 + 1 + 1 + 1, 1, none⟩ = some (.slice ov ls.length kv)) := fun w' hb => (and_app12 (KU w' (fun b o h1 _ => (bcell hb).1 b o h1)) (hC.at hAl hb).cs)
          have hHeld := KV wy.drew (Below.refl _ _).drew
          go_wp2_with fail
          refine wp_region_K (S := fun w' : World => (w'.cell? ⟨w.heap.size + 1 + 1 + 1, 0, none⟩ = some (.bool ndx) ∧ w'.cell? ⟨w.heap.size + 1 + 1 + 1, 1, none⟩ = some (.slice odx ldx.length kdx) ∧ w'.cell? ⟨w.heap.size + 1 + 1 + 1, 2, none⟩ = some (.bool ndy) ∧ w'.cell? ⟨w.heap.size + 1 + 1 + 1, 3, none⟩ = some (.slice ody ldy.length kdy) ∧ w'.cell? ⟨w.heap.size + 1 + 1 + 1 + 1, 0, none⟩ = some (.bool nax) ∧ w'.cell? ⟨w.heap.size + 1 + 1 + 1 + 1, 1, none⟩ = some (.slice oax lax.length kax) ∧ w'.cell? ⟨w.heap.size + 1 + 1 + 1 + 1, 2, none⟩ = some (.bool nay) ∧ w'.cell? ⟨w.heap.size + 1 + 1 + 1 + 1, 3, none⟩ = some (.slice oay lay.length kay) ∧ w'.cell? ⟨r14, 0, none⟩ = some (.bool n14) ∧ w'.cell? ⟨r14, 1, none⟩ = some (.slice a14 l14.length d14) ∧ w'.cell? ⟨r15, 0, none⟩ = some (.bool n15) ∧ w'.cell? ⟨r15, 1, none⟩ = some (.slice a15 l15.length d15) ∧ w'.cell? ⟨w.heap.size + 1 + 1 + 1 + 1 + 1, 0, none⟩ = some (.bool n) ∧ w'.cell? ⟨w.heap.size + 1 + 1 + 1 + 1 + 1, 1, none⟩ = some (.slice ov ls.length kv))) (L := 12) (by kernel_rfl) ?_
          refine wpAnyK_take (i := 0) (v := ?_) rfl (by kernel_rfl) (by kernel_rfl) (by kernel_rfl) (by kernel_rfl) (fun _ _ _ h => h) (Or.inl ⟨by rfl, ?_⟩) hHeld ?_
          rotate_left 1
          · (intro w hSw; (try dsimp only at hSw); go_simp; try with_reducible rfl)
          (try simp only [Act.put, List.setIfInBounds_toArray])
          refine wpAnyK_take (i := 1) (v := ?_) rfl (by kernel_rfl) (by kernel_rfl) (by kernel_rfl) (by kernel_rfl) (fun _ _ _ h => h) (Or.inl ⟨by rfl, ?_⟩) hHeld ?_
          rotate_left 1
          · (intro w hSw; (try dsimp only at hSw); go_simp; try with_reducible rfl)
          (try simp only [Act.put])
          refine wpAnyK_take (i := 2) (v := ?_) rfl (by kernel_rfl) (by kernel_rfl) (by kernel_rfl) (by kernel_rfl) (fun _ _ _ h => h) (Or.inl ⟨by rfl, ?_⟩) hHeld ?_
          rotate_left 1
          · (intro w hSw; (try dsimp only at hSw); go_simp; try with_reducible rfl)
          (try simp only [Act.put])
          refine wpAnyK_take (i := 3) (v := ?_) rfl (by kernel_rfl) (by kernel_rfl) (by kernel_rfl) (by kernel_rfl) (fun _ _ _ h => h) (Or.inl ⟨by rfl, ?_⟩) hHeld ?_
          rotate_left 1
          · (intro w hSw; (try dsimp only at hSw); go_simp; try with_reducible rfl)
          (try simp only [Act.put])
          refine wpAnyK_take (i := 4) (v := ?_) rfl (by kernel_rfl) (by kernel_rfl) (by kernel_rfl) (by kernel_rfl) (fun _ _ _ h => h) (Or.inl ⟨by rfl, ?_⟩) hHeld ?_
          rotate_left 1
          · (intro w hSw; (try dsimp only at hSw); go_simp; try with_reducible rfl)
          (try simp only [Act.put])
          refine wpAnyK_take (i := 5) (v := ?_) rfl (by kernel_rfl) (by kernel_rfl) (by kernel_rfl) (by kernel_rfl) (fun _ _ _ h => h) (Or.inl ⟨by rfl, ?_⟩) hHeld ?_
          rotate_left 1
          · (intro w hSw; (try dsimp only at hSw); go_simp; try with_reducible rfl)
          (try simp only [Act.put])
          refine wpAnyK_take (i := 7) (v := ?_) rfl (by kernel_rfl) (by kernel_rfl) (by kernel_rfl) (by kernel_rfl) (fun _ _ _ h => h) (Or.inl ⟨by rfl, ?_⟩) hHeld ?_
          rotate_left 1
          · (intro w hSw; (try dsimp only at hSw); go_simp; try with_reducible rfl)
          (try simp only [Act.put])
          refine wpAnyK_take (i := 8) (v := ?_) rfl (by kernel_rfl) (by kernel_rfl) (by kernel_rfl) (by kernel_rfl) (fun _ _ _ h => h) (Or.inl ⟨by rfl, ?_⟩) hHeld ?_
          rotate_left 1
          · (intro w hSw; (try dsimp only at hSw); go_simp; try with_reducible rfl)
          (try simp only [Act.put])
          refine wpAnyK_step (i := 6) (by kernel_rfl) rfl (fun K hK => ?_)
          go_simp
          (go_at_call 24; go_must (refine (rsquare_any ndx odx kdx ldx Xdx ndy ody kdy ldy Xdy nax oax kax lax Xax nay oay kay lay Xay _ (hdx.kept (hwY.trans (Below.mono (B := wy.heap.size) (by repeat (with_reducible first | refine Below.setCell ?_ (by first | (dsimp only; omega) | omega | (simp; done) | (simp; omega)) _ | refine below_alloc _ ?_ | refine Below.drew ?_ | exact Below.refl _ _)) hwY.size))) sdx (hdy.kept (hwY.trans (Below.mono (B := wy.heap.size) (by repeat (with_reducible first | refine Below.setCell ?_ (by first | (dsimp only; omega) | omega | (simp; done) | (simp; omega)) _ | refine below_alloc _ ?_ | refine Below.drew ?_ | exact Below.refl _ _)) hwY.size))) sdy (hax.kept (hwY.trans (Below.mono (B := wy.heap.size) (by repeat (with_reducible first | refine Below.setCell ?_ (by first | (dsimp only; omega) | omega | (simp; done) | (simp; omega)) _ | refine below_alloc _ ?_ | refine Below.drew ?_ | exact Below.refl _ _)) hwY.size))) sax (hay.kept (hwY.trans (Below.mono (B := wy.heap.size) (by repeat (with_reducible first | refine Below.setCell ?_ (by first | (dsimp only; omega) | omega | (simp; done) | (simp; omega)) _ | refine below_alloc _ ?_ | refine Below.drew ?_ | exact Below.refl _ _)) hwY.size))) say).mono ?_; rintro e t1 ⟨m1, v1, j1, rfl, hg1, hb1⟩; obtain ⟨a1, d1, hv1⟩ := bg_form hg1; subst hv1; have hY1 : Below wy.heap.size wy t1 := below_step hb1 (by repeat (with_reducible first | refine Below.setCell ?_ (by first | (dsimp only; omega) | omega | (simp; done) | (simp; omega)) _ | refine below_alloc _ ?_ | refine Below.drew ?_ | exact Below.refl _ _)); have kz1 : wy.heap.size ≤ t1.heap.size := hY1.size; have kq1 := hb1.size; (try simp at kq1)))
          (try go_wp2_with fail)
          refine hK.out _ _ (fun _ => KV _ hY1) ?_
          clear hK K
          (try simp only [Act.put, List.setIfInBounds_toArray, List.set_cons_zero, List.set_cons_succ])
          refine wpAnyK_step (i := 9) (by kernel_rfl) rfl (fun K hK => ?_)
          go_simp
          (go_at_call 23; go_must (refine (less_bg n14 n15 _ _ l14 l15 _ _ _ (hg14.kept hY1) (hg15.kept hY1) (small_of HP.out.1 (by decide)) (small_of HP.out.2 (by decide))).mono ?_; rintro e t2 ⟨m2, v2, j2, rfl, hg2, hb2⟩; obtain ⟨a2, d2, hv2⟩ := bg_form hg2; subst hv2; have hY2 : Below wy.heap.size wy t2 := below_step hb2 (by repeat (with_reducible first | refine Below.setCell ?_ (by first | (dsimp only; omega) | omega | (simp; done) | (simp; omega)) _ | refine below_alloc _ ?_ | refine Below.drew ?_ | exact hY1 | exact Below.refl _ _)); have kz2 : wy.heap.size ≤ t2.heap.size := hY2.size; have kq2 := hb2.size; (try simp at kq2)))
          (try go_wp2_with fail)
          refine hK.out _ _ (fun _ => KV _ hY2) ?_
          clear hK K
          (try simp only [Act.put, List.setIfInBounds_toArray, List.set_cons_zero, List.set_cons_succ])
          refine wpAnyK_step (i := 10) (by kernel_rfl) rfl (fun K hK => ?_)
          go_simp
          (go_at_call 45; go_must (refine (times_bg m1 m2 _ _ j1 j2 _ _ _ (hg1.kept hb2) hg2 (small_of HQ.out.1 (by decide)) (small_of HQ.out.2 (by decide))).mono ?_; rintro e t3 ⟨m3, v3, j3, rfl, hg3, hb3⟩; obtain ⟨a3, d3, hv3⟩ := bg_form hg3; subst hv3; have hY3 : Below wy.heap.size wy t3 := below_step hb3 (by repeat (with_reducible first | refine Below.setCell ?_ (by first | (dsimp only; omega) | omega | (simp; done) | (simp; omega)) _ | refine below_alloc _ ?_ | refine Below.drew ?_ | exact hY2 | exact hY1 | exact Below.refl _ _)); have kz3 : wy.heap.size ≤ t3.heap.size := hY3.size; have kq3 := hb3.size; (try simp at kq3); rw [← HE0.out] at hg3))
          (try go_wp2_with fail)
          refine hK.out _ _ (fun _ => KV _ hY3) ?_
          clear hK K
          (try simp only [Act.put, List.setIfInBounds_toArray, List.set_cons_zero, List.set_cons_succ])
          refine wpAnyK_step (i := 11) (by kernel_rfl) rfl (fun K hK => ?_)
          go_simp
          (go_at_call 46; go_must (refine (sum_bg n m3 _ _ ls j3 _ _ _ (hC.at hAl hY3).bg hg3 (small_of (circS_lt HT0.out HT1.out HT2.out 0) (by decide)) (small_of HT0.out (by decide))).mono ?_; rintro e t4 ⟨m4, v4, j4, rfl, hg4, hb4⟩; obtain ⟨a4, d4, hv4⟩ := bg_form hg4; subst hv4; have hY4 : Below wy.heap.size wy t4 := below_step hb4 (by repeat (with_reducible first | refine Below.setCell ?_ (by first | (dsimp only; omega) | omega | (simp; done) | (simp; omega)) _ | refine below_alloc _ ?_ | refine Below.drew ?_ | exact hY3 | exact hY2 | exact hY1 | exact Below.refl _ _)); have kz4 : wy.heap.size ≤ t4.heap.size := hY4.size; have kq4 := hb4.size; (try simp at kq4)))
          (try go_wp2_with fail)
          refine hK.out _ _ (fun _ => KV _ hY4) ?_
          clear hK K
          (try simp only [Act.put, List.setIfInBounds_toArray, List.set_cons_zero, List.set_cons_succ])
          have hC4 := hC.at hAl hY4
          have ca4 := hC4.cs
          have fa4 := hC4.fr
          refine wpAnyK_step (i := 12) (by kernel_rfl) rfl (fun K hK => ?_)
          go_simp
          (try go_wp2_with fail)
          refine hK.out _ _ (fun h => absurd rfl h) ?_
          clear hK K
          refine wpAnyK_done (by kernel_rfl) ?_ _
          have hg5 : Bg t4 m4 (.slice a4 j4.length d4) j4 (circS T0 T1 T2 1) := hg4
          have hC5 := hC4.put hAl hg5
          clear KU hU0 hC hC4
          go_wp2_with fail
          go_roundw
          case rel => exact ⟨1, m4, _, j4, rfl, by omega, hC5⟩
          case measure => simp [intOf]
    | 1, _ =>
      go_wp2_with fail
      generalize hZ : World.alloc (World.alloc wr _) _ = Z
      have hZs : Z.heap.size = wr.heap.size + 2 := by subst hZ; simp
      have hrZ : Below wr.heap.size wr Z := by subst hZ; exact ((Below.refl _ wr).alloc (Nat.le_refl _) _).alloc (by simp) _
      have hwZ : Below w.heap.size w Z := hwr.trans (hrZ.mono hwr.size)
      have KZ : ∀ w', Below Z.heap.size Z w' → (w'.cell? ⟨wr.heap.size, 0, none⟩ = some (.bool ncx) ∧ w'.cell? ⟨wr.heap.size, 1, none⟩ = some (.slice ocx lcx.length kcx) ∧ w'.cell? ⟨wr.heap.size, 2, none⟩ = some (.bool ncy) ∧ w'.cell? ⟨wr.heap.size, 3, none⟩ = some (.slice ocy lcy.length kcy) ∧ w'.cell? ⟨wr.heap.size + 1, 0, none⟩ = some (.bool nax) ∧ w'.cell? ⟨wr.heap.size + 1, 1, none⟩ = some (.slice oax lax.length kax) ∧ w'.cell? ⟨wr.heap.size + 1, 2, none⟩ = some (.bool nay) ∧ w'.cell? ⟨wr.heap.size + 1, 3, none⟩ = some (.slice oay lay.length kay) ∧ w'.cell? ⟨w.heap.size + 1 + 1 + 1, 0, none⟩ = some (.bool ndx) ∧ w'.cell? ⟨w.heap.size + 1 + 1 + 1, 1, none⟩ = some (.slice odx ldx.length kdx) ∧ w'.cell? ⟨w.heap.size + 1 + 1 + 1, 2, none⟩ = some (.bool ndy) ∧ w'.cell? ⟨w.heap.size + 1 + 1 + 1, 3, none⟩ = some (.slice ody ldy.length kdy)) := by
        intro w' hb
        obtain ⟨hc, _⟩ := bcell hb
        have hd := (KD _ (below_stepD (below_step hb hrZ) hAl R.bel)).1
        refine ⟨?_, ?_, ?_, ?_, ?_, ?_, ?_, ?_, hd.1, hd.2.1, hd.2.2.1, hd.2.2.2⟩
        all_goals (rw [hc _ _ (by omega)]; subst hZ; simp [go_sem])
      clear hZ hZs
      have hZ0 := KZ Z (Below.refl _ _)
      go_cut [14] from 21 to 70 (fun v14 wc => ∃ r nc vc lc, v14 = .pointer (some ⟨r, 0, none⟩) ∧ (wc.cell? ⟨r, 0, none⟩ = some (.bool nc) ∧ wc.cell? ⟨r, 1, none⟩ = some vc) ∧ Bg wc nc vc lc ((Xcx - Xdx) * (Xay - Xdy)) ∧ Z.heap.size ≤ r ∧ r < wc.heap.size ∧ Below Z.heap.size Z wc)
      case first =>
        
        go_region_held3 (fun w' : World => (w'.cell? ⟨wr.heap.size, 0, none⟩ = some (.bool ncx) ∧ w'.cell? ⟨wr.heap.size, 1, none⟩ = some (.slice ocx lcx.length kcx) ∧ w'.cell? ⟨wr.heap.size, 2, none⟩ = some (.bool ncy) ∧ w'.cell? ⟨wr.heap.size, 3, none⟩ = some (.slice ocy lcy.length kcy) ∧ w'.cell? ⟨wr.heap.size + 1, 0, none⟩ = some (.bool nax) ∧ w'.cell? ⟨wr.heap.size + 1, 1, none⟩ = some (.slice oax lax.length kax) ∧ w'.cell? ⟨wr.heap.size + 1, 2, none⟩ = some (.bool nay) ∧ w'.cell? ⟨wr.heap.size + 1, 3, none⟩ = some (.slice oay lay.length kay) ∧ w'.cell? ⟨w.heap.size + 1 + 1 + 1, 0, none⟩ = some (.bool ndx) ∧ w'.cell? ⟨w.heap.size + 1 + 1 + 1, 1, none⟩ = some (.slice odx ldx.length kdx) ∧ w'.cell? ⟨w.heap.size + 1 + 1 + 1, 2, none⟩ = some (.bool ndy) ∧ w'.cell? ⟨w.heap.size + 1 + 1 + 1, 3, none⟩ = some (.slice ody ldy.length kdy))) (exact KZ _ (by repeat (with_reducible first | refine Below.setCell ?_ (by first | (dsimp only; omega) | omega | (simp; done) | (simp; omega)) _ | refine below_alloc _ ?_ | refine Below.drew ?_ | exact hV3 | exact hV2 | exact hV1 | exact Below.refl _ _))) (first | (go_at_call 23; have g1 := hb1; go_must (refine (less_bg nay ndy _ _ lay ldy Xay Xdy _ (hay.kept (hwZ.trans (Below.mono (B := Z.heap.size) (by repeat (with_reducible first | refine Below.setCell ?_ (by first | (dsimp only; omega) | omega | (simp; done) | (simp; omega)) _ | refine below_alloc _ ?_ | refine Below.drew ?_ | exact hV1 | exact Below.refl _ _)) hwZ.size))) (hdy.kept (hwZ.trans (Below.mono (B := Z.heap.size) (by repeat (with_reducible first | refine Below.setCell ?_ (by first | (dsimp only; omega) | omega | (simp; done) | (simp; omega)) _ | refine below_alloc _ ?_ | refine Below.drew ?_ | exact hV1 | exact Below.refl _ _)) hwZ.size))) (small200 say) (small200 sdy)).mono ?_; rintro e y2 ⟨m2, v2, j2, rfl, hg2, hb2⟩; obtain ⟨a2, d2, hv2⟩ := bg_form hg2; subst hv2; have hV2 : Below Z.heap.size Z y2 := below_step hb2 (by repeat (with_reducible first | refine Below.setCell ?_ (by first | (dsimp only; omega) | omega | (simp; done) | (simp; omega)) _ | refine below_alloc _ ?_ | refine Below.drew ?_ | exact hV1 | exact Below.refl _ _)); have kz2 : Z.heap.size ≤ y2.heap.size := hV2.size; have kq2 := hb2.size; (try simp at kq2))) | (go_at_call 23; go_must (refine (less_bg ncx ndx _ _ lcx ldx Xcx Xdx _ (hcx.kept (hwZ.trans (Below.mono (B := Z.heap.size) (by repeat (with_reducible first | refine Below.setCell ?_ (by first | (dsimp only; omega) | omega | (simp; done) | (simp; omega)) _ | refine below_alloc _ ?_ | refine Below.drew ?_ | exact Below.refl _ _)) hwZ.size))) (hdx.kept (hwZ.trans (Below.mono (B := Z.heap.size) (by repeat (with_reducible first | refine Below.setCell ?_ (by first | (dsimp only; omega) | omega | (simp; done) | (simp; omega)) _ | refine below_alloc _ ?_ | refine Below.drew ?_ | exact Below.refl _ _)) hwZ.size))) (small200 scx) (small200 sdx)).mono ?_; rintro e y1 ⟨m1, v1, j1, rfl, hg1, hb1⟩; obtain ⟨a1, d1, hv1⟩ := bg_form hg1; subst hv1; have hV1 : Below Z.heap.size Z y1 := below_step hb1 (by repeat (with_reducible first | refine Below.setCell ?_ (by first | (dsimp only; omega) | omega | (simp; done) | (simp; omega)) _ | refine below_alloc _ ?_ | refine Below.drew ?_ | exact Below.refl _ _)); have kz1 : Z.heap.size ≤ y1.heap.size := hV1.size; have kq1 := hb1.size; (try simp at kq1))) | (go_at_call 45; go_must (refine (times_bg m1 m2 _ _ j1 j2 _ _ _ ((hg1.kept (below_step hb2 (by repeat (with_reducible first | refine below_alloc _ ?_ | refine Below.drew ?_ | exact Below.refl _ _)))).kept (by repeat (with_reducible first | refine below_alloc _ ?_ | refine Below.drew ?_ | exact Below.refl _ _))) (hg2.kept (by repeat (with_reducible first | refine below_alloc _ ?_ | refine Below.drew ?_ | exact Below.refl _ _))) (small_sub scx sdx) (small_sub say sdy)).mono ?_; rintro e y3 ⟨m3, v3, j3, rfl, hg3, hb3⟩; obtain ⟨a3, d3, hv3⟩ := bg_form hg3; subst hv3; have hV3 : Below Z.heap.size Z y3 := below_step hb3 (by repeat (with_reducible first | refine Below.setCell ?_ (by first | (dsimp only; omega) | omega | (simp; done) | (simp; omega)) _ | refine below_alloc _ ?_ | refine Below.drew ?_ | exact hV2 | exact hV1 | exact Below.refl _ _)); have kz3 : Z.heap.size ≤ y3.heap.size := hV3.size; have kq3 := hb3.size; (try simp at kq3); (first | (have hrr := number_row hb3; obtain ⟨⟨r0, r1, f0, f1⟩, hrow⟩ := hrr) | (have hrr := number_row (below_step hb3 hb2); obtain ⟨⟨r0, r1, f0, f1⟩, hrow⟩ := hrr) | (have hrr := number_row (below_step hb3 (below_step hb2 hb1)); obtain ⟨⟨r0, r1, f0, f1⟩, hrow⟩ := hrr) | (have hrr := number_row (below_step hb3 (below_step hb2 (below_step hb1 (Below.refl _ _).drew))); obtain ⟨⟨r0, r1, f0, f1⟩, hrow⟩ := hrr) | skip))))
        all_goals
          go_wp2_with fail
          go_meet
          first
            | exact ⟨_, m3, _, j3, rfl, ⟨by simp [go_sem, r0], by simp [go_sem, r1]⟩, hg3.store2 hrow, (by first | exact Nat.le_refl _ | exact hV1.size | exact hV2.size | exact hV3.size), by first | (simp; done) | (simp; omega), (hV3.setCell (by first | exact Nat.le_refl _ | exact hV1.size | exact hV2.size | exact hV3.size) _).setCell (by first | exact Nat.le_refl _ | exact hV1.size | exact hV2.size | exact hV3.size) _⟩
            | exact ⟨_, m3, _, j3, rfl, ⟨by simp [go_sem], by simp [go_sem]⟩, hg3.kept ((Below.refl _ _).alloc (Nat.le_refl _) _), hV3.size, by simp, hV3.alloc hV3.size _⟩
      case rest =>
        obtain ⟨r14, n14, v14', l14, hv14, c14, hg14, hr14, hr14', hbc⟩ := hcut
        subst hv14
        obtain ⟨a14, d14, hf14⟩ := bg_form hg14
        subst hf14
        obtain ⟨wx, hwx⟩ : ∃ wx, wx = wc := ⟨_, rfl⟩
        subst hwx
        have hwX : Below w.heap.size w wx := hwZ.trans (hbc.mono hwZ.size)
        have KT : ∀ w', Below wx.heap.size wx w' → (w'.cell? ⟨wr.heap.size, 0, none⟩ = some (.bool ncx) ∧ w'.cell? ⟨wr.heap.size, 1, none⟩ = some (.slice ocx lcx.length kcx) ∧ w'.cell? ⟨wr.heap.size, 2, none⟩ = some (.bool ncy) ∧ w'.cell? ⟨wr.heap.size, 3, none⟩ = some (.slice ocy lcy.length kcy) ∧ w'.cell? ⟨wr.heap.size + 1, 0, none⟩ = some (.bool nax) ∧ w'.cell? ⟨wr.heap.size + 1, 1, none⟩ = some (.slice oax lax.length kax) ∧ w'.cell? ⟨wr.heap.size + 1, 2, none⟩ = some (.bool nay) ∧ w'.cell? ⟨wr.heap.size + 1, 3, none⟩ = some (.slice oay lay.length kay) ∧ w'.cell? ⟨w.heap.size + 1 + 1 + 1, 0, none⟩ = some (.bool ndx) ∧ w'.cell? ⟨w.heap.size + 1 + 1 + 1, 1, none⟩ = some (.slice odx ldx.length kdx) ∧ w'.cell? ⟨w.heap.size + 1 + 1 + 1, 2, none⟩ = some (.bool ndy) ∧ w'.cell? ⟨w.heap.size + 1 + 1 + 1, 3, none⟩ = some (.slice ody ldy.length kdy)) := fun w' h => KZ w' (below_step h hbc)
        have hT0 := KT wx (Below.refl _ _)
        clear KZ hZ0
        go_wp2_with fail
        go_cut [15] from 21 to 70 (fun v15 wc => ∃ r nc vc lc, v15 = .pointer (some ⟨r, 0, none⟩) ∧ (wc.cell? ⟨r, 0, none⟩ = some (.bool nc) ∧ wc.cell? ⟨r, 1, none⟩ = some vc) ∧ Bg wc nc vc lc ((Xcy - Xdy) * (Xax - Xdx)) ∧ wx.heap.size ≤ r ∧ r < wc.heap.size ∧ Below wx.heap.size wx wc)
        case first =>
          clear c14 hg14
          go_region_held3 (fun w' : World => (w'.cell? ⟨wr.heap.size, 0, none⟩ = some (.bool ncx) ∧ w'.cell? ⟨wr.heap.size, 1, none⟩ = some (.slice ocx lcx.length kcx) ∧ w'.cell? ⟨wr.heap.size, 2, none⟩ = some (.bool ncy) ∧ w'.cell? ⟨wr.heap.size, 3, none⟩ = some (.slice ocy lcy.length kcy) ∧ w'.cell? ⟨wr.heap.size + 1, 0, none⟩ = some (.bool nax) ∧ w'.cell? ⟨wr.heap.size + 1, 1, none⟩ = some (.slice oax lax.length kax) ∧ w'.cell? ⟨wr.heap.size + 1, 2, none⟩ = some (.bool nay) ∧ w'.cell? ⟨wr.heap.size + 1, 3, none⟩ = some (.slice oay lay.length kay) ∧ w'.cell? ⟨w.heap.size + 1 + 1 + 1, 0, none⟩ = some (.bool ndx) ∧ w'.cell? ⟨w.heap.size + 1 + 1 + 1, 1, none⟩ = some (.slice odx ldx.length kdx) ∧ w'.cell? ⟨w.heap.size + 1 + 1 + 1, 2, none⟩ = some (.bool ndy) ∧ w'.cell? ⟨w.heap.size + 1 + 1 + 1, 3, none⟩ = some (.slice ody ldy.length kdy))) (exact KT _ (by repeat (with_reducible first | refine Below.setCell ?_ (by first | (dsimp only; omega) | omega | (simp; done) | (simp; omega)) _ | refine below_alloc _ ?_ | refine Below.drew ?_ | exact hX3 | exact hX2 | exact hX1 | exact Below.refl _ _))) (first | (go_at_call 23; have g1 := hb1; go_must (refine (less_bg nax ndx _ _ lax ldx Xax Xdx _ (hax.kept (hwX.trans (Below.mono (B := wx.heap.size) (by repeat (with_reducible first | refine Below.setCell ?_ (by first | (dsimp only; omega) | omega | (simp; done) | (simp; omega)) _ | refine below_alloc _ ?_ | refine Below.drew ?_ | exact hX1 | exact Below.refl _ _)) hwX.size))) (hdx.kept (hwX.trans (Below.mono (B := wx.heap.size) (by repeat (with_reducible first | refine Below.setCell ?_ (by first | (dsimp only; omega) | omega | (simp; done) | (simp; omega)) _ | refine below_alloc _ ?_ | refine Below.drew ?_ | exact hX1 | exact Below.refl _ _)) hwX.size))) (small200 sax) (small200 sdx)).mono ?_; rintro e z2 ⟨m2, v2, j2, rfl, hg2, hb2⟩; obtain ⟨a2, d2, hv2⟩ := bg_form hg2; subst hv2; have hX2 : Below wx.heap.size wx z2 := below_step hb2 (by repeat (with_reducible first | refine Below.setCell ?_ (by first | (dsimp only; omega) | omega | (simp; done) | (simp; omega)) _ | refine below_alloc _ ?_ | refine Below.drew ?_ | exact hX1 | exact Below.refl _ _)); have kz2 : wx.heap.size ≤ z2.heap.size := hX2.size; have kq2 := hb2.size; (try simp at kq2))) | (go_at_call 23; go_must (refine (less_bg ncy ndy _ _ lcy ldy Xcy Xdy _ (hcy.kept (hwX.trans (Below.mono (B := wx.heap.size) (by repeat (with_reducible first | refine Below.setCell ?_ (by first | (dsimp only; omega) | omega | (simp; done) | (simp; omega)) _ | refine below_alloc _ ?_ | refine Below.drew ?_ | exact Below.refl _ _)) hwX.size))) (hdy.kept (hwX.trans (Below.mono (B := wx.heap.size) (by repeat (with_reducible first | refine Below.setCell ?_ (by first | (dsimp only; omega) | omega | (simp; done) | (simp; omega)) _ | refine below_alloc _ ?_ | refine Below.drew ?_ | exact Below.refl _ _)) hwX.size))) (small200 scy) (small200 sdy)).mono ?_; rintro e z1 ⟨m1, v1, j1, rfl, hg1, hb1⟩; obtain ⟨a1, d1, hv1⟩ := bg_form hg1; subst hv1; have hX1 : Below wx.heap.size wx z1 := below_step hb1 (by repeat (with_reducible first | refine Below.setCell ?_ (by first | (dsimp only; omega) | omega | (simp; done) | (simp; omega)) _ | refine below_alloc _ ?_ | refine Below.drew ?_ | exact Below.refl _ _)); have kz1 : wx.heap.size ≤ z1.heap.size := hX1.size; have kq1 := hb1.size; (try simp at kq1))) | (go_at_call 45; go_must (refine (times_bg m1 m2 _ _ j1 j2 _ _ _ ((hg1.kept (below_step hb2 (by repeat (with_reducible first | refine below_alloc _ ?_ | refine Below.drew ?_ | exact Below.refl _ _)))).kept (by repeat (with_reducible first | refine below_alloc _ ?_ | refine Below.drew ?_ | exact Below.refl _ _))) (hg2.kept (by repeat (with_reducible first | refine below_alloc _ ?_ | refine Below.drew ?_ | exact Below.refl _ _))) (small_sub scy sdy) (small_sub sax sdx)).mono ?_; rintro e z3 ⟨m3, v3, j3, rfl, hg3, hb3⟩; obtain ⟨a3, d3, hv3⟩ := bg_form hg3; subst hv3; have hX3 : Below wx.heap.size wx z3 := below_step hb3 (by repeat (with_reducible first | refine Below.setCell ?_ (by first | (dsimp only; omega) | omega | (simp; done) | (simp; omega)) _ | refine below_alloc _ ?_ | refine Below.drew ?_ | exact hX2 | exact hX1 | exact Below.refl _ _)); have kz3 : wx.heap.size ≤ z3.heap.size := hX3.size; have kq3 := hb3.size; (try simp at kq3); (first | (have hrr := number_row hb3; obtain ⟨⟨r0, r1, f0, f1⟩, hrow⟩ := hrr) | (have hrr := number_row (below_step hb3 hb2); obtain ⟨⟨r0, r1, f0, f1⟩, hrow⟩ := hrr) | (have hrr := number_row (below_step hb3 (below_step hb2 hb1)); obtain ⟨⟨r0, r1, f0, f1⟩, hrow⟩ := hrr) | (have hrr := number_row (below_step hb3 (below_step hb2 (below_step hb1 (Below.refl _ _).drew))); obtain ⟨⟨r0, r1, f0, f1⟩, hrow⟩ := hrr) | skip))))
          all_goals
            go_wp2_with fail
            go_meet
            first
              | exact ⟨_, m3, _, j3, rfl, ⟨by simp [go_sem, r0], by simp [go_sem, r1]⟩, hg3.store2 hrow, (by first | exact Nat.le_refl _ | exact hX1.size | exact hX2.size | exact hX3.size), by first | (simp; done) | (simp; omega), (hX3.setCell (by first | exact Nat.le_refl _ | exact hX1.size | exact hX2.size | exact hX3.size) _).setCell (by first | exact Nat.le_refl _ | exact hX1.size | exact hX2.size | exact hX3.size) _⟩
              | exact ⟨_, m3, _, j3, rfl, ⟨by simp [go_sem], by simp [go_sem]⟩, hg3.kept ((Below.refl _ _).alloc (Nat.le_refl _) _), hX3.size, by simp, hX3.alloc hX3.size _⟩
        case rest =>
          obtain ⟨r15, n15, v15', l15, hv15, c15, hg15, hr15, hr15', hbd⟩ := hcut
          subst hv15
          obtain ⟨a15, d15, hf15⟩ := bg_form hg15
          subst hf15
          obtain ⟨wy, hwy⟩ : ∃ wy, wy = wc := ⟨_, rfl⟩
          subst hwy
          have hwY : Below w.heap.size w wy := hwX.trans (hbd.mono hwX.size)
          have hry : Below wr.heap.size wr wy := below_step hbd (below_step hbc hrZ)
          have hC := R.at hAl hry
          have e140 := ((bcell hbd).1 r14 0 hr14').trans c14.1
          have e141 := ((bcell hbd).1 r14 1 hr14').trans c14.2
          replace hg14 := hg14.kept hbd
          have hrl : r14 < wy.heap.size := Nat.lt_of_lt_of_le hr14' hbd.size
          have KU : ∀ w' : World, (∀ b o, b < wy.heap.size → b ≠ w.heap.size + 1 + 1 + 1 + 1 + 1 → w'.cell? ⟨b, o, none⟩ = wy.cell? ⟨b, o, none⟩) → (w'.cell? ⟨w.heap.size + 1 + 1 + 1, 0, none⟩ = some (.bool ndx) ∧ w'.cell? ⟨w.heap.size + 1 + 1 + 1, 1, none⟩ = some (.slice odx ldx.length kdx) ∧ w'.cell? ⟨w.heap.size + 1 + 1 + 1, 2, none⟩ = some (.bool ndy) ∧ w'.cell? ⟨w.heap.size + 1 + 1 + 1, 3, none⟩ = some (.slice ody ldy.length kdy) ∧ w'.cell? ⟨w.heap.size + 1 + 1 + 1 + 1, 4, none⟩ = some (.bool nbx) ∧ w'.cell? ⟨w.heap.size + 1 + 1 + 1 + 1, 5, none⟩ = some (.slice obx lbx.length kbx) ∧ w'.cell? ⟨w.heap.size + 1 + 1 + 1 + 1, 6, none⟩ = some (.bool nby) ∧ w'.cell? ⟨w.heap.size + 1 + 1 + 1 + 1, 7, none⟩ = some (.slice oby lby.length kby) ∧ w'.cell? ⟨r14, 0, none⟩ = some (.bool n14) ∧ w'.cell? ⟨r14, 1, none⟩ = some (.slice a14 l14.length d14) ∧ w'.cell? ⟨r15, 0, none⟩ = some (.bool n15) ∧ w'.cell? ⟨r15, 1, none⟩ = some (.slice a15 l15.length d15)) := by
            intro w' hc
            obtain ⟨hd, hq⟩ := KD _ (below_stepD hry hAl R.bel)
            have hys := hC.size
            refine ⟨?_, ?_, ?_, ?_, ?_, ?_, ?_, ?_, ?_, ?_, ?_, ?_⟩
            · rw [hc _ _ (by omega) (by omega)]; exact hd.1
            · rw [hc _ _ (by omega) (by omega)]; exact hd.2.1
            · rw [hc _ _ (by omega) (by omega)]; exact hd.2.2.1
            · rw [hc _ _ (by omega) (by omega)]; exact hd.2.2.2
            · rw [hc _ _ (by omega) (by omega)]; exact hq.2.1.1
            · rw [hc _ _ (by omega) (by omega)]; exact hq.2.1.2.1
            · rw [hc _ _ (by omega) (by omega)]; exact hq.2.1.2.2.1
            · rw [hc _ _ (by omega) (by omega)]; exact hq.2.1.2.2.2
            · rw [hc _ _ (by omega) (by have := hrZ.size; have := hbc.size; omega)]; exact e140
            · rw [hc _ _ (by omega) (by have := hrZ.size; have := hbc.size; omega)]; exact e141
            · rw [hc _ _ (by omega) (by have := hrZ.size; have := hbc.size; omega)]; exact c15.1
            · rw [hc _ _ (by omega) (by have := hrZ.size; have := hbc.size; omega)]; exact c15.2
          have hU0 := KU wy (fun _ _ _ _ => rfl)
          have caY := hC.cs
          have HP : Hid (((Xcx - Xdx) * (Xay - Xdy)).natAbs < 2 ^ 402 ∧ ((Xcy - Xdy) * (Xax - Xdx)).natAbs < 2 ^ 402) := ⟨bprod_lt scx sdx say sdy, bprod_lt scy sdy sax sdx⟩
          have HQ : Hid ((((Xbx - Xdx) * (Xbx - Xdx) + (Xby - Xdy) * (Xby - Xdy))).natAbs < 2 ^ 403 ∧ ((Xcx - Xdx) * (Xay - Xdy) - (Xcy - Xdy) * (Xax - Xdx)).natAbs < 2 ^ 403) := ⟨sumsq_lt sbx sdx sby sdy, cross_lt scx sdx say sdy scy sdy sax sdx⟩
          clear KT hT0 e140 e141 c14 c15
          
          have KV : ∀ w' : World, Below wy.heap.size wy w' → (w'.cell? ⟨w.heap.size + 1 + 1 + 1, 0, none⟩ = some (.bool ndx) ∧ w'.cell? ⟨w.heap.size + 1 + 1 + 1, 1, none⟩ = some (.slice odx ldx.length kdx) ∧ w'.cell? ⟨w.heap.size + 1 + 1 + 1, 2, none⟩ = some (.bool ndy) ∧ w'.cell? ⟨w.heap.size + 1 + 1 + 1, 3, none⟩ = some (.slice ody ldy.length kdy) ∧ w'.cell? ⟨w.heap.size + 1 + 1 + 1 + 1, 4, none⟩ = some (.bool nbx) ∧ w'.cell? ⟨w.heap.size + 1 + 1 + 1 + 1, 5, none⟩ = some (.slice obx lbx.length kbx) ∧ w'.cell? ⟨w.heap.size + 1 + 1 + 1 + 1, 6, none⟩ = some (.bool nby) ∧ w'.cell? ⟨w.heap.size + 1 + 1 + 1 + 1, 7, none⟩ = some (.slice oby lby.length kby) ∧ w'.cell? ⟨r14, 0, none⟩ = some (.bool n14) ∧ w'.cell? ⟨r14, 1, none⟩ = some (.slice a14 l14.length d14) ∧ w'.cell? ⟨r15, 0, none⟩ = some (.bool n15) ∧ w'.cell? ⟨r15, 1, none⟩ = some (.slice a15 l15.length d15) ∧ w'.cell? ⟨w.heap.size + 1 + 1 + 1 + 1 + 1, 0, none⟩ = some (.bool n) ∧ w'.cell? ⟨w.heap.size + 1 + 1 + 1 + 1 + 1, 1, none⟩ = some (.slice ov ls.length kv)) := fun w' hb => (and_app12 (KU w' (fun b o h1 _ => (bcell hb).1 b o h1)) (hC.at hAl hb).cs)
          have hHeld := KV wy.drew (Below.refl _ _).drew
          go_wp2_with fail
          refine wp_region_K (S := fun w' : World => (w'.cell? ⟨w.heap.size + 1 + 1 + 1, 0, none⟩ = some (.bool ndx) ∧ w'.cell? ⟨w.heap.size + 1 + 1 + 1, 1, none⟩ = some (.slice odx ldx.length kdx) ∧ w'.cell? ⟨w.heap.size + 1 + 1 + 1, 2, none⟩ = some (.bool ndy) ∧ w'.cell? ⟨w.heap.size + 1 + 1 + 1, 3, none⟩ = some (.slice ody ldy.length kdy) ∧ w'.cell? ⟨w.heap.size + 1 + 1 + 1 + 1, 4, none⟩ = some (.bool nbx) ∧ w'.cell? ⟨w.heap.size + 1 + 1 + 1 + 1, 5, none⟩ = some (.slice obx lbx.length kbx) ∧ w'.cell? ⟨w.heap.size + 1 + 1 + 1 + 1, 6, none⟩ = some (.bool nby) ∧ w'.cell? ⟨w.heap.size + 1 + 1 + 1 + 1, 7, none⟩ = some (.slice oby lby.length kby) ∧ w'.cell? ⟨r14, 0, none⟩ = some (.bool n14) ∧ w'.cell? ⟨r14, 1, none⟩ = some (.slice a14 l14.length d14) ∧ w'.cell? ⟨r15, 0, none⟩ = some (.bool n15) ∧ w'.cell? ⟨r15, 1, none⟩ = some (.slice a15 l15.length d15) ∧ w'.cell? ⟨w.heap.size + 1 + 1 + 1 + 1 + 1, 0, none⟩ = some (.bool n) ∧ w'.cell? ⟨w.heap.size + 1 + 1 + 1 + 1 + 1, 1, none⟩ = some (.slice ov ls.length kv))) (L := 12) (by kernel_rfl) ?_
          refine wpAnyK_take (i := 0) (v := ?_) rfl (by kernel_rfl) (by kernel_rfl) (by kernel_rfl) (by kernel_rfl) (fun _ _ _ h => h) (Or.inl ⟨by rfl, ?_⟩) hHeld ?_
          rotate_left 1
          · (intro w hSw; (try dsimp only at hSw); go_simp; try with_reducible rfl)
          (try simp only [Act.put, List.setIfInBounds_toArray])
          refine wpAnyK_take (i := 1) (v := ?_) rfl (by kernel_rfl) (by kernel_rfl) (by kernel_rfl) (by kernel_rfl) (fun _ _ _ h => h) (Or.inl ⟨by rfl, ?_⟩) hHeld ?_
          rotate_left 1
          · (intro w hSw; (try dsimp only at hSw); go_simp; try with_reducible rfl)
          (try simp only [Act.put])
          refine wpAnyK_take (i := 2) (v := ?_) rfl (by kernel_rfl) (by kernel_rfl) (by kernel_rfl) (by kernel_rfl) (fun _ _ _ h => h) (Or.inl ⟨by rfl, ?_⟩) hHeld ?_
          rotate_left 1
          · (intro w hSw; (try dsimp only at hSw); go_simp; try with_reducible rfl)
          (try simp only [Act.put])
          refine wpAnyK_take (i := 3) (v := ?_) rfl (by kernel_rfl) (by kernel_rfl) (by kernel_rfl) (by kernel_rfl) (fun _ _ _ h => h) (Or.inl ⟨by rfl, ?_⟩) hHeld ?_
          rotate_left 1
          · (intro w hSw; (try dsimp only at hSw); go_simp; try with_reducible rfl)
          (try simp only [Act.put])
          refine wpAnyK_take (i := 4) (v := ?_) rfl (by kernel_rfl) (by kernel_rfl) (by kernel_rfl) (by kernel_rfl) (fun _ _ _ h => h) (Or.inl ⟨by rfl, ?_⟩) hHeld ?_
          rotate_left 1
          · (intro w hSw; (try dsimp only at hSw); go_simp; try with_reducible rfl)
          (try simp only [Act.put])
          refine wpAnyK_take (i := 5) (v := ?_) rfl (by kernel_rfl) (by kernel_rfl) (by kernel_rfl) (by kernel_rfl) (fun _ _ _ h => h) (Or.inl ⟨by rfl, ?_⟩) hHeld ?_
          rotate_left 1
          · (intro w hSw; (try dsimp only at hSw); go_simp; try with_reducible rfl)
          (try simp only [Act.put])
          refine wpAnyK_take (i := 7) (v := ?_) rfl (by kernel_rfl) (by kernel_rfl) (by kernel_rfl) (by kernel_rfl) (fun _ _ _ h => h) (Or.inl ⟨by rfl, ?_⟩) hHeld ?_
          rotate_left 1
          · (intro w hSw; (try dsimp only at hSw); go_simp; try with_reducible rfl)
          (try simp only [Act.put])
          refine wpAnyK_take (i := 8) (v := ?_) rfl (by kernel_rfl) (by kernel_rfl) (by kernel_rfl) (by kernel_rfl) (fun _ _ _ h => h) (Or.inl ⟨by rfl, ?_⟩) hHeld ?_
          rotate_left 1
          · (intro w hSw; (try dsimp only at hSw); go_simp; try with_reducible rfl)
          (try simp only [Act.put])
          refine wpAnyK_step (i := 6) (by kernel_rfl) rfl (fun K hK => ?_)
          go_simp
          (go_at_call 24; go_must (refine (rsquare_any ndx odx kdx ldx Xdx ndy ody kdy ldy Xdy nbx obx kbx lbx Xbx nby oby kby lby Xby _ (hdx.kept (hwY.trans (Below.mono (B := wy.heap.size) (by repeat (with_reducible first | refine Below.setCell ?_ (by first | (dsimp only; omega) | omega | (simp; done) | (simp; omega)) _ | refine below_alloc _ ?_ | refine Below.drew ?_ | exact Below.refl _ _)) hwY.size))) sdx (hdy.kept (hwY.trans (Below.mono (B := wy.heap.size) (by repeat (with_reducible first | refine Below.setCell ?_ (by first | (dsimp only; omega) | omega | (simp; done) | (simp; omega)) _ | refine below_alloc _ ?_ | refine Below.drew ?_ | exact Below.refl _ _)) hwY.size))) sdy (hbx.kept (hwY.trans (Below.mono (B := wy.heap.size) (by repeat (with_reducible first | refine Below.setCell ?_ (by first | (dsimp only; omega) | omega | (simp; done) | (simp; omega)) _ | refine below_alloc _ ?_ | refine Below.drew ?_ | exact Below.refl _ _)) hwY.size))) sbx (hby.kept (hwY.trans (Below.mono (B := wy.heap.size) (by repeat (with_reducible first | refine Below.setCell ?_ (by first | (dsimp only; omega) | omega | (simp; done) | (simp; omega)) _ | refine below_alloc _ ?_ | refine Below.drew ?_ | exact Below.refl _ _)) hwY.size))) sby).mono ?_; rintro e t1 ⟨m1, v1, j1, rfl, hg1, hb1⟩; obtain ⟨a1, d1, hv1⟩ := bg_form hg1; subst hv1; have hY1 : Below wy.heap.size wy t1 := below_step hb1 (by repeat (with_reducible first | refine Below.setCell ?_ (by first | (dsimp only; omega) | omega | (simp; done) | (simp; omega)) _ | refine below_alloc _ ?_ | refine Below.drew ?_ | exact Below.refl _ _)); have kz1 : wy.heap.size ≤ t1.heap.size := hY1.size; have kq1 := hb1.size; (try simp at kq1)))
          (try go_wp2_with fail)
          refine hK.out _ _ (fun _ => KV _ hY1) ?_
          clear hK K
          (try simp only [Act.put, List.setIfInBounds_toArray, List.set_cons_zero, List.set_cons_succ])
          refine wpAnyK_step (i := 9) (by kernel_rfl) rfl (fun K hK => ?_)
          go_simp
          (go_at_call 23; go_must (refine (less_bg n14 n15 _ _ l14 l15 _ _ _ (hg14.kept hY1) (hg15.kept hY1) (small_of HP.out.1 (by decide)) (small_of HP.out.2 (by decide))).mono ?_; rintro e t2 ⟨m2, v2, j2, rfl, hg2, hb2⟩; obtain ⟨a2, d2, hv2⟩ := bg_form hg2; subst hv2; have hY2 : Below wy.heap.size wy t2 := below_step hb2 (by repeat (with_reducible first | refine Below.setCell ?_ (by first | (dsimp only; omega) | omega | (simp; done) | (simp; omega)) _ | refine below_alloc _ ?_ | refine Below.drew ?_ | exact hY1 | exact Below.refl _ _)); have kz2 : wy.heap.size ≤ t2.heap.size := hY2.size; have kq2 := hb2.size; (try simp at kq2)))
          (try go_wp2_with fail)
          refine hK.out _ _ (fun _ => KV _ hY2) ?_
          clear hK K
          (try simp only [Act.put, List.setIfInBounds_toArray, List.set_cons_zero, List.set_cons_succ])
          refine wpAnyK_step (i := 10) (by kernel_rfl) rfl (fun K hK => ?_)
          go_simp
          (go_at_call 45; go_must (refine (times_bg m1 m2 _ _ j1 j2 _ _ _ (hg1.kept hb2) hg2 (small_of HQ.out.1 (by decide)) (small_of HQ.out.2 (by decide))).mono ?_; rintro e t3 ⟨m3, v3, j3, rfl, hg3, hb3⟩; obtain ⟨a3, d3, hv3⟩ := bg_form hg3; subst hv3; have hY3 : Below wy.heap.size wy t3 := below_step hb3 (by repeat (with_reducible first | refine Below.setCell ?_ (by first | (dsimp only; omega) | omega | (simp; done) | (simp; omega)) _ | refine below_alloc _ ?_ | refine Below.drew ?_ | exact hY2 | exact hY1 | exact Below.refl _ _)); have kz3 : wy.heap.size ≤ t3.heap.size := hY3.size; have kq3 := hb3.size; (try simp at kq3); rw [← HE1.out] at hg3))
          (try go_wp2_with fail)
          refine hK.out _ _ (fun _ => KV _ hY3) ?_
          clear hK K
          (try simp only [Act.put, List.setIfInBounds_toArray, List.set_cons_zero, List.set_cons_succ])
          refine wpAnyK_step (i := 11) (by kernel_rfl) rfl (fun K hK => ?_)
          go_simp
          (go_at_call 46; go_must (refine (sum_bg n m3 _ _ ls j3 _ _ _ (hC.at hAl hY3).bg hg3 (small_of (circS_lt HT0.out HT1.out HT2.out 1) (by decide)) (small_of HT1.out (by decide))).mono ?_; rintro e t4 ⟨m4, v4, j4, rfl, hg4, hb4⟩; obtain ⟨a4, d4, hv4⟩ := bg_form hg4; subst hv4; have hY4 : Below wy.heap.size wy t4 := below_step hb4 (by repeat (with_reducible first | refine Below.setCell ?_ (by first | (dsimp only; omega) | omega | (simp; done) | (simp; omega)) _ | refine below_alloc _ ?_ | refine Below.drew ?_ | exact hY3 | exact hY2 | exact hY1 | exact Below.refl _ _)); have kz4 : wy.heap.size ≤ t4.heap.size := hY4.size; have kq4 := hb4.size; (try simp at kq4)))
          (try go_wp2_with fail)
          refine hK.out _ _ (fun _ => KV _ hY4) ?_
          clear hK K
          (try simp only [Act.put, List.setIfInBounds_toArray, List.set_cons_zero, List.set_cons_succ])
          have hC4 := hC.at hAl hY4
          have ca4 := hC4.cs
          have fa4 := hC4.fr
          refine wpAnyK_step (i := 12) (by kernel_rfl) rfl (fun K hK => ?_)
          go_simp
          (try go_wp2_with fail)
          refine hK.out _ _ (fun h => absurd rfl h) ?_
          clear hK K
          refine wpAnyK_done (by kernel_rfl) ?_ _
          have hg5 : Bg t4 m4 (.slice a4 j4.length d4) j4 (circS T0 T1 T2 2) := hg4
          have hC5 := hC4.put hAl hg5
          clear KU hU0 hC hC4
          go_wp2_with fail
          go_roundw
          case rel => exact ⟨2, m4, _, j4, rfl, by omega, hC5⟩
          case measure => simp [intOf]
    | 2, _ =>
      go_wp2_with fail
      generalize hZ : World.alloc (World.alloc wr _) _ = Z
      have hZs : Z.heap.size = wr.heap.size + 2 := by subst hZ; simp
      have hrZ : Below wr.heap.size wr Z := by subst hZ; exact ((Below.refl _ wr).alloc (Nat.le_refl _) _).alloc (by simp) _
      have hwZ : Below w.heap.size w Z := hwr.trans (hrZ.mono hwr.size)
      have KZ : ∀ w', Below Z.heap.size Z w' → (w'.cell? ⟨wr.heap.size, 0, none⟩ = some (.bool nax) ∧ w'.cell? ⟨wr.heap.size, 1, none⟩ = some (.slice oax lax.length kax) ∧ w'.cell? ⟨wr.heap.size, 2, none⟩ = some (.bool nay) ∧ w'.cell? ⟨wr.heap.size, 3, none⟩ = some (.slice oay lay.length kay) ∧ w'.cell? ⟨wr.heap.size + 1, 0, none⟩ = some (.bool nbx) ∧ w'.cell? ⟨wr.heap.size + 1, 1, none⟩ = some (.slice obx lbx.length kbx) ∧ w'.cell? ⟨wr.heap.size + 1, 2, none⟩ = some (.bool nby) ∧ w'.cell? ⟨wr.heap.size + 1, 3, none⟩ = some (.slice oby lby.length kby) ∧ w'.cell? ⟨w.heap.size + 1 + 1 + 1, 0, none⟩ = some (.bool ndx) ∧ w'.cell? ⟨w.heap.size + 1 + 1 + 1, 1, none⟩ = some (.slice odx ldx.length kdx) ∧ w'.cell? ⟨w.heap.size + 1 + 1 + 1, 2, none⟩ = some (.bool ndy) ∧ w'.cell? ⟨w.heap.size + 1 + 1 + 1, 3, none⟩ = some (.slice ody ldy.length kdy)) := by
        intro w' hb
        obtain ⟨hc, _⟩ := bcell hb
        have hd := (KD _ (below_stepD (below_step hb hrZ) hAl R.bel)).1
        refine ⟨?_, ?_, ?_, ?_, ?_, ?_, ?_, ?_, hd.1, hd.2.1, hd.2.2.1, hd.2.2.2⟩
        all_goals (rw [hc _ _ (by omega)]; subst hZ; simp [go_sem])
      clear hZ hZs
      have hZ0 := KZ Z (Below.refl _ _)
      go_cut [14] from 21 to 70 (fun v14 wc => ∃ r nc vc lc, v14 = .pointer (some ⟨r, 0, none⟩) ∧ (wc.cell? ⟨r, 0, none⟩ = some (.bool nc) ∧ wc.cell? ⟨r, 1, none⟩ = some vc) ∧ Bg wc nc vc lc ((Xax - Xdx) * (Xby - Xdy)) ∧ Z.heap.size ≤ r ∧ r < wc.heap.size ∧ Below Z.heap.size Z wc)
      case first =>
        
        go_region_held3 (fun w' : World => (w'.cell? ⟨wr.heap.size, 0, none⟩ = some (.bool nax) ∧ w'.cell? ⟨wr.heap.size, 1, none⟩ = some (.slice oax lax.length kax) ∧ w'.cell? ⟨wr.heap.size, 2, none⟩ = some (.bool nay) ∧ w'.cell? ⟨wr.heap.size, 3, none⟩ = some (.slice oay lay.length kay) ∧ w'.cell? ⟨wr.heap.size + 1, 0, none⟩ = some (.bool nbx) ∧ w'.cell? ⟨wr.heap.size + 1, 1, none⟩ = some (.slice obx lbx.length kbx) ∧ w'.cell? ⟨wr.heap.size + 1, 2, none⟩ = some (.bool nby) ∧ w'.cell? ⟨wr.heap.size + 1, 3, none⟩ = some (.slice oby lby.length kby) ∧ w'.cell? ⟨w.heap.size + 1 + 1 + 1, 0, none⟩ = some (.bool ndx) ∧ w'.cell? ⟨w.heap.size + 1 + 1 + 1, 1, none⟩ = some (.slice odx ldx.length kdx) ∧ w'.cell? ⟨w.heap.size + 1 + 1 + 1, 2, none⟩ = some (.bool ndy) ∧ w'.cell? ⟨w.heap.size + 1 + 1 + 1, 3, none⟩ = some (.slice ody ldy.length kdy))) (exact KZ _ (by repeat (with_reducible first | refine Below.setCell ?_ (by first | (dsimp only; omega) | omega | (simp; done) | (simp; omega)) _ | refine below_alloc _ ?_ | refine Below.drew ?_ | exact hV3 | exact hV2 | exact hV1 | exact Below.refl _ _))) (first | (go_at_call 23; have g1 := hb1; go_must (refine (less_bg nby ndy _ _ lby ldy Xby Xdy _ (hby.kept (hwZ.trans (Below.mono (B := Z.heap.size) (by repeat (with_reducible first | refine Below.setCell ?_ (by first | (dsimp only; omega) | omega | (simp; done) | (simp; omega)) _ | refine below_alloc _ ?_ | refine Below.drew ?_ | exact hV1 | exact Below.refl _ _)) hwZ.size))) (hdy.kept (hwZ.trans (Below.mono (B := Z.heap.size) (by repeat (with_reducible first | refine Below.setCell ?_ (by first | (dsimp only; omega) | omega | (simp; done) | (simp; omega)) _ | refine below_alloc _ ?_ | refine Below.drew ?_ | exact hV1 | exact Below.refl _ _)) hwZ.size))) (small200 sby) (small200 sdy)).mono ?_; rintro e y2 ⟨m2, v2, j2, rfl, hg2, hb2⟩; obtain ⟨a2, d2, hv2⟩ := bg_form hg2; subst hv2; have hV2 : Below Z.heap.size Z y2 := below_step hb2 (by repeat (with_reducible first | refine Below.setCell ?_ (by first | (dsimp only; omega) | omega | (simp; done) | (simp; omega)) _ | refine below_alloc _ ?_ | refine Below.drew ?_ | exact hV1 | exact Below.refl _ _)); have kz2 : Z.heap.size ≤ y2.heap.size := hV2.size; have kq2 := hb2.size; (try simp at kq2))) | (go_at_call 23; go_must (refine (less_bg nax ndx _ _ lax ldx Xax Xdx _ (hax.kept (hwZ.trans (Below.mono (B := Z.heap.size) (by repeat (with_reducible first | refine Below.setCell ?_ (by first | (dsimp only; omega) | omega | (simp; done) | (simp; omega)) _ | refine below_alloc _ ?_ | refine Below.drew ?_ | exact Below.refl _ _)) hwZ.size))) (hdx.kept (hwZ.trans (Below.mono (B := Z.heap.size) (by repeat (with_reducible first | refine Below.setCell ?_ (by first | (dsimp only; omega) | omega | (simp; done) | (simp; omega)) _ | refine below_alloc _ ?_ | refine Below.drew ?_ | exact Below.refl _ _)) hwZ.size))) (small200 sax) (small200 sdx)).mono ?_; rintro e y1 ⟨m1, v1, j1, rfl, hg1, hb1⟩; obtain ⟨a1, d1, hv1⟩ := bg_form hg1; subst hv1; have hV1 : Below Z.heap.size Z y1 := below_step hb1 (by repeat (with_reducible first | refine Below.setCell ?_ (by first | (dsimp only; omega) | omega | (simp; done) | (simp; omega)) _ | refine below_alloc _ ?_ | refine Below.drew ?_ | exact Below.refl _ _)); have kz1 : Z.heap.size ≤ y1.heap.size := hV1.size; have kq1 := hb1.size; (try simp at kq1))) | (go_at_call 45; go_must (refine (times_bg m1 m2 _ _ j1 j2 _ _ _ ((hg1.kept (below_step hb2 (by repeat (with_reducible first | refine below_alloc _ ?_ | refine Below.drew ?_ | exact Below.refl _ _)))).kept (by repeat (with_reducible first | refine below_alloc _ ?_ | refine Below.drew ?_ | exact Below.refl _ _))) (hg2.kept (by repeat (with_reducible first | refine below_alloc _ ?_ | refine Below.drew ?_ | exact Below.refl _ _))) (small_sub sax sdx) (small_sub sby sdy)).mono ?_; rintro e y3 ⟨m3, v3, j3, rfl, hg3, hb3⟩; obtain ⟨a3, d3, hv3⟩ := bg_form hg3; subst hv3; have hV3 : Below Z.heap.size Z y3 := below_step hb3 (by repeat (with_reducible first | refine Below.setCell ?_ (by first | (dsimp only; omega) | omega | (simp; done) | (simp; omega)) _ | refine below_alloc _ ?_ | refine Below.drew ?_ | exact hV2 | exact hV1 | exact Below.refl _ _)); have kz3 : Z.heap.size ≤ y3.heap.size := hV3.size; have kq3 := hb3.size; (try simp at kq3); (first | (have hrr := number_row hb3; obtain ⟨⟨r0, r1, f0, f1⟩, hrow⟩ := hrr) | (have hrr := number_row (below_step hb3 hb2); obtain ⟨⟨r0, r1, f0, f1⟩, hrow⟩ := hrr) | (have hrr := number_row (below_step hb3 (below_step hb2 hb1)); obtain ⟨⟨r0, r1, f0, f1⟩, hrow⟩ := hrr) | (have hrr := number_row (below_step hb3 (below_step hb2 (below_step hb1 (Below.refl _ _).drew))); obtain ⟨⟨r0, r1, f0, f1⟩, hrow⟩ := hrr) | skip))))
        all_goals
          go_wp2_with fail
          go_meet
          first
            | exact ⟨_, m3, _, j3, rfl, ⟨by simp [go_sem, r0], by simp [go_sem, r1]⟩, hg3.store2 hrow, (by first | exact Nat.le_refl _ | exact hV1.size | exact hV2.size | exact hV3.size), by first | (simp; done) | (simp; omega), (hV3.setCell (by first | exact Nat.le_refl _ | exact hV1.size | exact hV2.size | exact hV3.size) _).setCell (by first | exact Nat.le_refl _ | exact hV1.size | exact hV2.size | exact hV3.size) _⟩
            | exact ⟨_, m3, _, j3, rfl, ⟨by simp [go_sem], by simp [go_sem]⟩, hg3.kept ((Below.refl _ _).alloc (Nat.le_refl _) _), hV3.size, by simp, hV3.alloc hV3.size _⟩
      case rest =>
        obtain ⟨r14, n14, v14', l14, hv14, c14, hg14, hr14, hr14', hbc⟩ := hcut
        subst hv14
        obtain ⟨a14, d14, hf14⟩ := bg_form hg14
        subst hf14
        obtain ⟨wx, hwx⟩ : ∃ wx, wx = wc := ⟨_, rfl⟩
        subst hwx
        have hwX : Below w.heap.size w wx := hwZ.trans (hbc.mono hwZ.size)
        have KT : ∀ w', Below wx.heap.size wx w' → (w'.cell? ⟨wr.heap.size, 0, none⟩ = some (.bool nax) ∧ w'.cell? ⟨wr.heap.size, 1, none⟩ = some (.slice oax lax.length kax) ∧ w'.cell? ⟨wr.heap.size, 2, none⟩ = some (.bool nay) ∧ w'.cell? ⟨wr.heap.size, 3, none⟩ = some (.slice oay lay.length kay) ∧ w'.cell? ⟨wr.heap.size + 1, 0, none⟩ = some (.bool nbx) ∧ w'.cell? ⟨wr.heap.size + 1, 1, none⟩ = some (.slice obx lbx.length kbx) ∧ w'.cell? ⟨wr.heap.size + 1, 2, none⟩ = some (.bool nby) ∧ w'.cell? ⟨wr.heap.size + 1, 3, none⟩ = some (.slice oby lby.length kby) ∧ w'.cell? ⟨w.heap.size + 1 + 1 + 1, 0, none⟩ = some (.bool ndx) ∧ w'.cell? ⟨w.heap.size + 1 + 1 + 1, 1, none⟩ = some (.slice odx ldx.length kdx) ∧ w'.cell? ⟨w.heap.size + 1 + 1 + 1, 2, none⟩ = some (.bool ndy) ∧ w'.cell? ⟨w.heap.size + 1 + 1 + 1, 3, none⟩ = some (.slice ody ldy.length kdy)) := fun w' h => KZ w' (below_step h hbc)
        have hT0 := KT wx (Below.refl _ _)
        clear KZ hZ0
        go_wp2_with fail
        go_cut [15] from 21 to 70 (fun v15 wc => ∃ r nc vc lc, v15 = .pointer (some ⟨r, 0, none⟩) ∧ (wc.cell? ⟨r, 0, none⟩ = some (.bool nc) ∧ wc.cell? ⟨r, 1, none⟩ = some vc) ∧ Bg wc nc vc lc ((Xay - Xdy) * (Xbx - Xdx)) ∧ wx.heap.size ≤ r ∧ r < wc.heap.size ∧ Below wx.heap.size wx wc)
        case first =>
          clear c14 hg14
          go_region_held3 (fun w' : World => (w'.cell? ⟨wr.heap.size, 0, none⟩ = some (.bool nax) ∧ w'.cell? ⟨wr.heap.size, 1, none⟩ = some (.slice oax lax.length kax) ∧ w'.cell? ⟨wr.heap.size, 2, none⟩ = some (.bool nay) ∧ w'.cell? ⟨wr.heap.size, 3, none⟩ = some (.slice oay lay.length kay) ∧ w'.cell? ⟨wr.heap.size + 1, 0, none⟩ = some (.bool nbx) ∧ w'.cell? ⟨wr.heap.size + 1, 1, none⟩ = some (.slice obx lbx.length kbx) ∧ w'.cell? ⟨wr.heap.size + 1, 2, none⟩ = some (.bool nby) ∧ w'.cell? ⟨wr.heap.size + 1, 3, none⟩ = some (.slice oby lby.length kby) ∧ w'.cell? ⟨w.heap.size + 1 + 1 + 1, 0, none⟩ = some (.bool ndx) ∧ w'.cell? ⟨w.heap.size + 1 + 1 + 1, 1, none⟩ = some (.slice odx ldx.length kdx) ∧ w'.cell? ⟨w.heap.size + 1 + 1 + 1, 2, none⟩ = some (.bool ndy) ∧ w'.cell? ⟨w.heap.size + 1 + 1 + 1, 3, none⟩ = some (.slice ody ldy.length kdy))) (exact KT _ (by repeat (with_reducible first | refine Below.setCell ?_ (by first | (dsimp only; omega) | omega | (simp; done) | (simp; omega)) _ | refine below_alloc _ ?_ | refine Below.drew ?_ | exact hX3 | exact hX2 | exact hX1 | exact Below.refl _ _))) (first | (go_at_call 23; have g1 := hb1; go_must (refine (less_bg nbx ndx _ _ lbx ldx Xbx Xdx _ (hbx.kept (hwX.trans (Below.mono (B := wx.heap.size) (by repeat (with_reducible first | refine Below.setCell ?_ (by first | (dsimp only; omega) | omega | (simp; done) | (simp; omega)) _ | refine below_alloc _ ?_ | refine Below.drew ?_ | exact hX1 | exact Below.refl _ _)) hwX.size))) (hdx.kept (hwX.trans (Below.mono (B := wx.heap.size) (by repeat (with_reducible first | refine Below.setCell ?_ (by first | (dsimp only; omega) | omega | (simp; done) | (simp; omega)) _ | refine below_alloc _ ?_ | refine Below.drew ?_ | exact hX1 | exact Below.refl _ _)) hwX.size))) (small200 sbx) (small200 sdx)).mono ?_; rintro e z2 ⟨m2, v2, j2, rfl, hg2, hb2⟩; obtain ⟨a2, d2, hv2⟩ := bg_form hg2; subst hv2; have hX2 : Below wx.heap.size wx z2 := below_step hb2 (by repeat (with_reducible first | refine Below.setCell ?_ (by first | (dsimp only; omega) | omega | (simp; done) | (simp; omega)) _ | refine below_alloc _ ?_ | refine Below.drew ?_ | exact hX1 | exact Below.refl _ _)); have kz2 : wx.heap.size ≤ z2.heap.size := hX2.size; have kq2 := hb2.size; (try simp at kq2))) | (go_at_call 23; go_must (refine (less_bg nay ndy _ _ lay ldy Xay Xdy _ (hay.kept (hwX.trans (Below.mono (B := wx.heap.size) (by repeat (with_reducible first | refine Below.setCell ?_ (by first | (dsimp only; omega) | omega | (simp; done) | (simp; omega)) _ | refine below_alloc _ ?_ | refine Below.drew ?_ | exact Below.refl _ _)) hwX.size))) (hdy.kept (hwX.trans (Below.mono (B := wx.heap.size) (by repeat (with_reducible first | refine Below.setCell ?_ (by first | (dsimp only; omega) | omega | (simp; done) | (simp; omega)) _ | refine below_alloc _ ?_ | refine Below.drew ?_ | exact Below.refl _ _)) hwX.size))) (small200 say) (small200 sdy)).mono ?_; rintro e z1 ⟨m1, v1, j1, rfl, hg1, hb1⟩; obtain ⟨a1, d1, hv1⟩ := bg_form hg1; subst hv1; have hX1 : Below wx.heap.size wx z1 := below_step hb1 (by repeat (with_reducible first | refine Below.setCell ?_ (by first | (dsimp only; omega) | omega | (simp; done) | (simp; omega)) _ | refine below_alloc _ ?_ | refine Below.drew ?_ | exact Below.refl _ _)); have kz1 : wx.heap.size ≤ z1.heap.size := hX1.size; have kq1 := hb1.size; (try simp at kq1))) | (go_at_call 45; go_must (refine (times_bg m1 m2 _ _ j1 j2 _ _ _ ((hg1.kept (below_step hb2 (by repeat (with_reducible first | refine below_alloc _ ?_ | refine Below.drew ?_ | exact Below.refl _ _)))).kept (by repeat (with_reducible first | refine below_alloc _ ?_ | refine Below.drew ?_ | exact Below.refl _ _))) (hg2.kept (by repeat (with_reducible first | refine below_alloc _ ?_ | refine Below.drew ?_ | exact Below.refl _ _))) (small_sub say sdy) (small_sub sbx sdx)).mono ?_; rintro e z3 ⟨m3, v3, j3, rfl, hg3, hb3⟩; obtain ⟨a3, d3, hv3⟩ := bg_form hg3; subst hv3; have hX3 : Below wx.heap.size wx z3 := below_step hb3 (by repeat (with_reducible first | refine Below.setCell ?_ (by first | (dsimp only; omega) | omega | (simp; done) | (simp; omega)) _ | refine below_alloc _ ?_ | refine Below.drew ?_ | exact hX2 | exact hX1 | exact Below.refl _ _)); have kz3 : wx.heap.size ≤ z3.heap.size := hX3.size; have kq3 := hb3.size; (try simp at kq3); (first | (have hrr := number_row hb3; obtain ⟨⟨r0, r1, f0, f1⟩, hrow⟩ := hrr) | (have hrr := number_row (below_step hb3 hb2); obtain ⟨⟨r0, r1, f0, f1⟩, hrow⟩ := hrr) | (have hrr := number_row (below_step hb3 (below_step hb2 hb1)); obtain ⟨⟨r0, r1, f0, f1⟩, hrow⟩ := hrr) | (have hrr := number_row (below_step hb3 (below_step hb2 (below_step hb1 (Below.refl _ _).drew))); obtain ⟨⟨r0, r1, f0, f1⟩, hrow⟩ := hrr) | skip))))
          all_goals
            go_wp2_with fail
            go_meet
            first
              | exact ⟨_, m3, _, j3, rfl, ⟨by simp [go_sem, r0], by simp [go_sem, r1]⟩, hg3.store2 hrow, (by first | exact Nat.le_refl _ | exact hX1.size | exact hX2.size | exact hX3.size), by first | (simp; done) | (simp; omega), (hX3.setCell (by first | exact Nat.le_refl _ | exact hX1.size | exact hX2.size | exact hX3.size) _).setCell (by first | exact Nat.le_refl _ | exact hX1.size | exact hX2.size | exact hX3.size) _⟩
              | exact ⟨_, m3, _, j3, rfl, ⟨by simp [go_sem], by simp [go_sem]⟩, hg3.kept ((Below.refl _ _).alloc (Nat.le_refl _) _), hX3.size, by simp, hX3.alloc hX3.size _⟩
        case rest =>
          obtain ⟨r15, n15, v15', l15, hv15, c15, hg15, hr15, hr15', hbd⟩ := hcut
          subst hv15
          obtain ⟨a15, d15, hf15⟩ := bg_form hg15
          subst hf15
          obtain ⟨wy, hwy⟩ : ∃ wy, wy = wc := ⟨_, rfl⟩
          subst hwy
          have hwY : Below w.heap.size w wy := hwX.trans (hbd.mono hwX.size)
          have hry : Below wr.heap.size wr wy := below_step hbd (below_step hbc hrZ)
          have hC := R.at hAl hry
          have e140 := ((bcell hbd).1 r14 0 hr14').trans c14.1
          have e141 := ((bcell hbd).1 r14 1 hr14').trans c14.2
          replace hg14 := hg14.kept hbd
          have hrl : r14 < wy.heap.size := Nat.lt_of_lt_of_le hr14' hbd.size
          have KU : ∀ w' : World, (∀ b o, b < wy.heap.size → b ≠ w.heap.size + 1 + 1 + 1 + 1 + 1 → w'.cell? ⟨b, o, none⟩ = wy.cell? ⟨b, o, none⟩) → (w'.cell? ⟨w.heap.size + 1 + 1 + 1, 0, none⟩ = some (.bool ndx) ∧ w'.cell? ⟨w.heap.size + 1 + 1 + 1, 1, none⟩ = some (.slice odx ldx.length kdx) ∧ w'.cell? ⟨w.heap.size + 1 + 1 + 1, 2, none⟩ = some (.bool ndy) ∧ w'.cell? ⟨w.heap.size + 1 + 1 + 1, 3, none⟩ = some (.slice ody ldy.length kdy) ∧ w'.cell? ⟨w.heap.size + 1 + 1 + 1 + 1, 8, none⟩ = some (.bool ncx) ∧ w'.cell? ⟨w.heap.size + 1 + 1 + 1 + 1, 9, none⟩ = some (.slice ocx lcx.length kcx) ∧ w'.cell? ⟨w.heap.size + 1 + 1 + 1 + 1, 10, none⟩ = some (.bool ncy) ∧ w'.cell? ⟨w.heap.size + 1 + 1 + 1 + 1, 11, none⟩ = some (.slice ocy lcy.length kcy) ∧ w'.cell? ⟨r14, 0, none⟩ = some (.bool n14) ∧ w'.cell? ⟨r14, 1, none⟩ = some (.slice a14 l14.length d14) ∧ w'.cell? ⟨r15, 0, none⟩ = some (.bool n15) ∧ w'.cell? ⟨r15, 1, none⟩ = some (.slice a15 l15.length d15)) := by
            intro w' hc
            obtain ⟨hd, hq⟩ := KD _ (below_stepD hry hAl R.bel)
            have hys := hC.size
            refine ⟨?_, ?_, ?_, ?_, ?_, ?_, ?_, ?_, ?_, ?_, ?_, ?_⟩
            · rw [hc _ _ (by omega) (by omega)]; exact hd.1
            · rw [hc _ _ (by omega) (by omega)]; exact hd.2.1
            · rw [hc _ _ (by omega) (by omega)]; exact hd.2.2.1
            · rw [hc _ _ (by omega) (by omega)]; exact hd.2.2.2
            · rw [hc _ _ (by omega) (by omega)]; exact hq.2.2.1
            · rw [hc _ _ (by omega) (by omega)]; exact hq.2.2.2.1
            · rw [hc _ _ (by omega) (by omega)]; exact hq.2.2.2.2.1
            · rw [hc _ _ (by omega) (by omega)]; exact hq.2.2.2.2.2
            · rw [hc _ _ (by omega) (by have := hrZ.size; have := hbc.size; omega)]; exact e140
            · rw [hc _ _ (by omega) (by have := hrZ.size; have := hbc.size; omega)]; exact e141
            · rw [hc _ _ (by omega) (by have := hrZ.size; have := hbc.size; omega)]; exact c15.1
            · rw [hc _ _ (by omega) (by have := hrZ.size; have := hbc.size; omega)]; exact c15.2
          have hU0 := KU wy (fun _ _ _ _ => rfl)
          have caY := hC.cs
          have HP : Hid (((Xax - Xdx) * (Xby - Xdy)).natAbs < 2 ^ 402 ∧ ((Xay - Xdy) * (Xbx - Xdx)).natAbs < 2 ^ 402) := ⟨bprod_lt sax sdx sby sdy, bprod_lt say sdy sbx sdx⟩
          have HQ : Hid ((((Xcx - Xdx) * (Xcx - Xdx) + (Xcy - Xdy) * (Xcy - Xdy))).natAbs < 2 ^ 403 ∧ ((Xax - Xdx) * (Xby - Xdy) - (Xay - Xdy) * (Xbx - Xdx)).natAbs < 2 ^ 403) := ⟨sumsq_lt scx sdx scy sdy, cross_lt sax sdx sby sdy say sdy sbx sdx⟩
          clear KT hT0 e140 e141 c14 c15
          
          have KV : ∀ w' : World, Below wy.heap.size wy w' → (w'.cell? ⟨w.heap.size + 1 + 1 + 1, 0, none⟩ = some (.bool ndx) ∧ w'.cell? ⟨w.heap.size + 1 + 1 + 1, 1, none⟩ = some (.slice odx ldx.length kdx) ∧ w'.cell? ⟨w.heap.size + 1 + 1 + 1, 2, none⟩ = some (.bool ndy) ∧ w'.cell? ⟨w.heap.size + 1 + 1 + 1, 3, none⟩ = some (.slice ody ldy.length kdy) ∧ w'.cell? ⟨w.heap.size + 1 + 1 + 1 + 1, 8, none⟩ = some (.bool ncx) ∧ w'.cell? ⟨w.heap.size + 1 + 1 + 1 + 1, 9, none⟩ = some (.slice ocx lcx.length kcx) ∧ w'.cell? ⟨w.heap.size + 1 + 1 + 1 + 1, 10, none⟩ = some (.bool ncy) ∧ w'.cell? ⟨w.heap.size + 1 + 1 + 1 + 1, 11, none⟩ = some (.slice ocy lcy.length kcy) ∧ w'.cell? ⟨r14, 0, none⟩ = some (.bool n14) ∧ w'.cell? ⟨r14, 1, none⟩ = some (.slice a14 l14.length d14) ∧ w'.cell? ⟨r15, 0, none⟩ = some (.bool n15) ∧ w'.cell? ⟨r15, 1, none⟩ = some (.slice a15 l15.length d15) ∧ w'.cell? ⟨w.heap.size + 1 + 1 + 1 + 1 + 1, 0, none⟩ = some (.bool n) ∧ w'.cell? ⟨w.heap.size + 1 + 1 + 1 + 1 + 1, 1, none⟩ = some (.slice ov ls.length kv)) := fun w' hb => (and_app12 (KU w' (fun b o h1 _ => (bcell hb).1 b o h1)) (hC.at hAl hb).cs)
          have hHeld := KV wy.drew (Below.refl _ _).drew
          go_wp2_with fail
          refine wp_region_K (S := fun w' : World => (w'.cell? ⟨w.heap.size + 1 + 1 + 1, 0, none⟩ = some (.bool ndx) ∧ w'.cell? ⟨w.heap.size + 1 + 1 + 1, 1, none⟩ = some (.slice odx ldx.length kdx) ∧ w'.cell? ⟨w.heap.size + 1 + 1 + 1, 2, none⟩ = some (.bool ndy) ∧ w'.cell? ⟨w.heap.size + 1 + 1 + 1, 3, none⟩ = some (.slice ody ldy.length kdy) ∧ w'.cell? ⟨w.heap.size + 1 + 1 + 1 + 1, 8, none⟩ = some (.bool ncx) ∧ w'.cell? ⟨w.heap.size + 1 + 1 + 1 + 1, 9, none⟩ = some (.slice ocx lcx.length kcx) ∧ w'.cell? ⟨w.heap.size + 1 + 1 + 1 + 1, 10, none⟩ = some (.bool ncy) ∧ w'.cell? ⟨w.heap.size + 1 + 1 + 1 + 1, 11, none⟩ = some (.slice ocy lcy.length kcy) ∧ w'.cell? ⟨r14, 0, none⟩ = some (.bool n14) ∧ w'.cell? ⟨r14, 1, none⟩ = some (.slice a14 l14.length d14) ∧ w'.cell? ⟨r15, 0, none⟩ = some (.bool n15) ∧ w'.cell? ⟨r15, 1, none⟩ = some (.slice a15 l15.length d15) ∧ w'.cell? ⟨w.heap.size + 1 + 1 + 1 + 1 + 1, 0, none⟩ = some (.bool n) ∧ w'.cell? ⟨w.heap.size + 1 + 1 + 1 + 1 + 1, 1, none⟩ = some (.slice ov ls.length kv))) (L := 12) (by kernel_rfl) ?_
          refine wpAnyK_take (i := 0) (v := ?_) rfl (by kernel_rfl) (by kernel_rfl) (by kernel_rfl) (by kernel_rfl) (fun _ _ _ h => h) (Or.inl ⟨by rfl, ?_⟩) hHeld ?_
          rotate_left 1
          · (intro w hSw; (try dsimp only at hSw); go_simp; try with_reducible rfl)
          (try simp only [Act.put, List.setIfInBounds_toArray])
          refine wpAnyK_take (i := 1) (v := ?_) rfl (by kernel_rfl) (by kernel_rfl) (by kernel_rfl) (by kernel_rfl) (fun _ _ _ h => h) (Or.inl ⟨by rfl, ?_⟩) hHeld ?_
          rotate_left 1
          · (intro w hSw; (try dsimp only at hSw); go_simp; try with_reducible rfl)
          (try simp only [Act.put])
          refine wpAnyK_take (i := 2) (v := ?_) rfl (by kernel_rfl) (by kernel_rfl) (by kernel_rfl) (by kernel_rfl) (fun _ _ _ h => h) (Or.inl ⟨by rfl, ?_⟩) hHeld ?_
          rotate_left 1
          · (intro w hSw; (try dsimp only at hSw); go_simp; try with_reducible rfl)
          (try simp only [Act.put])
          refine wpAnyK_take (i := 3) (v := ?_) rfl (by kernel_rfl) (by kernel_rfl) (by kernel_rfl) (by kernel_rfl) (fun _ _ _ h => h) (Or.inl ⟨by rfl, ?_⟩) hHeld ?_
          rotate_left 1
          · (intro w hSw; (try dsimp only at hSw); go_simp; try with_reducible rfl)
          (try simp only [Act.put])
          refine wpAnyK_take (i := 4) (v := ?_) rfl (by kernel_rfl) (by kernel_rfl) (by kernel_rfl) (by kernel_rfl) (fun _ _ _ h => h) (Or.inl ⟨by rfl, ?_⟩) hHeld ?_
          rotate_left 1
          · (intro w hSw; (try dsimp only at hSw); go_simp; try with_reducible rfl)
          (try simp only [Act.put])
          refine wpAnyK_take (i := 5) (v := ?_) rfl (by kernel_rfl) (by kernel_rfl) (by kernel_rfl) (by kernel_rfl) (fun _ _ _ h => h) (Or.inl ⟨by rfl, ?_⟩) hHeld ?_
          rotate_left 1
          · (intro w hSw; (try dsimp only at hSw); go_simp; try with_reducible rfl)
          (try simp only [Act.put])
          refine wpAnyK_take (i := 7) (v := ?_) rfl (by kernel_rfl) (by kernel_rfl) (by kernel_rfl) (by kernel_rfl) (fun _ _ _ h => h) (Or.inl ⟨by rfl, ?_⟩) hHeld ?_
          rotate_left 1
          · (intro w hSw; (try dsimp only at hSw); go_simp; try with_reducible rfl)
          (try simp only [Act.put])
          refine wpAnyK_take (i := 8) (v := ?_) rfl (by kernel_rfl) (by kernel_rfl) (by kernel_rfl) (by kernel_rfl) (fun _ _ _ h => h) (Or.inl ⟨by rfl, ?_⟩) hHeld ?_
          rotate_left 1
          · (intro w hSw; (try dsimp only at hSw); go_simp; try with_reducible rfl)
          (try simp only [Act.put])
          refine wpAnyK_step (i := 6) (by kernel_rfl) rfl (fun K hK => ?_)
          go_simp
          (go_at_call 24; go_must (refine (rsquare_any ndx odx kdx ldx Xdx ndy ody kdy ldy Xdy ncx ocx kcx lcx Xcx ncy ocy kcy lcy Xcy _ (hdx.kept (hwY.trans (Below.mono (B := wy.heap.size) (by repeat (with_reducible first | refine Below.setCell ?_ (by first | (dsimp only; omega) | omega | (simp; done) | (simp; omega)) _ | refine below_alloc _ ?_ | refine Below.drew ?_ | exact Below.refl _ _)) hwY.size))) sdx (hdy.kept (hwY.trans (Below.mono (B := wy.heap.size) (by repeat (with_reducible first | refine Below.setCell ?_ (by first | (dsimp only; omega) | omega | (simp; done) | (simp; omega)) _ | refine below_alloc _ ?_ | refine Below.drew ?_ | exact Below.refl _ _)) hwY.size))) sdy (hcx.kept (hwY.trans (Below.mono (B := wy.heap.size) (by repeat (with_reducible first | refine Below.setCell ?_ (by first | (dsimp only; omega) | omega | (simp; done) | (simp; omega)) _ | refine below_alloc _ ?_ | refine Below.drew ?_ | exact Below.refl _ _)) hwY.size))) scx (hcy.kept (hwY.trans (Below.mono (B := wy.heap.size) (by repeat (with_reducible first | refine Below.setCell ?_ (by first | (dsimp only; omega) | omega | (simp; done) | (simp; omega)) _ | refine below_alloc _ ?_ | refine Below.drew ?_ | exact Below.refl _ _)) hwY.size))) scy).mono ?_; rintro e t1 ⟨m1, v1, j1, rfl, hg1, hb1⟩; obtain ⟨a1, d1, hv1⟩ := bg_form hg1; subst hv1; have hY1 : Below wy.heap.size wy t1 := below_step hb1 (by repeat (with_reducible first | refine Below.setCell ?_ (by first | (dsimp only; omega) | omega | (simp; done) | (simp; omega)) _ | refine below_alloc _ ?_ | refine Below.drew ?_ | exact Below.refl _ _)); have kz1 : wy.heap.size ≤ t1.heap.size := hY1.size; have kq1 := hb1.size; (try simp at kq1)))
          (try go_wp2_with fail)
          refine hK.out _ _ (fun _ => KV _ hY1) ?_
          clear hK K
          (try simp only [Act.put, List.setIfInBounds_toArray, List.set_cons_zero, List.set_cons_succ])
          refine wpAnyK_step (i := 9) (by kernel_rfl) rfl (fun K hK => ?_)
          go_simp
          (go_at_call 23; go_must (refine (less_bg n14 n15 _ _ l14 l15 _ _ _ (hg14.kept hY1) (hg15.kept hY1) (small_of HP.out.1 (by decide)) (small_of HP.out.2 (by decide))).mono ?_; rintro e t2 ⟨m2, v2, j2, rfl, hg2, hb2⟩; obtain ⟨a2, d2, hv2⟩ := bg_form hg2; subst hv2; have hY2 : Below wy.heap.size wy t2 := below_step hb2 (by repeat (with_reducible first | refine Below.setCell ?_ (by first | (dsimp only; omega) | omega | (simp; done) | (simp; omega)) _ | refine below_alloc _ ?_ | refine Below.drew ?_ | exact hY1 | exact Below.refl _ _)); have kz2 : wy.heap.size ≤ t2.heap.size := hY2.size; have kq2 := hb2.size; (try simp at kq2)))
          (try go_wp2_with fail)
          refine hK.out _ _ (fun _ => KV _ hY2) ?_
          clear hK K
          (try simp only [Act.put, List.setIfInBounds_toArray, List.set_cons_zero, List.set_cons_succ])
          refine wpAnyK_step (i := 10) (by kernel_rfl) rfl (fun K hK => ?_)
          go_simp
          (go_at_call 45; go_must (refine (times_bg m1 m2 _ _ j1 j2 _ _ _ (hg1.kept hb2) hg2 (small_of HQ.out.1 (by decide)) (small_of HQ.out.2 (by decide))).mono ?_; rintro e t3 ⟨m3, v3, j3, rfl, hg3, hb3⟩; obtain ⟨a3, d3, hv3⟩ := bg_form hg3; subst hv3; have hY3 : Below wy.heap.size wy t3 := below_step hb3 (by repeat (with_reducible first | refine Below.setCell ?_ (by first | (dsimp only; omega) | omega | (simp; done) | (simp; omega)) _ | refine below_alloc _ ?_ | refine Below.drew ?_ | exact hY2 | exact hY1 | exact Below.refl _ _)); have kz3 : wy.heap.size ≤ t3.heap.size := hY3.size; have kq3 := hb3.size; (try simp at kq3); rw [← HE2.out] at hg3))
          (try go_wp2_with fail)
          refine hK.out _ _ (fun _ => KV _ hY3) ?_
          clear hK K
          (try simp only [Act.put, List.setIfInBounds_toArray, List.set_cons_zero, List.set_cons_succ])
          refine wpAnyK_step (i := 11) (by kernel_rfl) rfl (fun K hK => ?_)
          go_simp
          (go_at_call 46; go_must (refine (sum_bg n m3 _ _ ls j3 _ _ _ (hC.at hAl hY3).bg hg3 (small_of (circS_lt HT0.out HT1.out HT2.out 2) (by decide)) (small_of HT2.out (by decide))).mono ?_; rintro e t4 ⟨m4, v4, j4, rfl, hg4, hb4⟩; obtain ⟨a4, d4, hv4⟩ := bg_form hg4; subst hv4; have hY4 : Below wy.heap.size wy t4 := below_step hb4 (by repeat (with_reducible first | refine Below.setCell ?_ (by first | (dsimp only; omega) | omega | (simp; done) | (simp; omega)) _ | refine below_alloc _ ?_ | refine Below.drew ?_ | exact hY3 | exact hY2 | exact hY1 | exact Below.refl _ _)); have kz4 : wy.heap.size ≤ t4.heap.size := hY4.size; have kq4 := hb4.size; (try simp at kq4)))
          (try go_wp2_with fail)
          refine hK.out _ _ (fun _ => KV _ hY4) ?_
          clear hK K
          (try simp only [Act.put, List.setIfInBounds_toArray, List.set_cons_zero, List.set_cons_succ])
          have hC4 := hC.at hAl hY4
          have ca4 := hC4.cs
          have fa4 := hC4.fr
          refine wpAnyK_step (i := 12) (by kernel_rfl) rfl (fun K hK => ?_)
          go_simp
          (try go_wp2_with fail)
          refine hK.out _ _ (fun h => absurd rfl h) ?_
          clear hK K
          refine wpAnyK_done (by kernel_rfl) ?_ _
          have hg5 : Bg t4 m4 (.slice a4 j4.length d4) j4 (circS T0 T1 T2 3) := hg4
          have hC5 := hC4.put hAl hg5
          clear KU hU0 hC hC4
          go_wp2_with fail
          go_roundw
          case rel => exact ⟨3, m4, _, j4, rfl, by omega, hC5⟩
          case measure => simp [intOf]
    | 3, _ =>
      have hsg := R.bg
      go_wp2_with (go_at_call 22; go_must (refine (sign_bg n _ ls _ _ hsg).mono ?_; rintro e w6 ⟨rfl, hb6⟩))
      go_ret
      exact ⟨hwr.trans (hb6.mono hwr.size), rfl⟩

end Go.Proofs.YtbjjkfmdkmbcfaaGreat
