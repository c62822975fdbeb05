/-
  The document takes a number that is at most so many; the bytes are at most 2^20. A taker, a box and two rows of their own, while a document's reading goes on; no Go in sight.
-/
import Derived.Test.YtfaekkbblpfbhaaDoorProg
import Derived.WalkKit
import Derived.WalkSpells
import Derived.WalkLawsBesides
import Derived.RowKit3
import Derived.Below
import Derived.Deep.QuietTactic
import Derived.BigQuiet
import Derived.WalkSmall
import Derived.Test.YtfaekkbblpfbhaaDoorIr29
import Derived.Laws.Rows
import Derived.Test.YtfaekkbblpfbhaaDoorIr03
import Derived.Test.YtfaekkbblpfbhaaDoorIr07
import Derived.Test.YtfaekkbblpfbhaaDoorIr04
import Derived.Test.YtfaekkbblpfbhaaDoorIr21
import Derived.Test.YtfaekkbblpfbhaaDoorIr22
namespace Go.Proofs.YtfaekkbblpfbhaaDoor
open Go.RowKit

theorem wrap64N {x : Int} (h : 0 ≤ x ∧ x < 9223372036854775808) : IntKind.i64.wrap x = x := by
  simp [IntKind.wrap, IntKind.signed, IntKind.bits]
  omega
set_option maxRecDepth 100000 in
set_option maxHeartbeats 1000000 in
theorem tcount_any (g : Nat) (A : Option Addr) (c : Nat) (b : List Int) (t : Tk) (w0 w : World) (hB : IntsAt w0 A .u8 b) (hb0 : Below w0.heap.size w0 w) (hg0 : w0.heap.size ≤ g) (hA : AreB b) (hN : b.length ≤ 1048576) (hp : t.pos ≤ 1048600) (ht : TkAt w g A b.length c t) (most : Int) (_hm0 : 0 ≤ most) : Calls Tryd.prog 61 #[.pointer (some ⟨g, 0, none⟩), .int .i64 most] w fun r w' => r = .returned (.int .i64 (tCount b most t).1) ∧ But g w w' ∧ TkAt w' g A b.length c (tCount b most t).2 := by
  have CF := tfour_any g A c b t w0 w hB hb0 hg0 hA hN hp ht
  have c1 := ht.1.2.1
  have HC : Hid (tCount b most t = if (tFour b t).2.bad = 0 then (if most < (tFour b t).1 then (0, ⟨t.pos + 4, 27, t.pos⟩) else tFour b t) else (0, (tFour b t).2)) := rfl
  have HP : Hid ((tFour b t).2.bad = 0 → (tFour b t).2.pos = t.pos + 4 ∧ 0 ≤ (tFour b t).1 ∧ (tFour b t).1 < 4294967296) := fun h => by
    obtain ⟨a, b1, b2⟩ := tFour_ok hA h
    exact ⟨a.2.1, b1, b2⟩
  generalize tFour b t = R at CF HC HP
  obtain ⟨x, t2⟩ := R
  simp only at CF HC HP
  clear ht
  by_cases hz : t2.bad = 0
  · obtain ⟨q1, q2, q3⟩ := HP.out hz
    have hwr : IntKind.i64.wrap x = x := wrap64N (by omega)
    have hz' : (t2.bad == 0) = true := by simpa using hz
    have hz2 : (t2.bad != 0) = false := by simpa using hz
    by_cases hm : most < x
    · have HC2 : Hid (tCount b most t = (0, ⟨t.pos + 4, 27, t.pos⟩)) := by rw [Hid, HC.out, if_pos hz, if_pos hm]
      have HW : Hid (tWrong t2 27 t.pos = ⟨t.pos + 4, 27, t.pos⟩) := by unfold Hid tWrong; rw [if_pos hz, q1]
      have CW := fun wx (h : TkAt wx g A b.length c t2) => wrong_any g A b.length c t2 27 t.pos wx h
      clear HC HP hz
      go_enter Tryd.func61, Tryd.ntmps61
      go_wp2_with fail
      refine CF.mono ?_
      rintro r w1 ⟨rfl, hb1, ht1⟩
      have HB1 : Hid (But g w w1) := hb1
      have HT1 : Hid (TkAt w1 g A b.length c t2) := ht1
      obtain ⟨⟨d0, d1, d2, d3⟩, _⟩ := ht1
      clear hb1 CF
      go_wp2_with fail
      refine (CW _ HT1.out).mono ?_
      rintro r w2 ⟨rfl, hb2, ht2⟩
      rw [HW.out] at ht2
      have HB2 : Hid (But g w w2) := HB1.out.trans hb2
      have HT2 : Hid (TkAt w2 g A b.length c ⟨t.pos + 4, 27, t.pos⟩) := ht2
      obtain ⟨⟨e0, e1, e2, e3⟩, _⟩ := ht2
      clear hb2 CW
      go_wp2
      go_ret
      exact ⟨by rw [HC2.out]; rfl, HB2.out, by rw [HC2.out]; exact HT2.out⟩
    · have HC2 : Hid (tCount b most t = (x, t2)) := by rw [Hid, HC.out, if_pos hz, if_neg hm]
      clear HC HP hz
      go_enter Tryd.func61, Tryd.ntmps61
      go_wp2_with fail
      refine CF.mono ?_
      rintro r w1 ⟨rfl, hb1, ht1⟩
      have HB1 : Hid (But g w w1) := hb1
      have HT1 : Hid (TkAt w1 g A b.length c t2) := ht1
      obtain ⟨⟨d0, d1, d2, d3⟩, _⟩ := ht1
      clear hb1 CF
      go_wp2
      go_ret
      exact ⟨by rw [HC2.out]; rfl, HB1.out, by rw [HC2.out]; exact HT1.out⟩
  · have HC2 : Hid (tCount b most t = (0, t2)) := by rw [Hid, HC.out, if_neg hz]
    have hz' : (t2.bad == 0) = false := by simpa using hz
    have hz2 : (t2.bad != 0) = true := by simpa using hz
    clear HC HP hz
    go_enter Tryd.func61, Tryd.ntmps61
    go_wp2_with fail
    refine CF.mono ?_
    rintro r w1 ⟨rfl, hb1, ht1⟩
    have HB1 : Hid (But g w w1) := hb1
    have HT1 : Hid (TkAt w1 g A b.length c t2) := ht1
    obtain ⟨⟨d0, d1, d2, d3⟩, _⟩ := ht1
    clear hb1 CF
    go_wp2
    go_ret
    exact ⟨by rw [HC2.out]; rfl, HB1.out, by rw [HC2.out]; exact HT1.out⟩



end Go.Proofs.YtfaekkbblpfbhaaDoor

namespace Go.Proofs.YtfaekkbblpfbhaaDoor
open Go.RowKit


/-- A taker stands at most four behind the bytes. -/
def PosB (b : List Int) (t : Tk) : Prop := t.pos ≤ b.length + 4
theorem pos_has {b : List Int} {t : Tk} {n : Int} (h : PosB b t) : PosB b (tHas b.length t n) := by
  unfold tHas
  split
  · exact h
  · exact h
theorem pos_four {b : List Int} {t : Tk} (h : PosB b t) : PosB b (tFour b t).2 := by
  unfold tFour
  split
  · next hc =>
    obtain ⟨_, hl, _⟩ := tHas_ok hc
    unfold PosB
    simp only
    omega
  · exact pos_has h
theorem pos_eight {b : List Int} {t : Tk} (h : PosB b t) : PosB b (tEight b t).2 := by
  unfold tEight
  split
  · next hc =>
    obtain ⟨_, hl, _⟩ := tHas_ok hc
    unfold PosB
    simp only
    omega
  · exact pos_has h
theorem pos_count {b : List Int} {m : Int} {t : Tk} (h : PosB b t) : PosB b (tCount b m t).2 := by
  unfold tCount
  split
  · next hc =>
    split
    · have h2 := pos_four h
      unfold tFour at h2 hc
      split at hc
      · next h3 =>
        rw [if_pos h3] at h2
        exact h2
      · next h3 => exact absurd hc h3
    · exact pos_four h
  · exact pos_four h
theorem count_in {b : List Int} {m : Int} (hA : AreB b) (hm : 0 ≤ m) (t : Tk) : 0 ≤ (tCount b m t).1 ∧ (tCount b m t).1 ≤ m := by
  by_cases hz : (tCount b m t).2.bad = 0
  · obtain ⟨_, q1, q2⟩ := tCount_ok hA hz; exact ⟨q1, q2⟩
  · unfold tCount at hz ⊢
    split
    · next hf =>
      rw [if_pos hf] at hz
      split
      · simp; omega
      · next hm => rw [if_neg hm] at hz; exact absurd hf hz
    · simp; omega
/-- How far a list has been taken, whatever is wrong. -/
def Fars {α : Type} (f : Tk → α × Tk) (n : Nat) (t0 : Tk) (k : Nat) (done : List α) (t : Tk) : Prop :=
  done.length = k ∧ k ≤ n ∧ tList f n t0 = (done ++ (tList f (n - k) t).1, (tList f (n - k) t).2)
theorem fars_start {α : Type} (f : Tk → α × Tk) (n : Nat) (t : Tk) : Fars f n t 0 [] t := ⟨rfl, Nat.zero_le _, rfl⟩
theorem fars_next {α : Type} {f : Tk → α × Tk} {n k : Nat} {t0 t : Tk} {done : List α} (h : Fars f n t0 k done t) (hk : k < n) (hg : t.bad = 0) : Fars f n t0 (k + 1) (done ++ [(f t).1]) (f t).2 := by
  obtain ⟨h1, h2, h3⟩ := h
  refine ⟨by simp [h1], hk, ?_⟩
  rw [h3, show n - k = (n - (k + 1)) + 1 by omega, list_step _ _ _ hg, List.append_assoc]
  rfl
theorem fars_end {α : Type} {f : Tk → α × Tk} {n k : Nat} {t0 t : Tk} {done : List α} (h : Fars f n t0 k done t) (hk : ¬ (k < n ∧ t.bad = 0)) : tList f n t0 = (done, t) := by
  obtain ⟨h1, h2, h3⟩ := h
  rw [h3]
  by_cases hb : t.bad = 0
  · obtain rfl : k = n := by
      have : ¬ k < n := fun q => hk ⟨q, hb⟩
      omega
    rw [Nat.sub_self]
    simp [tList]
  · rw [list_bad _ _ _ hb]
    simp
/-- A taker at g, a box at P, two rows of their own behind w1. -/
structure Two (w1 : World) (g P : Nat) (A : Option Addr) (N c : Nat) (t : Tk) (cs : Array Value) (Ta : TypeId) (sa : Nat) (Va : Value) (na : Nat) (xa : List Value) (Tb : TypeId) (sb : Nat) (Vb : Value) (nb : Nat) (xb : List Value) (wr : World) : Prop where
  tk : TkAt wr g A N c t
  box : wr.heap[P]? = some (.cells cs 25 (0, 0))
  ra : wr.ownsRow w1.heap.size Ta sa Va na xa
  rb : wr.ownsRow w1.heap.size Tb sb Vb nb xb
  os : wr.os = w1.os
  tape : wr.tape = w1.tape
  output : wr.output = w1.output
  size : w1.heap.size ≤ wr.heap.size
  block : ∀ k, k < w1.heap.size → k ≠ g → k ≠ P → wr.heap[k]? = w1.heap[k]?
section
variable {w1 wr w2 : World} {g P : Nat} {A : Option Addr} {N c : Nat} {t : Tk} {cs : Array Value} {Ta : TypeId} {sa : Nat} {Va : Value} {na : Nat} {xa : List Value} {Tb : TypeId} {sb : Nat} {Vb : Value} {nb : Nat} {xb : List Value}
theorem Two.swap (h : Two w1 g P A N c t cs Ta sa Va na xa Tb sb Vb nb xb wr) : Two w1 g P A N c t cs Tb sb Vb nb xb Ta sa Va na xa wr := ⟨h.tk, h.box, h.rb, h.ra, h.os, h.tape, h.output, h.size, h.block⟩
theorem Two.drewN (h : Two w1 g P A N c t cs Ta sa Va na xa Tb sb Vb nb xb wr) (n : Nat) : Two w1 g P A N c t cs Ta sa Va na xa Tb sb Vb nb xb (wr.drewN n) := ⟨h.tk, h.box, h.ra, h.rb, h.os, h.tape, h.output, h.size, h.block⟩
theorem Two.drew (h : Two w1 g P A N c t cs Ta sa Va na xa Tb sb Vb nb xb wr) : Two w1 g P A N c t cs Ta sa Va na xa Tb sb Vb nb xb wr.drew := ⟨h.tk, h.box, h.ra, h.rb, h.os, h.tape, h.output, h.size, h.block⟩
/-- A taker's call. -/
theorem Two.take {t' : Tk} (h : Two w1 g P A N c t cs Ta sa Va na xa Tb sb Vb nb xb wr) (hg : g < w1.heap.size) (hP : P ≠ g) (hb : But g wr w2) (ht : TkAt w2 g A N c t') : Two w1 g P A N c t' cs Ta sa Va na xa Tb sb Vb nb xb w2 :=
  ⟨ht, but_box hb h.box hP, own_apart h.ra (but_grew hb) (fun b e1 e2 => by have := (h.ra.lt b e1).1; cases e2; omega), own_apart h.rb (but_grew hb) (fun b e1 e2 => by have := (h.rb.lt b e1).1; cases e2; omega), hb.1.trans h.os, hb.2.1.trans h.tape, hb.2.2.1.trans h.output, Nat.le_trans h.size hb.2.2.2.1, fun k k1 k2 k3 => (hb.2.2.2.2 k (Nat.lt_of_lt_of_le k1 h.size) k2).trans (h.block k k1 k2 k3)⟩
theorem tk_of_block {w w' : World} (h : TkAt w g A N c t) (e : w'.heap[g]? = w.heap[g]?) : TkAt w' g A N c t :=
  ⟨⟨(World.cell?_of_block (a := ⟨g, 0, none⟩) e).trans h.1.1, (World.cell?_of_block (a := ⟨g, 1, none⟩) e).trans h.1.2.1, (World.cell?_of_block (a := ⟨g, 2, none⟩) e).trans h.1.2.2.1, (World.cell?_of_block (a := ⟨g, 3, none⟩) e).trans h.1.2.2.2⟩, fun i => (World.frozen?_of_block (a := ⟨g, i, none⟩) e).trans (h.2 i)⟩
theorem tk_lt {w : World} (h : TkAt w g A N c t) : g < w.heap.size := World.block_lt_of_cell? w ⟨g, 0, none⟩ h.1.1
/-- Another block is changed, or made. -/
theorem Two.far {row : Option Nat} (h : Two w1 g P A N c t cs Ta sa Va na xa Tb sb Vb nb xb wr) (hg : wr.grownBy w2 row) (hr : ∀ b, row = some b → w1.heap.size ≤ b) (hG : g < w1.heap.size) (hP : P < w1.heap.size) (ha : Off Va.ownBlock row) (hb : Off Vb.ownBlock row) : Two w1 g P A N c t cs Ta sa Va na xa Tb sb Vb nb xb w2 := by
  have hs := h.size
  have hq : ∀ k, k < w1.heap.size → w2.heap[k]? = wr.heap[k]? := fun k hk => hg.block k (by omega) (fun e => by have := hr k e.symm; omega)
  exact ⟨tk_of_block h.tk (hq g hG), (hq P hP).trans h.box, own_apart h.ra hg ha, own_apart h.rb hg hb, hg.os.trans h.os, hg.tape.trans h.tape, hg.output.trans h.output, Nat.le_trans h.size hg.size, fun k k1 k2 k3 => (hq k k1).trans (h.block k k1 k2 k3)⟩
theorem Two.alloc (h : Two w1 g P A N c t cs Ta sa Va na xa Tb sb Vb nb xb wr) (hG : g < w1.heap.size) (hP : P < w1.heap.size) (o : Obj) : Two w1 g P A N c t cs Ta sa Va na xa Tb sb Vb nb xb (wr.alloc o) :=
  h.far (World.grownBy_alloc wr o none) (fun b e => by cases e) hG hP (fun b _ e => by cases e) (fun b _ e => by cases e)
/-- A cell of the box is written. -/
theorem Two.set (h : Two w1 g P A N c t cs Ta sa Va na xa Tb sb Vb nb xb wr) (hP : P < w1.heap.size) (hPg : P ≠ g) (i : Nat) (u : Value) : Two w1 g P A N c t (cs.setIfInBounds i u) Ta sa Va na xa Tb sb Vb nb xb (wr.setCell ⟨P, i, none⟩ u) := by
  have hg : wr.grownBy (wr.setCell ⟨P, i, none⟩ u) (some P) := ⟨rfl, rfl, rfl, by simp, fun b _ hb => heap_setCell_other wr ⟨P, i, none⟩ b u (fun e => hb (by simp [e]))⟩
  refine ⟨tk_of_block h.tk (heap_setCell_other wr ⟨P, i, none⟩ g u (fun e => hPg e.symm)), heap_setCell_same wr P i cs 25 u h.box, own_apart h.ra hg (fun b e1 e2 => by have := (h.ra.lt b e1).1; cases e2; omega), own_apart h.rb hg (fun b e1 e2 => by have := (h.rb.lt b e1).1; cases e2; omega), h.os, h.tape, h.output, by simpa using h.size, fun k k1 k2 k3 => ?_⟩
  rw [heap_setCell_other wr ⟨P, i, none⟩ k u k3]
  exact h.block k k1 k2 k3
/-- The first row grows. -/
theorem Two.grow {Va' : Value} {na' : Nat} {xa' : List Value} (h : Two w1 g P A N c t cs Ta sa Va na xa Tb sb Vb nb xb wr) (hT : Ta ≠ Tb) (hG : g < w1.heap.size) (hP : P < w1.heap.size) (hg : wr.grownBy w2 Va.ownBlock) (ho : w2.ownsRow w1.heap.size Ta sa Va' na' xa') : Two w1 g P A N c t cs Ta sa Va' na' xa' Tb sb Vb nb xb w2 := by
  have hs := h.size
  have hq : ∀ k, k < w1.heap.size → w2.heap[k]? = wr.heap[k]? := fun k hk => hg.block k (by omega) (fun e => by have := (h.ra.lt k e.symm).1; omega)
  exact ⟨tk_of_block h.tk (hq g hG), (hq P hP).trans h.box, ho, own_other h.rb hg (own_not h.ra hT), hg.os.trans h.os, hg.tape.trans h.tape, hg.output.trans h.output, Nat.le_trans h.size hg.size, fun k k1 k2 k3 => (hq k k1).trans (h.block k k1 k2 k3)⟩
end


end Go.Proofs.YtfaekkbblpfbhaaDoor
