/-
  Rows of numbers as lists lie in memory; an image of its own memory; no Go in sight. The document on what a word reads and writes; each word is of 32 bits. The document on what a word writes, on links, on what stands alone, on rows; each word is of 32 bits.
-/
import Derived.Test.YtblmcphmgicocaaDoorProg
import Derived.Laws.Rows
import Derived.Laws.OwnMore
import Derived.Test.YtblmcphmgicocaaDoorPf10
import Derived.Test.YtblmcphmgicocaaDoorPf05
import Derived.WalkKit
import Derived.WalkSpells
import Derived.WalkLawsBesides
import Derived.RowKit3
import Derived.Below
import Derived.Deep.QuietTactic
import Derived.BigQuiet
import Derived.WalkSmall
import Derived.Deep.RegionHeld3
import Derived.Test.YtblmcphmgicocaaDoorPf03
namespace Go.Proofs.YtblmcphmgicocaaDoor
open Go.RowKit

theorem row_but {w w1 : World} {base g n : Nat} {e : TypeId} {sz : Nat} {v : Value} {xs : List Value} (ho : w.ownsRow base e sz v n xs) (hg : g < base) (hb : But g w w1) : w1.ownsRow base e sz v n xs := by
  refine ho.kept (row := some g) ⟨hb.1, hb.2.1, hb.2.2.1, hb.2.2.2.1, fun k hk hn => hb.2.2.2.2 k hk (fun e => hn (by rw [e]))⟩ ?_
  cases hv : v.ownBlock with
  | none => exact Or.inl rfl
  | some k => exact Or.inr fun e => by cases e; have := ho.lt g hv; omega
theorem but_grown {w w1 w2 : World} {g : Nat} {row : Option Nat} (h : But g w w1) (hs : w1.grownBy w2 row) (hr : ∀ k, row = some k → w.heap.size ≤ k) : But g w w2 :=
  ⟨hs.os.trans h.1, hs.tape.trans h.2.1, hs.output.trans h.2.2.1, Nat.le_trans h.2.2.2.1 hs.size, fun k hk hn => (hs.block k (Nat.lt_of_lt_of_le hk h.2.2.2.1) (fun e => by have := hr k e.symm; omega)).trans (h.2.2.2.2 k hk hn)⟩
theorem any_form {w : World} {b n : Nat} {e : TypeId} {sz : Nat} {v : Value} {xs : List Value} (h : w.ownsRow b e sz v n xs) : ∃ A n c, v = .slice A n c := by
  rcases h.2 with ⟨rfl, _⟩ | ⟨g, cap, cur, rfl, _⟩
  · exact ⟨_, _, _, rfl⟩
  · exact ⟨_, _, _, rfl⟩

/-- A new block reads as it was made. -/
theorem new_cells (w : World) (l : List Value) (T : TypeId) (h : l.length ≤ 1048576) : ∀ j u, l[j]? = some u → (w.alloc (.cells l.toArray T)).cell? ((⟨w.heap.size, 0, none⟩ : Addr).add j) = some u := by
  have hr : (w.alloc (.cells l.toArray T)).ownsRow w.heap.size T 1 (.slice (some ⟨w.heap.size, 0, none⟩) l.length l.length) l.length l := by
    refine ⟨by omega, Or.inr ⟨w.heap.size, l.length, l.toArray, rfl, Nat.le_refl _, heap_alloc_new _ _, Nat.le_refl _, by unfold maxLen; omega, by simp, ?_⟩⟩
    simp only [Nat.mul_one]
    exact List.take_length
  exact hr.cells rfl
/-- Items as cells. -/
def iVals (K : IntKind) (zs : List Int) : List Value := zs.map (Value.int K)
theorem iVals_snoc (K : IntKind) (zs : List Int) (x : Int) : iVals K (zs ++ [x]) = iVals K zs ++ [.int K x] := by simp [iVals]
theorem add0 (j i : Nat) : (⟨j, 0, none⟩ : Addr).add i = ⟨j, i, none⟩ := by
  unfold Addr.add
  split <;> simp_all
theorem but_setB {w w1 : World} {g : Nat} (h : But g w w1) {B : Nat} (hB : w.heap.size ≤ B) (i : Nat) (v : Value) : But g w (w1.setCell ⟨B, i, none⟩ v) :=
  ⟨h.1, h.2.1, h.2.2.1, by simpa [go_sem] using h.2.2.2.1, fun k hk hn => (Below.heap_setCell _ _ _ _ (by show k ≠ B; omega)).trans (h.2.2.2.2 k hk hn)⟩
theorem but_box {w w1 : World} {g : Nat} (h : But g w w1) {B : Nat} {cs : Array Value} {t : TypeId} (hb : w.heap[B]? = some (.cells cs t (0, 0))) (hB : B ≠ g) : w1.heap[B]? = some (.cells cs t (0, 0)) := by
  rw [h.2.2.2.2 B (Array.getElem?_eq_some_iff.1 hb).1 hB]; exact hb
theorem box_set {w : World} {B : Nat} {cs : Array Value} {t : TypeId} (h : w.heap[B]? = some (.cells cs t (0, 0))) (i : Nat) (v : Value) : (w.setCell ⟨B, i, none⟩ v).heap[B]? = some (.cells (cs.setIfInBounds i v) t (0, 0)) := by
  simp [World.setCell, Array.getElem?_modify, h]
theorem box_fro {w : World} {B : Nat} {cs : Array Value} {t : TypeId} (h : w.heap[B]? = some (.cells cs t (0, 0))) (i : Nat) : w.frozen? ⟨B, i, none⟩ = false := by
  simp [World.frozen?, h]
theorem all_stick {α : Type} {b : List Int} {m : Int} {f : Tk → α × Tk} {t : Tk} (h : ¬ t.bad = 0) : (tAll b m f t).2 = t := by
  unfold tAll
  rw [count_stick h]
  rfl
theorem count_stick2 {b : List Int} {m : Int} {t : Tk} (h : ¬ t.bad = 0) : (tCount b m t).2 = t := by rw [count_stick h]
theorem end_stick {b : List Int} {t : Tk} (h : ¬ t.bad = 0) : tEnd b t = t := by
  unfold tEnd
  rw [four_stick h, if_neg h]
theorem own_form {w : World} {b n : Nat} {e : TypeId} {sz : Nat} {v : Value} {xs : List Value} (h : w.ownsRow b e sz v n xs) : ∃ A c, v = .slice A n c := by
  rcases h.2 with ⟨rfl, rfl⟩ | ⟨g, cap, cur, rfl, _⟩
  · exact ⟨_, _, rfl⟩
  · exact ⟨_, _, rfl⟩
theorem end_a {b : List Int} {p : Nat} (h : ¬ p + 4 ≤ b.length) : tEnd b ⟨p, 0, 0⟩ = ⟨p, 27, b.length⟩ := by
  unfold tEnd
  rw [four_no h, if_neg (by simp)]
theorem end_b {b : List Int} {p : Nat} (h : p + 4 < b.length) : tEnd b ⟨p, 0, 0⟩ = ⟨p + 4, 27, p + 4⟩ := by
  unfold tEnd
  rw [four_yes (by omega), if_pos rfl, if_pos h]
theorem end_c {b : List Int} {p : Nat} (h : p + 4 = b.length) (hs : ¬ v4 (b.drop p) = sumB (b.take p)) : tEnd b ⟨p, 0, 0⟩ = ⟨p + 4, 28, p⟩ := by
  unfold tEnd
  rw [four_yes (by omega), if_pos rfl, if_neg (by simp; omega), if_neg hs]
theorem end_d {b : List Int} {p : Nat} (h : p + 4 = b.length) (hs : v4 (b.drop p) = sumB (b.take p)) : tEnd b ⟨p, 0, 0⟩ = ⟨p + 4, 0, 0⟩ := by
  unfold tEnd
  rw [four_yes (by omega), if_pos rfl, if_neg (by simp; omega), if_pos hs]
theorem end_good {b : List Int} {p : Nat} (h : (tEnd b ⟨p, 0, 0⟩).bad = 0) : tEnd b ⟨p, 0, 0⟩ = ⟨(tEnd b ⟨p, 0, 0⟩).pos, 0, 0⟩ := by
  by_cases h1 : p + 4 ≤ b.length
  · by_cases h2 : p + 4 < b.length
    · rw [end_b h2] at h; cases h
    · by_cases h3 : v4 (b.drop p) = sumB (b.take p)
      · rw [end_d (by omega) h3]
      · rw [end_c (by omega) h3] at h; cases h
  · rw [end_a h1] at h; cases h
theorem all_len {α : Type} {b : List Int} {m : Nat} {f : Tk → α × Tk} {p : Nat} (hb : AreB b) (h : (tAll b (m : Int) f ⟨p, 0, 0⟩).2.bad = 0) : (tAll b (m : Int) f ⟨p, 0, 0⟩).1.length ≤ m := by
  by_cases hg : (tCount b m ⟨p, 0, 0⟩).2.bad = 0
  · have := (count_range hb hg).2
    have hl : ∀ (n : Nat) (t : Tk), (tList f n t).1.length ≤ n := by
      intro n
      induction n with
      | zero => intro t; simp [tList]
      | succ n ih =>
        intro t
        rw [tList]
        split
        · have := ih (f t).2
          simp
          omega
        · simp
    have h2 := hl (tCount b m ⟨p, 0, 0⟩).1.toNat (tCount b m ⟨p, 0, 0⟩).2
    unfold tAll
    omega
  · rw [all_bad hg] at h
    exact absurd h hg
theorem ownsRow_mono {w : World} {b b' : Nat} {e : TypeId} {k n : Nat} {v : Value} {xs : List Value} (h : w.ownsRow b e k v n xs) (hb : b' ≤ b) : w.ownsRow b' e k v n xs := by
  refine ⟨h.1, ?_⟩
  rcases h.2 with h0 | ⟨g, cap, cur, hv, hg, r⟩
  · exact Or.inl h0
  · exact Or.inr ⟨g, cap, cur, hv, Nat.le_trans hb hg, r⟩
theorem iVals_get {K : IntKind} {l : List Int} {i : Nat} (h : i < l.length) : (iVals K l)[i]? = some (.int K (nth l i)) := by simp [iVals, nth, List.getD, h]
theorem add_add (j k i : Nat) : ((⟨j, 0, none⟩ : Addr).add k).add i = (⟨j, 0, none⟩ : Addr).add (k + i) := by
  rw [add0, add0]
  unfold Addr.add
  split
  · next h => subst h; rfl
  · rfl
theorem row_ints {w : World} {base c n : Nat} {e : TypeId} {A : Option Addr} {K : IntKind} {l : List Int} (h : w.ownsRow base e 1 (.slice A n c) l.length (iVals K l)) : IntsAt w A K l := fun i hi => by
  rcases h.2 with ⟨_, h0⟩ | ⟨j, cap, cur, hv, hb, hg, hc, _⟩
  · omega
  · cases hv
    exact ⟨_, rfl, h.cells rfl i _ (iVals_get hi)⟩
theorem row_keep {w w1 : World} {base n : Nat} {e : TypeId} {sz : Nat} {v : Value} {xs : List Value} (h : w.ownsRow base e sz v n xs) (hb : Below w.heap.size w w1) : w1.ownsRow base e sz v n xs := by
  refine h.kept (row := none) ⟨hb.os, hb.tape, hb.output, hb.size, fun k hk _ => hb.block k hk⟩ ?_
  cases hv : v.ownBlock <;> simp
theorem lb_box {w w1 : World} {B : Nat} {cs : Array Value} {t : TypeId} (h : w.heap[B]? = some (.cells cs t (0, 0))) (hb : Below w.heap.size w w1) : w1.heap[B]? = some (.cells cs t (0, 0)) := by
  rw [hb.block B (Array.getElem?_eq_some_iff.1 h).1]; exact h

/-- The two lists of an image, each a row of its own behind base. -/
structure RowsI (w : World) (base : Nat) (A1 A2 : Option Addr) (c1 c2 : Nat) (text mem : List Int) : Prop where
  r1 : w.ownsRow base 26 1 (.slice A1 text.length c1) text.length (iVals .u32 text)
  r2 : w.ownsRow base 2 1 (.slice A2 mem.length c2) mem.length (iVals .i64 mem)
theorem RowsI.keep {w w1 : World} {base : Nat} {A1 A2 : Option Addr} {c1 c2 : Nat} {text mem : List Int} (h : RowsI w base A1 A2 c1 c2 text mem) (hb : Below w.heap.size w w1) : RowsI w1 base A1 A2 c1 c2 text mem := ⟨row_keep h.r1 hb, row_keep h.r2 hb⟩
theorem RowsI.mono {w : World} {base base' : Nat} {A1 A2 : Option Addr} {c1 c2 : Nat} {text mem : List Int} (h : RowsI w base A1 A2 c1 c2 text mem) (hb : base' ≤ base) : RowsI w base' A1 A2 c1 c2 text mem := ⟨ownsRow_mono h.r1 hb, ownsRow_mono h.r2 hb⟩
theorem RowsI.but {w w1 : World} {g base : Nat} {A1 A2 : Option Addr} {c1 c2 : Nat} {text mem : List Int} (h : RowsI w base A1 A2 c1 c2 text mem) (hb : But g w w1) (hg : g < base) : RowsI w1 base A1 A2 c1 c2 text mem := ⟨row_but h.r1 hg hb, row_but h.r2 hg hb⟩
theorem row_setB {w1 : World} {B base n : Nat} {e : TypeId} {sz : Nat} {v : Value} {xs : List Value} (h : w1.ownsRow base e sz v n xs) (hB : B < base) (i : Nat) (x : Value) : (w1.setCell ⟨B, i, none⟩ x).ownsRow base e sz v n xs := ownsRow_setCell_below h hB x
theorem RowsI.set {w : World} {B base : Nat} {A1 A2 : Option Addr} {c1 c2 : Nat} {text mem : List Int} (h : RowsI w base A1 A2 c1 c2 text mem) (hB : B < base) (i : Nat) (x : Value) : RowsI (w.setCell ⟨B, i, none⟩ x) base A1 A2 c1 c2 text mem := ⟨row_setB h.r1 hB i x, row_setB h.r2 hB i x⟩
theorem no_ints (w : World) (K : IntKind) : IntsAt w none K [] := fun i hi => by simp at hi









end Go.Proofs.YtblmcphmgicocaaDoor

namespace Go.Proofs.YtblmcphmgicocaaDoor
open Go.RowKit

set_option maxHeartbeats 2000000 in
theorem bit_any (h : Bool) (r : Int) (h0 : 0 ≤ r) (h1 : r ≤ 15) (w : World) : Calls Tryd.prog 77 #[.bool h, .int .i8 r] w fun e w' => e = .returned (.int .u16 ((bitN h r : Nat) : Int)) ∧ w' = w := by
  cases h with
  | false =>
    go_enter Tryd.func77, Tryd.ntmps77
    go_wp2
    go_ret
    exact ⟨rfl, rfl⟩
  | true =>
    rcases (show r = 0 ∨ r = 1 ∨ r = 2 ∨ r = 3 ∨ r = 4 ∨ r = 5 ∨ r = 6 ∨ r = 7 ∨ r = 8 ∨ r = 9 ∨ r = 10 ∨ r = 11 ∨ r = 12 ∨ r = 13 ∨ r = 14 ∨ r = 15 by omega) with rfl | rfl | rfl | rfl | rfl | rfl | rfl | rfl | rfl | rfl | rfl | rfl | rfl | rfl | rfl | rfl
    all_goals (
      go_enter Tryd.func77, Tryd.ntmps77
      go_wp2
      go_ret
      exact ⟨rfl, rfl⟩)
set_option maxRecDepth 100000 in
set_option maxHeartbeats 2000000 in
theorem refreads_any (v : Int) (h0 : 0 ≤ v) (h1 : v < 4294967296) (w : World) : Calls Tryd.prog 65 #[.int .u32 v] w fun e w' => e = .returned (.int .u16 ((rdN v : Nat) : Int)) ∧ Below w.heap.size w w' := by
  have C := refdecode_any v h0 h1 w
  have ha := dA_reg v
  have hb := dB_reg v
  have B1 := fun wx => bit_any (hA (dOp v)) (dA v) ha.1 ha.2 wx
  have B2 := fun wx => bit_any (hB (dOp v)) (dB v) hb.1 hb.2 wx
  have CH := fun wx => refhas_any (dOp v) wx
  have hor := orI (bitN_lt (hA (dOp v)) ha.2) (bitN_lt (hB (dOp v)) hb.2)
  have HR : Hid (rdN v = bitN (hA (dOp v)) (dA v) ||| bitN (hB (dOp v)) (dB v)) := rfl
  rw [HR.out]
  clear HR ha hb
  generalize bitN (hA (dOp v)) (dA v) = x at *
  generalize bitN (hB (dOp v)) (dB v) = y at *
  generalize dOp v = op at *
  generalize dD v = dd at *
  generalize dA v = da at *
  generalize dB v = db at *
  generalize dN v = dn at *
  generalize hD op = p1 at *
  generalize hA op = p2 at *
  generalize hB op = p3 at *
  generalize hN op = p4 at *
  generalize hP op = p5 at *
  go_enter Tryd.func65, Tryd.ntmps65
  go_upto_region 3 with (first
    | (go_at_call 53; refine C.mono ?_; rintro e w1 ⟨rfl, hb1⟩; have HB1 : Hid (Below w.heap.size w w1) := hb1; clear hb1)
    | (go_at_call 60; refine (CH _).mono ?_; rintro e w2 ⟨rfl, rfl⟩))
  obtain ⟨X, HX⟩ : ∃ X, Hid ((((w1.alloc (.cells #[.int .i8 op, .int .i8 dd, .int .i8 da, .int .i8 db, .int .i64 dn] 85)).alloc (.cells #[.bool p1, .bool p2, .bool p3, .bool p4, .bool p5] 124)).alloc (.cells #[.bool p1, .bool p2, .bool p3, .bool p4, .bool p5] 124)) = X) := ⟨_, rfl⟩
  have HBX : Hid (Below w.heap.size w X) := by unfold Hid; rw [← HX.out]; exact lb_alloc (lb_alloc (lb_alloc HB1.out _) _) _
  have c2 : X.cell? ⟨w1.heap.size, 2, none⟩ = some (.int .i8 da) := by rw [← HX.out]; simp [go_sem]
  have c3 : X.cell? ⟨w1.heap.size, 3, none⟩ = some (.int .i8 db) := by rw [← HX.out]; simp [go_sem]
  have f1 : X.cell? ⟨w1.heap.size + 1 + 1, 1, none⟩ = some (.bool p2) := by rw [← HX.out]; simp [go_sem]
  have f2 : X.cell? ⟨w1.heap.size + 1 + 1, 2, none⟩ = some (.bool p3) := by rw [← HX.out]; simp [go_sem]
  rw [HX.out]
  clear HX
  go_region_held3 (fun Y => Below w.heap.size w Y ∧ Y.cell? ⟨w1.heap.size, 2, none⟩ = some (.int .i8 da) ∧ Y.cell? ⟨w1.heap.size, 3, none⟩ = some (.int .i8 db) ∧ Y.cell? ⟨w1.heap.size + 1 + 1, 1, none⟩ = some (.bool p2) ∧ Y.cell? ⟨w1.heap.size + 1 + 1, 2, none⟩ = some (.bool p3)) (first | exact ⟨HBX.out, c2, c3, f1, f2⟩ | exact ⟨HBX.out.drew, c2, c3, f1, f2⟩ | (simp [*]; done))
    ((go_at_call 77; first | (refine (B1 _).mono ?_; rintro e w5 ⟨rfl, hw5⟩; have hw5 := hw5.symm; subst hw5) | (refine (B2 _).mono ?_; rintro e w5 ⟨rfl, hw5⟩; have hw5 := hw5.symm; subst hw5)))
  all_goals (
    rename_i hS
    clear hS
    go_wp2_with fail
    go_ret
    exact ⟨by first | rfl | (rw [← hor]), by first | exact HBX.out | exact HBX.out.drew⟩)




end Go.Proofs.YtblmcphmgicocaaDoor

namespace Go.Proofs.YtblmcphmgicocaaDoor
open Go.RowKit

@[go_sem] theorem field_has0 (x d a b n : Bool) (w : World) : (Instr.field 124 (.agg #[.bool x, .bool d, .bool a, .bool b, .bool n]) 0).run Tryd.prog w = .ok (.bool x) w := by kernel_rfl
set_option maxRecDepth 100000 in
set_option maxHeartbeats 2000000 in
theorem refwrites_any (v : Int) (h0 : 0 ≤ v) (h1 : v < 4294967296) (w : World) : Calls Tryd.prog 66 #[.int .u32 v] w fun e w' => e = .returned (.int .u16 ((wrN v : Nat) : Int)) ∧ Below w.heap.size w w' := by
  have C := refdecode_any v h0 h1 w
  by_cases hc : dOp v = 17 ∨ dOp v = 18
  · have HR : Hid (wrN v = 32768) := if_pos hc
    rw [HR.out]
    clear HR
    generalize dOp v = op at *
    generalize dD v = dd at *
    generalize dA v = da at *
    generalize dB v = db at *
    generalize dN v = dn at *
    rcases hc with rfl | rfl
    all_goals (
      go_enter Tryd.func66, Tryd.ntmps66
      go_wp2_with (go_at_call 53; refine C.mono ?_; rintro e w1 ⟨rfl, hb1⟩)
      go_ret
      exact ⟨rfl, lb_alloc hb1 _⟩)
  · have HR : Hid (wrN v = bitN (hD (dOp v)) (dD v)) := if_neg hc
    have hd := dD_reg v
    have B1 := fun wx => bit_any (hD (dOp v)) (dD v) hd.1 hd.2 wx
    have CH := fun wx => refhas_any (dOp v) wx
    rw [HR.out]
    clear HR hd
    have o1 : (dOp v == 17) = false := by rw [beq_eq_false_iff_ne]; exact fun e => hc (.inl e)
    have o2 : (dOp v == 18) = false := by rw [beq_eq_false_iff_ne]; exact fun e => hc (.inr e)
    clear hc
    generalize bitN (hD (dOp v)) (dD v) = x at *
    generalize dOp v = op at *
    generalize dD v = dd at *
    generalize dA v = da at *
    generalize dB v = db at *
    generalize dN v = dn at *
    generalize hD op = p1 at *
    generalize hA op = p2 at *
    generalize hB op = p3 at *
    generalize hN op = p4 at *
    generalize hP op = p5 at *
    go_enter Tryd.func66, Tryd.ntmps66
    go_upto_region 4 with (go_at_call 53; refine C.mono ?_; rintro e w1 ⟨rfl, hb1⟩; have HB1 : Hid (Below w.heap.size w w1) := hb1; clear hb1)
    obtain ⟨X, HX⟩ : ∃ X, Hid (w1.alloc (.cells #[.int .i8 op, .int .i8 dd, .int .i8 da, .int .i8 db, .int .i64 dn] 85) = X) := ⟨_, rfl⟩
    have HBX : Hid (Below w.heap.size w X) := by unfold Hid; rw [← HX.out]; exact lb_alloc HB1.out _
    have c0 : X.cell? ⟨w1.heap.size, 0, none⟩ = some (.int .i8 op) := by rw [← HX.out]; simp [go_sem]
    have c1 : X.cell? ⟨w1.heap.size, 1, none⟩ = some (.int .i8 dd) := by rw [← HX.out]; simp [go_sem]
    rw [HX.out]
    clear HX
    have hXX := Below.refl X.heap.size X
    go_region_held3 (fun Y => Below X.heap.size X Y ∧ Y.cell? ⟨w1.heap.size, 0, none⟩ = some (.int .i8 op) ∧ Y.cell? ⟨w1.heap.size, 1, none⟩ = some (.int .i8 dd)) (first | exact ⟨hXX, c0, c1⟩ | exact ⟨hXX.drew, c0, c1⟩ | exact ⟨hY, lkeep hY c0, lkeep hY c1⟩ | exact ⟨hY.drew, lkeep hY.drew c0, lkeep hY.drew c1⟩)
      (first
        | (go_at_call 60; refine (CH _).mono ?_; rintro e w2 ⟨rfl, hw2⟩; have hY : Below X.heap.size X w2 := (by rw [hw2]; first | exact lb_alloc hXX _ | exact lb_alloc hXX.drew _); clear hw2)
        | (go_at_call 77; refine (B1 _).mono ?_; rintro e w5 ⟨rfl, hw5⟩; have hw5 := hw5.symm; subst hw5))
    all_goals (
      rename_i hS
      clear hS
      go_wp2_with fail
      go_ret
      exact ⟨rfl, by first | exact lb_trans HBX.out hY | exact lb_trans HBX.out hY.drew⟩)
set_option maxHeartbeats 2000000 in
theorem reflinks_any (v : Int) (h0 : 0 ≤ v) (h1 : v < 4294967296) (w : World) : Calls Tryd.prog 56 #[.int .u32 v] w fun e w' => e = .returned (.bool (lnB v)) ∧ Below w.heap.size w w' := by
  have C1 := fun wx => refreads_any v h0 h1 wx
  have C2 := fun wx => refwrites_any v h0 h1 wx
  have hor := orI (rdN_lt v) (wrN_lt v)
  have hlk := linkI (orN_lt (rdN_lt v) (wrN_lt v))
  have HL : Hid (lnB v = decide ((rdN v ||| wrN v) / 32768 = 1)) := rfl
  rw [← hlk] at HL
  rw [HL.out]
  clear hlk HL
  generalize rdN v = x at *
  generalize wrN v = y at *
  generalize x ||| y = z at *
  go_enter Tryd.func56, Tryd.ntmps56
  go_wp2_with (first
    | (go_at_call 65; refine (C1 _).mono ?_; rintro e w1 ⟨rfl, hb1⟩)
    | (go_at_call 66; refine (C2 _).mono ?_; rintro e w2 ⟨rfl, hb2⟩))
  go_ret
  exact ⟨rfl, lb_trans hb1 hb2⟩
set_option maxHeartbeats 2000000 in
theorem refalone_any (v : Int) (h0 : 0 ≤ v) (h1 : v < 4294967296) (w : World) : Calls Tryd.prog 28 #[.int .u32 v] w fun e w' => e = .returned (.bool (alB v)) ∧ Below w.heap.size w w' := by
  have C := refdecode_any v h0 h1 w
  have CL := fun wx => reflinks_any v h0 h1 wx
  have HA : Hid (alB v = if dOp v = -1 ∨ dOp v = 16 then true else if dOp v = 19 ∨ dOp v = 17 then false else if dOp v = 18 then dA v == 15 else lnB v) := rfl
  generalize alB v = r at *
  generalize lnB v = lk at *
  generalize dOp v = op at *
  generalize dD v = dd at *
  generalize dA v = da at *
  generalize dB v = db at *
  generalize dN v = dn at *
  by_cases k1 : op = -1 ∨ op = 16
  · rw [if_pos k1] at HA
    rcases k1 with rfl | rfl
    all_goals (
      go_enter Tryd.func28, Tryd.ntmps28
      go_wp2_with (go_at_call 53; refine C.mono ?_; rintro e w1 ⟨rfl, hb1⟩)
      go_ret
      exact ⟨by rw [HA.out]; rfl, lb_alloc hb1 _⟩)
  · rw [if_neg k1] at HA
    by_cases k2 : op = 19 ∨ op = 17
    · rw [if_pos k2] at HA
      rcases k2 with rfl | rfl
      all_goals (
        go_enter Tryd.func28, Tryd.ntmps28
        go_wp2_with (go_at_call 53; refine C.mono ?_; rintro e w1 ⟨rfl, hb1⟩)
        go_ret
        exact ⟨by rw [HA.out]; rfl, lb_alloc hb1 _⟩)
    · rw [if_neg k2] at HA
      by_cases k3 : op = 18
      · rw [if_pos k3] at HA
        subst k3
        go_enter Tryd.func28, Tryd.ntmps28
        go_wp2_with (go_at_call 53; refine C.mono ?_; rintro e w1 ⟨rfl, hb1⟩)
        go_ret
        exact ⟨by rw [HA.out]; rfl, lb_alloc hb1 _⟩
      · rw [if_neg k3] at HA
        have o1 : (op == -1) = false := by rw [beq_eq_false_iff_ne]; omega
        have o2 : (op == 16) = false := by rw [beq_eq_false_iff_ne]; omega
        have o3 : (op == 19) = false := by rw [beq_eq_false_iff_ne]; omega
        have o4 : (op == 17) = false := by rw [beq_eq_false_iff_ne]; omega
        have o5 : (op == 18) = false := by rw [beq_eq_false_iff_ne]; omega
        clear k1 k2 k3
        go_enter Tryd.func28, Tryd.ntmps28
        go_wp2_with (first
          | (go_at_call 53; refine C.mono ?_; rintro e w1 ⟨rfl, hb1⟩)
          | (go_at_call 56; refine (CL _).mono ?_; rintro e w2 ⟨rfl, hb2⟩))
        go_ret
        exact ⟨by rw [HA.out]; rfl, lb_trans (lb_alloc hb1 _) hb2⟩
/-- An answer of All. -/
def AllP (l : List Int) (w : World) (e : Ending) (w' : World) : Prop := e = .returned (.tuple #[.int .u16 ((allR l l.length : Nat) : Int), .int .u16 ((allW l l.length : Nat) : Int)]) ∧ Below w.heap.size w w'


end Go.Proofs.YtblmcphmgicocaaDoor
