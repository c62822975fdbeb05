/-
  The flow of an image in memory. A row that is written from its end on. markLabels, by what it marks; each word is of 32 bits. markBegins, by what it marks; each word is of 32 bits.
-/
import Derived.Test.YtfnicgihpelhhaaGreatProg
import Derived.WalkKit
import Derived.WalkSpells
import Derived.WalkLawsBesides
import Derived.RowKit3
import Derived.Below
import Derived.Deep.QuietTactic
import Derived.BigQuiet
import Derived.WalkSmall
import Derived.Laws.Rows
import Derived.Test.YtfnicgihpelhhaaGreatPd36
import Derived.Test.YtfnicgihpelhhaaGreatPd08
import Derived.Test.YtfnicgihpelhhaaGreatPd18
import Derived.Test.YtfnicgihpelhhaaGreatPd14
namespace Go.Proofs.YtfnicgihpelhhaaGreat
open Go.RowKit

/-- A row of numbers, each as a function tells. -/
def NumsAt (w : World) (g n : Nat) (F : Int → Int) : Prop := ∃ cs : Array Value, w.heap[g]? = some (.cells cs 3 (0, 0)) ∧ cs.size = n ∧ ∀ i : Nat, i < n → cs[i]? = some (.int .i64 (F (i : Int)))
theorem NumsAt.lt {w : World} {g n : Nat} {F : Int → Int} (h : NumsAt w g n F) : g < w.heap.size := by
  obtain ⟨cs, h1, _⟩ := h
  exact (Array.getElem?_eq_some_iff.1 h1).1
theorem NumsAt.keep {w w1 : World} {g n : Nat} {F : Int → Int} (h : NumsAt w g n F) (hb : Below w.heap.size w w1) : NumsAt w1 g n F := by
  obtain ⟨cs, h1, h2⟩ := h
  exact ⟨cs, by rw [hb.block g (Array.getElem?_eq_some_iff.1 h1).1]; exact h1, h2⟩
theorem NumsAt.kept {w w1 : World} {g n : Nat} {F : Int → Int} {row : Option Nat} (h : NumsAt w g n F) (hg : w.grownBy w1 row) (hne : row ≠ some g) : NumsAt w1 g n F := by
  obtain ⟨cs, h1, h2⟩ := h
  exact ⟨cs, by rw [hg.block g (Array.getElem?_eq_some_iff.1 h1).1 (fun e => hne e.symm)]; exact h1, h2⟩
theorem NumsAt.cell {w : World} {g n : Nat} {F : Int → Int} (h : NumsAt w g n F) {x : Int} (h0 : 0 ≤ x) (h1 : x < n) : w.cell? ⟨g, x.toNat, none⟩ = some (.int .i64 (F x)) := by
  obtain ⟨cs, hb, hs, hc⟩ := h
  have := hc x.toNat (by omega)
  rw [show ((x.toNat : Nat) : Int) = x by omega] at this
  simp [World.cell?, hb, this]
theorem NumsAt.fro {w : World} {g n : Nat} {F : Int → Int} (h : NumsAt w g n F) (x : Nat) : w.frozen? ⟨g, x, none⟩ = false := by
  obtain ⟨cs, hb, _⟩ := h
  simp [World.frozen?, hb]
theorem NumsAt.set {w : World} {g n : Nat} {F : Int → Int} (h : NumsAt w g n F) {x : Int} (h0 : 0 ≤ x) (_h1 : x < n) (v : Int) : NumsAt (w.setCell ⟨g, x.toNat, none⟩ (.int .i64 v)) g n (fun y => if y = x then v else F y) := by
  obtain ⟨cs, hb, hs, hc⟩ := h
  refine ⟨cs.setIfInBounds x.toNat (.int .i64 v), box_set hb _ _, by simpa using hs, fun i hi => ?_⟩
  rw [Array.getElem?_setIfInBounds]
  by_cases e : x.toNat = i
  · rw [if_pos e, if_pos (by omega)]
    show _ = some (Value.int .i64 (if _ then _ else _))
    rw [if_pos (by omega)]
  · rw [if_neg e, hc i hi]
    show _ = some (Value.int .i64 (if _ then _ else _))
    rw [if_neg (by omega)]
theorem NumsAt.made (w : World) (n : Nat) : NumsAt (w.alloc (.cells (madeCells #[.int .i64 0] n) 3)) w.heap.size n (fun _ => 0) :=
  ⟨_, heap_alloc_new _ _, by simp [madeCells], fun i hi => by simp [madeCells, hi, Nat.mod_one]⟩
theorem make_nums (n : Nat) (hn : n ≤ 1048576) (w : World) : (Instr.makeSlice 72 (.int .i64 (n : Int)) (.int .i64 (n : Int))).run Tryz.prog w = .ok (.slice (some ⟨w.heap.size, 0, none⟩) n n) (w.alloc (.cells (madeCells #[.int .i64 0] n) 3)) := by
  obtain ⟨i, hi, hz, hs, hb⟩ := infoI
  have h := run_makeSlice (P := Tryz.prog) w 72 3 i _ Tryz.underlying72 hi hz .i64 .i64 (n : Int) (n : Int) (by omega) (by omega) (by rw [hs]; omega) (by rw [hb]; omega) (by omega)
  rw [hs, show ((n : Int)).toNat = n by omega, Nat.mul_one] at h
  exact h
/-- The blocks at whose beginnings a leap can end. -/
def knL (text : List Int) (ent : Int) : List Int := plcT (knK text ent) (blkL text ent).length
/-- The flow of an image, in the block gf. -/
structure Flw (w : World) (gf : Nat) (text : List Int) (ent : Int) (A1 A3 : Option Addr) (c1 gN c3 : Nat) (F : Int → Int) : Prop where
  box : w.heap[gf]? = some (.cells #[.slice A1 (blkL text ent).length c1, .slice (some ⟨gN, 0, none⟩) text.length text.length, .slice A3 (knL text ent).length c3] 149 (0, 0))
  lasts : w.ownsRow 0 50 5 (.slice A1 (blkL text ent).length c1) (blkL text ent).length (lstV (lastL text ent (blkL text ent).length))
  nums : NumsAt w gN text.length F
  num : NumF text ent (blkL text ent).length F
  known : w.ownsRow 0 3 1 (.slice A3 (knL text ent).length c3) (knL text ent).length (iVals .i64 (knL text ent))
def FlowAt (w : World) (gf : Nat) (text : List Int) (ent : Int) : Prop := ∃ (A1 A3 : Option Addr) (c1 gN c3 : Nat) (F : Int → Int), Flw w gf text ent A1 A3 c1 gN c3 F
theorem FlowAt.keep {w w1 : World} {gf : Nat} {text : List Int} {ent : Int} (h : FlowAt w gf text ent) (hb : Below w.heap.size w w1) : FlowAt w1 gf text ent := by
  obtain ⟨A1, A3, c1, gN, c3, F, h⟩ := h
  exact ⟨A1, A3, c1, gN, c3, F, lb_box h.box hb, row_keep h.lasts hb, h.nums.keep hb, h.num, row_keep h.known hb⟩
theorem Flw.last {w : World} {gf : Nat} {text : List Int} {ent : Int} {A1 A3 : Option Addr} {c1 gN c3 : Nat} {F : Int → Int} (h : Flw w gf text ent A1 A3 c1 gN c3 F) {k : Nat} (hk : k < (blkL text ent).length) : ∃ g1, A1 = some ⟨g1, 0, none⟩ ∧ ∀ j u, (insC (lastW text ent k))[j]? = some u → w.cell? ⟨g1, k * 5 + j, none⟩ = some u := by
  rcases h.lasts.2 with ⟨_, h0⟩ | ⟨g, cap, cur, e, _⟩
  · omega
  · injection e with e1 _ _
    refine ⟨g, e1, fun j u hu => ?_⟩
    have hj : j < 5 := by have := (List.getElem?_eq_some_iff.1 hu).1; simpa [insC] using this
    have h2 := lstV_get (l := lastL text ent (blkL text ent).length) (i := k) (j := j) (by rw [lastL_len]; exact hk) hj
    rw [lastL_nth hk, hu] at h2
    have h4 := h.lasts
    rw [e1] at h4
    have h3 := h4.cells (g := g) rfl (k * 5 + j) u h2
    rw [add0] at h3
    exact h3
theorem Flw.cells {w : World} {gf : Nat} {text : List Int} {ent : Int} {A1 A3 : Option Addr} {c1 gN c3 : Nat} {F : Int → Int} (h : Flw w gf text ent A1 A3 c1 gN c3 F) : w.cell? ⟨gf, 0, none⟩ = some (.slice A1 (blkL text ent).length c1) ∧ w.cell? ⟨gf, 1, none⟩ = some (.slice (some ⟨gN, 0, none⟩) text.length text.length) ∧ w.cell? ⟨gf, 2, none⟩ = some (.slice A3 (knL text ent).length c3) :=
  ⟨by simp [World.cell?, h.box], by simp [World.cell?, h.box], by simp [World.cell?, h.box]⟩
/-- A list to be read: of new memory, or the flow's own. -/
def RowR (gf : Nat) (l : List Int) (w : World) (e : Ending) (w' : World) : Prop := ∃ (A : Option Addr) (c : Nat), e = .returned (.slice A l.length c) ∧ w'.ownsRow 0 3 1 (.slice A l.length c) l.length (iVals .i64 l) ∧ Below w.heap.size w w' ∧ ((∀ q, (Value.slice A l.length c).ownBlock = some q → w.heap.size ≤ q) ∨ w.cell? ⟨gf, 2, none⟩ = some (.slice A l.length c))
theorem own_new {A : Option Addr} {n c g m : Nat} (hA : A = some ⟨g, 0, none⟩) (h : m ≤ g) : ∀ q, (Value.slice A n c).ownBlock = some q → m ≤ q := fun q hq => by
  subst hA
  cases hq
  exact h
theorem new_one {w : World} {g : Nat} {x : Int} (hg : g = w.heap.size) : (w.alloc (.cells #[.int .i64 x] 3)).ownsRow 0 3 1 (.slice (some ⟨g, 0, none⟩) 1 1) 1 (iVals .i64 [x]) := by
  subst hg
  exact ⟨rfl, .inr ⟨w.heap.size, 1, _, rfl, Nat.zero_le _, heap_alloc_new _ _, Nat.le_refl _, by unfold maxLen; omega, rfl, rfl⟩⟩
theorem new_pair {w : World} {g : Nat} {x y : Int} (hg : g = w.heap.size) : (w.alloc (.cells #[.int .i64 x, .int .i64 y] 3)).ownsRow 0 3 1 (.slice (some ⟨g, 0, none⟩) 2 2) 2 (iVals .i64 [x, y]) := by
  subst hg
  exact ⟨rfl, .inr ⟨w.heap.size, 2, _, rfl, Nat.zero_le _, heap_alloc_new _ _, Nat.le_refl _, by unfold maxLen; omega, rfl, rfl⟩⟩
def leapB (op : Int) : Bool := op == 18 || op == 19


end Go.Proofs.YtfnicgihpelhhaaGreat

namespace Go.Proofs.YtfnicgihpelhhaaGreat
open Go.RowKit

theorem wdn_set2 (f z : Nat → Value) (N k : Nat) (h : k + 1 < N) : (((wcur z f N (k + 2)).setIfInBounds k (f k)).setIfInBounds (k + 1) (f (k + 1))) = wcur z f N k := by
  apply Array.ext_getElem?
  intro i
  by_cases hi : i < N
  · rw [wcur_get _ _ _ _ _ hi, Array.getElem?_setIfInBounds, Array.size_setIfInBounds, wcur_size, Array.getElem?_setIfInBounds, wcur_size]
    by_cases h1 : k + 1 = i
    · subst h1; rw [if_pos rfl, if_pos h, if_neg (by omega)]
    · rw [if_neg h1]
      by_cases h2 : k = i
      · subst h2; rw [if_pos rfl, if_pos hi, if_neg (by omega)]
      · rw [if_neg h2, wcur_get _ _ _ _ _ hi]
        by_cases h3 : i < k
        · simp [h3, show i < k + 2 by omega]
        · simp [h3, show ¬ i < k + 2 by omega]
  · rw [Array.getElem?_eq_none (by simp [wcur_size]; omega), Array.getElem?_eq_none (by simp [wcur_size]; omega)]
/-- Where the block ahead of the beginning j ends. -/
def endB (ps : List Int) (n : Int) (j : Nat) : Int := if j < ps.length then nth ps j else n
def bCell (ps : List Int) (n : Int) (i : Nat) : Value := if i % 2 = 0 then .int .i64 (nth ps (i / 2)) else .int .i64 (endB ps n (i / 2 + 1))
def zCell (_ : Nat) : Value := .int .i64 0
theorem bCell0 (ps : List Int) (n : Int) (k : Nat) : bCell ps n (k * 2) = .int .i64 (nth ps k) := by
  have e : (k * 2) / 2 = k := by omega
  have m : (k * 2) % 2 = 0 := by omega
  unfold bCell
  rw [if_pos m, e]
theorem bCell1 (ps : List Int) (n : Int) (k : Nat) : bCell ps n (k * 2 + 1) = .int .i64 (endB ps n (k + 1)) := by
  have e : (k * 2 + 1) / 2 = k := by omega
  have m : ¬ (k * 2 + 1) % 2 = 0 := by omega
  unfold bCell
  rw [if_neg m, e]
theorem blk_step (ps : List Int) (n : Int) (k : Nat) (h : k < ps.length) : (((wcur zCell (bCell ps n) (ps.length * 2) ((k + 1) * 2)).setIfInBounds (k * 2) (.int .i64 (nth ps k))).setIfInBounds (k * 2 + 1) (.int .i64 (endB ps n (k + 1)))) = wcur zCell (bCell ps n) (ps.length * 2) (k * 2) := by
  rw [← bCell0 ps n k, ← bCell1 ps n k, show (k + 1) * 2 = k * 2 + 2 by omega]
  exact wdn_set2 _ _ _ _ (by omega)
theorem blk_done (ps : List Int) (n : Int) : (wcur zCell (bCell ps n) (ps.length * 2) 0).toList = dNews (zipN ps n) := by
  apply List.ext_getElem?
  intro i
  rw [Array.getElem?_toList]
  by_cases hi : i < ps.length * 2
  · rw [wcur_get _ _ _ _ _ hi, if_neg (by omega)]
    obtain ⟨k, hk⟩ : ∃ k, i = k * 2 ∨ i = k * 2 + 1 := ⟨i / 2, by omega⟩
    have hkl : k < ps.length := by omega
    obtain ⟨g0, g1⟩ := dNews_get (l := zipN ps n) (i := k) (by rw [zipN_len]; exact hkl)
    obtain ⟨z0, z1⟩ := zipN_at ps n k hkl
    rcases hk with rfl | rfl
    · rw [g0, bCell0, z0]
    · rw [g1, bCell1, z1]; rfl
  · rw [Array.getElem?_eq_none (by simp [wcur_size]; omega), List.getElem?_eq_none (by rw [dNews_len, zipN_len]; omega)]
theorem made_blk (ps : List Int) (n : Int) (N : Nat) : madeCells #[.int .i64 0, .int .i64 0] N = wcur zCell (bCell ps n) N N := by
  apply Array.ext_getElem?
  intro i
  by_cases hi : i < N
  · rw [wcur_get _ _ _ _ _ hi, if_pos hi]
    have h : i % 2 = 0 ∨ i % 2 = 1 := by omega
    rcases h with h | h <;> simp [madeCells, hi, h, zCell]
  · rw [Array.getElem?_eq_none (by simp [madeCells]; omega), Array.getElem?_eq_none (by simp [wcur_size]; omega)]
theorem make_blk (ps : List Int) (n : Int) (hn : ps.length ≤ 1048576) (w : World) : (Instr.makeSlice 60 (.int .i64 (ps.length : Int)) (.int .i64 (ps.length : Int))).run Tryz.prog w = .ok (.slice (some ⟨w.heap.size, 0, none⟩) ps.length ps.length) (w.alloc (.cells (wcur zCell (bCell ps n) (ps.length * 2) (ps.length * 2)) 67)) := by
  obtain ⟨i, hi, hz, hs, hb⟩ := infoB
  have h := run_makeSlice (P := Tryz.prog) w 60 67 i _ Tryz.underlying60 hi hz .i64 .i64 (ps.length : Int) (ps.length : Int) (by omega) (by omega) (by rw [hs]; omega) (by rw [hb]; omega) (by omega)
  rw [hs, show ((ps.length : Int)).toNat = ps.length by omega] at h
  rw [h, ← made_blk ps n (ps.length * 2)]
  rfl
theorem own_blk (ps : List Int) (n : Int) (w : World) (hn : ps.length ≤ 1048576) : (w.alloc (.cells (wcur zCell (bCell ps n) (ps.length * 2) 0) 67)).ownsRow w.heap.size 67 2 (.slice (some ⟨w.heap.size, 0, none⟩) (zipN ps n).length ps.length) (zipN ps n).length (dNews (zipN ps n)) := by
  refine ⟨by rw [dNews_len], Or.inr ⟨w.heap.size, ps.length, wcur zCell (bCell ps n) (ps.length * 2) 0, rfl, Nat.le_refl _, heap_alloc_new _ _, by rw [zipN_len]; exact Nat.le_refl _, by unfold maxLen; omega, by rw [wcur_size], ?_⟩⟩
  rw [zipN_len, blk_done, List.take_of_length_le (by rw [dNews_len, zipN_len]; exact Nat.le_refl _)]
/-- An answer of Blocks. -/
def BlkP (E : Int) (l : List Rel) (w : World) (e : Ending) (w' : World) : Prop :=
  ∃ (A : Option Addr) (c : Nat), e = .returned (.tuple #[.slice A l.length c, .int .i64 E]) ∧ w'.ownsRow w.heap.size 67 2 (.slice A l.length c) l.length (dNews l) ∧ Below w.heap.size w w'
def outB (text : List Int) (ml : Nat) (ent : Int) : List Rel := if (checkI text ml ent).1 = 0 then blkL text ent else []



end Go.Proofs.YtfnicgihpelhhaaGreat

namespace Go.Proofs.YtfnicgihpelhhaaGreat
open Go.RowKit

set_option maxRecDepth 100000 in
set_option maxHeartbeats 2000000 in
theorem marklabels_any (A1 A2 : Option Addr) (c1 ml c2 : Nat) (ent : Int) (text : List Int) (b n : Nat) (f : Int → Bool) (w : World) (hT : IntsAt w A1 .u32 text) (hR : ∀ i, i < text.length → 0 ≤ nth text i ∧ nth text i < 4294967296) (hl : text.length ≤ 1048576) (he0 : 0 ≤ ent) (he1 : ent ≤ 1048576) (hk : Mks w b n f) (hn : n ≤ 1000000000) :
    Calls Tryz.prog 70 #[.agg #[.slice A1 text.length c1, .int .i64 ent, .slice A2 ml c2], .map (some b)] w (MkP b (n + 1 + text.length) (addK (setF f ent) (gLab text) text.length) w) := by
  obtain ⟨W, HW⟩ : ∃ W, Hid (w.alloc (.cells #[.slice A1 text.length c1, .int .i64 ent, .slice A2 ml c2] 25) = W) := ⟨_, rfl⟩
  have HB : Hid (Below w.heap.size w W) := by unfold Hid; rw [← HW.out]; exact lb_alloc (Below.refl _ _) _
  have i0 : W.cell? ⟨w.heap.size, 0, none⟩ = some (.slice A1 text.length c1) := by rw [← HW.out]; simp [go_sem]
  have i1 : W.cell? ⟨w.heap.size, 1, none⟩ = some (.int .i64 ent) := by rw [← HW.out]; simp [go_sem]
  have HT : Hid (IntsAt w A1 .u32 text) := hT
  have HK0 : Hid (Mks w b n f) := hk
  have HKW : Hid (Mks W b n f) := hk.keep HB.out
  have HR : Hid _ := hR
  clear hT hk hR
  go_enter Tryz.func70, Tryz.ntmps70
  go_upto_region 1 with fail
  rw [HW.out]
  clear HW
  go_wp2_with fail
  refine (mark_any b n f ent W HKW.out (by omega) (by omega) (by omega)).mono ?_
  rintro e w1 ⟨rfl, hk1, hg1⟩
  have j0 := HKW.out.cell hg1 i0
  have HK1 : Hid (Mks w1 b (n + 1) (addK (setF f ent) (gLab text) 0)) := hk1.fit fun y => (addK_zero _ _ y).symm
  have HG1 : Hid (w.grownBy w1 (some b)) := (grown_of HB.out).trans hg1
  clear i0 i1 hk1 hg1
  go_wp2
  go_loopw [15] (fun i wr => ∃ (k m : Nat), i = .int .i64 k ∧ k ≤ text.length ∧ m ≤ n + 1 + k ∧ Hid (Mks wr b m (addK (setF f ent) (gLab text) k)) ∧ Hid (w.grownBy wr (some b))) (fun i _ => text.length - (intOf i).toNat)
  case atStart => exact ⟨0, n + 1, rfl, Nat.zero_le _, Nat.le_refl _, HK1, HG1⟩
  case round =>
    clear HK1 HG1 j0
    obtain ⟨k, m, rfl, hk, hm, HK, HG⟩ := hrel
    by_cases hlt : k < text.length
    · obtain ⟨a, rfl, q⟩ := (HK0.out.ints HG.out HT.out) k hlt
      obtain ⟨hv0, hv1⟩ := HR.out k hlt
      have C := isatarget_any (nth text k) hv0 hv1 wr
      have HY : Hid (isT (nth text k) = true → gLab text k = some (tgV (nth text k)) ∧ 0 ≤ tgV (nth text k) ∧ tgV (nth text k) < 16384) := fun h => ⟨gLab_yes h, tg_pos h⟩
      have HN : Hid (isT (nth text k) = false → gLab text k = none) := gLab_no
      generalize nth text k = v at *
      generalize isT v = t at *
      generalize tgV v = z at *
      cases t with
      | false =>
        have HG0 : Hid (gLab text k = none) := HN.out rfl
        clear HY HN
        go_wp2_with (go_at_call 58; refine C.mono ?_; rintro e w2 ⟨rfl, hb2⟩)
        go_roundw
        case rel => exact ⟨k + 1, m, by go_num, by omega, by omega, (HK.out.keep hb2).fit (addK_none HG0.out), grown_on HG.out hb2⟩
        case measure => simp [intOf]; omega
      | true =>
        obtain ⟨hg, hz0, hz1⟩ := HY.out rfl
        have HG0 : Hid (gLab text k = some z) := hg
        clear HY HN hg
        go_wp2_with (first
          | (go_at_call 58; refine C.mono ?_; rintro e w2 ⟨rfl, hb2⟩)
          | (go_at_call 69; refine (mark_any b m _ z _ (HK.out.keep hb2) (by omega) (by omega) (by omega)).mono ?_; rintro e w3 ⟨rfl, hk3, hg3⟩))
        go_roundw
        case rel => exact ⟨k + 1, m + 1, by go_num, by omega, by omega, hk3.fit (addK_some HG0.out), (grown_on HG.out hb2).trans hg3⟩
        case measure => simp [intOf]; omega
    · obtain rfl : k = text.length := by omega
      go_wp2
      refine bodyPost_end (v := .tuple #[]) (by simp [results, Tryz.results70, go_sem]) rfl ?_
      exact ⟨rfl, HK.out.more hm, HG.out⟩



end Go.Proofs.YtfnicgihpelhhaaGreat

namespace Go.Proofs.YtfnicgihpelhhaaGreat
open Go.RowKit

set_option maxRecDepth 100000 in
set_option maxHeartbeats 2000000 in
theorem markbegins_any (A1 A2 : Option Addr) (c1 ml c2 : Nat) (ent : Int) (text : List Int) (b n : Nat) (f : Int → Bool) (w : World) (hT : IntsAt w A1 .u32 text) (hR : ∀ i, i < text.length → 0 ≤ nth text i ∧ nth text i < 4294967296) (hl : text.length ≤ 1048576) (he0 : 0 ≤ ent) (he1 : ent ≤ 1048576) (hk : Mks w b n f) (hn : n ≤ 1000000) :
    Calls Tryz.prog 46 #[.agg #[.slice A1 text.length c1, .int .i64 ent, .slice A2 ml c2], .map (some b)] w (MkP b (n + 2 + text.length + text.length) (addK (addK (setF (setF f 0) ent) (gLab text) text.length) (gEnd text) text.length) w) := by
  obtain ⟨W, HW⟩ : ∃ W, Hid (w.alloc (.cells #[.slice A1 text.length c1, .int .i64 ent, .slice A2 ml c2] 25) = W) := ⟨_, rfl⟩
  have HB : Hid (Below w.heap.size w W) := by unfold Hid; rw [← HW.out]; exact lb_alloc (Below.refl _ _) _
  have i0 : W.cell? ⟨w.heap.size, 0, none⟩ = some (.slice A1 text.length c1) := by rw [← HW.out]; simp [go_sem]
  have i1 : W.cell? ⟨w.heap.size, 1, none⟩ = some (.int .i64 ent) := by rw [← HW.out]; simp [go_sem]
  have i2 : W.cell? ⟨w.heap.size, 2, none⟩ = some (.slice A2 ml c2) := by rw [← HW.out]; simp [go_sem]
  have HT : Hid (IntsAt w A1 .u32 text) := hT
  have HK0 : Hid (Mks w b n f) := hk
  have HKW : Hid (Mks W b n f) := hk.keep HB.out
  have HR : Hid _ := hR
  clear hT hk hR
  go_enter Tryz.func46, Tryz.ntmps46
  go_upto_region 1 with fail
  rw [HW.out]
  clear HW
  go_wp2_with fail
  refine (mark_any b n f 0 W HKW.out (by omega) (by omega) (by omega)).mono ?_
  rintro e w1 ⟨rfl, hk1, hg1⟩
  have j0 := HKW.out.cell hg1 i0
  have j1 := HKW.out.cell hg1 i1
  have j2 := HKW.out.cell hg1 i2
  have HK1 : Hid (Mks w1 b (n + 1) (setF f 0)) := hk1
  have HG1 : Hid (w.grownBy w1 (some b)) := (grown_of HB.out).trans hg1
  clear i0 i1 i2 hk1 hg1
  go_wp2_with fail
  refine (marklabels_any A1 A2 c1 ml c2 ent text b (n + 1) (setF f 0) w1 (HK0.out.ints HG1.out HT.out) HR.out hl he0 he1 HK1.out (by omega)).mono ?_
  rintro e w2 ⟨rfl, hk2, hg2⟩
  have k0 := HK1.out.cell hg2 j0
  have HK2 : Hid (Mks w2 b (n + 1 + 1 + text.length) (addK (addK (setF (setF f 0) ent) (gLab text) text.length) (gEnd text) 0)) := hk2.fit fun y => (addK_zero _ _ y).symm
  have HG2 : Hid (w.grownBy w2 (some b)) := HG1.out.trans hg2
  clear j0 j1 j2 hk2 hg2 HK1 HG1
  go_wp2
  go_loopw [14] (fun i wr => ∃ (k m : Nat), i = .int .i64 k ∧ k ≤ text.length ∧ m ≤ n + 2 + text.length + k ∧ Hid (Mks wr b m (addK (addK (setF (setF f 0) ent) (gLab text) text.length) (gEnd text) k)) ∧ Hid (w.grownBy wr (some b))) (fun i _ => text.length - (intOf i).toNat)
  case atStart => exact ⟨0, n + 1 + 1 + text.length, rfl, Nat.zero_le _, by omega, HK2, HG2⟩
  case round =>
    clear HK2 HG2 k0
    obtain ⟨k, m, rfl, hk, hm, HK, HG⟩ := hrel
    by_cases hlt : k < text.length
    · obtain ⟨a, rfl, q⟩ := (HK0.out.ints HG.out HT.out) k hlt
      obtain ⟨hv0, hv1⟩ := HR.out k hlt
      have C := isaends_any (nth text k) hv0 hv1 wr
      have HY : Hid (endsB (dOp (nth text k)) = true → gEnd text k = some ((k : Int) + 1)) := gEnd_yes
      have HN : Hid (endsB (dOp (nth text k)) = false → gEnd text k = none) := gEnd_no
      generalize nth text k = v at *
      generalize endsB (dOp v) = t at *
      cases t with
      | false =>
        have HG0 : Hid (gEnd text k = none) := HN.out rfl
        clear HY HN
        go_wp2_with (go_at_call 71; refine C.mono ?_; rintro e w2 ⟨rfl, hb2⟩)
        go_roundw
        case rel => exact ⟨k + 1, m, by go_num, by omega, by omega, (HK.out.keep hb2).fit (addK_none HG0.out), grown_on HG.out hb2⟩
        case measure => simp [intOf]; omega
      | true =>
        have HG0 : Hid (gEnd text k = some ((k : Int) + 1)) := HY.out rfl
        clear HY HN
        go_wp2_with (first
          | (go_at_call 71; refine C.mono ?_; rintro e w2 ⟨rfl, hb2⟩)
          | (go_at_call 69; refine (mark_any b m _ ((k : Int) + 1) _ (HK.out.keep hb2) (by omega) (by omega) (by omega)).mono ?_; rintro e w3 ⟨rfl, hk3, hg3⟩))
        go_roundw
        case rel => exact ⟨k + 1, m + 1, by go_num, by omega, by omega, hk3.fit (addK_some HG0.out), (grown_on HG.out hb2).trans hg3⟩
        case measure => simp [intOf]; omega
    · obtain rfl : k = text.length := by omega
      go_wp2
      refine bodyPost_end (v := .tuple #[]) (by simp [results, Tryz.results46, go_sem]) rfl ?_
      exact ⟨rfl, HK.out.more hm, HG.out⟩



end Go.Proofs.YtfnicgihpelhhaaGreat
