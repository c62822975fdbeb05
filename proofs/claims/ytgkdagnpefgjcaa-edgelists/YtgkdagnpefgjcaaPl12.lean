/-
  Where control can go, plain. Edges turned round twice are the edges. leaves and Check of package image, by what they return; each word is of 32 bits.
-/
import Derived.Test.YtgkdagnpefgjcaaProg
import Derived.WalkKit
import Derived.WalkSpells
import Derived.WalkLawsBesides
import Derived.RowKit3
import Derived.Below
import Derived.Deep.QuietTactic
import Derived.BigQuiet
import Derived.WalkSmall
import Derived.Laws.Rows
import Derived.Test.YtgkdagnpefgjcaaPl05
import Derived.Test.YtgkdagnpefgjcaaPl11
import Derived.Test.YtgkdagnpefgjcaaPl04
import Derived.Test.YtgkdagnpefgjcaaPl09
namespace Go.Proofs.Ytgkdagnpefgjcaa
open Go.RowKit

def goesF (op n : Int) (next : Bool) (place : Int) (known : Bool) : Bool :=
  if op = -1 ∨ op = 0 ∨ op = 21 then false else if op = 15 ∨ op = 17 then (n == place) else if op = 16 then (n == place || next) else if op = 18 ∨ op = 19 then known else next
/-- The last word of a block. -/
def lastW (text : List Int) (ent : Int) (i : Nat) : Int := nth text (rSym (blkL text ent) i - 1).toNat
/-- May control go from the block i to the block k? -/
def edgB (text : List Int) (ent : Int) (i k : Nat) : Bool := goesF (dOp (lastW text ent i)) (dN (lastW text ent i)) ((k : Int) == (i : Int) + 1) (rAt (blkL text ent) k) (takF text (rAt (blkL text ent) k) || sitF text (rAt (blkL text ent) k))
def edgR (text : List Int) (ent : Int) (i : Nat) (y : Int) : Bool := edgB text ent i y.toNat
def edgT (text : List Int) (ent : Int) (k : Nat) : List (List Int) := (List.range k).map fun i => plcT (edgR text ent i) (blkL text ent).length
theorem edgT_succ (text : List Int) (ent : Int) (k : Nat) : edgT text ent (k + 1) = edgT text ent k ++ [plcT (edgR text ent k) (blkL text ent).length] := by simp [edgT, List.range_succ]
theorem edgT_len (text : List Int) (ent : Int) (k : Nat) : (edgT text ent k).length = k := by simp [edgT]
/-- What a block of an image that may be is. -/
theorem blk_len_le (text : List Int) (ent : Int) : (blkL text ent).length ≤ text.length := by
  have := plcT_len (begF text ent) text.length
  unfold blkL
  rw [zipN_len]
  omega
theorem blk_in {text : List Int} {ent : Int} {k : Nat} (hk : k < (blkL text ent).length) : 0 ≤ rAt (blkL text ent) k ∧ rAt (blkL text ent) k < rSym (blkL text ent) k ∧ rSym (blkL text ent) k ≤ (text.length : Int) := by
  have hk2 : k < (plcT (begF text ent) text.length).length := by rw [← blkN_len]; exact hk
  have h1 := blk_from (f := begF text ent) (n := text.length) hk2
  have h2 := blk_wide (f := begF text ent) (n := text.length) hk2
  have h3 := blk_to (f := begF text ent) (n := text.length) hk2
  have h4 := plcT_mem.1 (nth_mem hk2)
  have e : blkN (begF text ent) text.length = blkL text ent := rfl
  rw [e] at h1 h2 h3
  refine ⟨by rw [h1]; exact h4.1, h2, ?_⟩
  rw [h3]
  split
  · next h => have := (plcT_mem.1 (nth_mem h)).2.1; omega
  · exact Int.le_refl _


end Go.Proofs.Ytgkdagnpefgjcaa

namespace Go.Proofs.Ytgkdagnpefgjcaa
open Go.RowKit

theorem plcT_congr {F G : Int → Bool} {n : Nat} (h : ∀ y : Nat, y < n → F (y : Int) = G (y : Int)) : plcT F n = plcT G n := by
  unfold plcT
  congr 1
  refine List.filter_congr fun y hy => ?_
  exact h y (List.mem_range.1 hy)
def genT (f : Nat → Int → Bool) (n : Nat) : List (List Int) := (List.range n).map fun i => plcT (f i) n
theorem genT_congr {f g : Nat → Int → Bool} {n : Nat} (h : ∀ i y : Nat, i < n → y < n → f i (y : Int) = g i (y : Int)) : genT f n = genT g n := by
  unfold genT
  refine List.map_congr_left fun i hi => plcT_congr fun y hy => h i y (List.mem_range.1 hi) hy
theorem genT_len (f : Nat → Int → Bool) (n : Nat) : (genT f n).length = n := by simp [genT]
theorem back_gen (f : Nat → Int → Bool) (n : Nat) : backT (genT f n) n = genT (fun k y => f y.toNat (k : Int)) n := by
  have e : backT (genT f n) n = genT (fun k y => backR (genT f n) k y) n := by
    unfold backT
    rw [genT_len]
    rfl
  rw [e]
  refine genT_congr fun k y hk hy => ?_
  unfold backR hasZ
  rw [show ((y : Int)).toNat = y by omega, show rowZ (genT f n) y = plcT (f y) n from rowZ_map hy, Bool.eq_iff_iff, decide_eq_true_eq, plcT_mem]
  exact ⟨fun h => h.2.2, fun h => ⟨by omega, by omega, h⟩⟩
theorem back_back (text : List Int) (ent : Int) : backT (backT (edgT text ent (blkL text ent).length) (blkL text ent).length) (blkL text ent).length = edgT text ent (blkL text ent).length := by
  have e : edgT text ent (blkL text ent).length = genT (edgR text ent) (blkL text ent).length := rfl
  rw [e, back_gen, back_gen]
  refine genT_congr fun i y _ _ => ?_
  show edgR text ent ((i : Int)).toNat (((y : Int)).toNat : Int) = edgR text ent i (y : Int)
  rw [show ((i : Int)).toNat = i by omega, show ((y : Int)).toNat = y by omega]


end Go.Proofs.Ytgkdagnpefgjcaa

namespace Go.Proofs.Ytgkdagnpefgjcaa
open Go.RowKit

theorem leaves_any (v : Int) (h0 : 0 ≤ v) (h1 : v < 4294967296) (w : World) : Calls Try.prog 64 #[.int .u32 v] w fun e w' => e = .returned (.bool (lastOK v)) ∧ Below w.heap.size w w' := by
  have C := isadecode_any v h0 h1 w
  unfold lastOK
  generalize dOp v = x at *
  generalize dD v = x1 at *
  generalize dA v = x2 at *
  generalize dB v = x3 at *
  generalize dN v = x4 at *
  go_enter Try.func64, Try.ntmps64
  go_wp2_with fail
  refine C.mono ?_
  rintro e w1 ⟨rfl, hb⟩
  clear C
  go_wp2
  all_goals (
    go_ret
    refine ⟨retB ?_, hb⟩
    simp_all)
theorem lb_box0 {w w1 : World} {B : Nat} {cs : Array Value} {t : TypeId} (h : w.heap[B]? = some (.cells cs t (0, 0))) (hb : Below w.heap.size w w1) : w1.heap[B]? = some (.cells cs t (0, 0)) := by
  rw [hb.block B (Array.getElem?_eq_some_iff.1 h).1]; exact h
def ChkP (E N : Int) (w : World) (e : Ending) (w' : World) : Prop := e = .returned (.tuple #[.int .i64 E, .int .i64 N]) ∧ Below w.heap.size w w'
set_option maxRecDepth 100000 in
set_option maxHeartbeats 1000000 in
theorem check_any (A1 A2 : Option Addr) (c1 ml c2 : Nat) (ent : Int) (text : List Int) (w : World) (hT : IntsAt w A1 .u32 text) (hR : ∀ i, i < text.length → 0 ≤ nth text i ∧ nth text i < 4294967296) (hl : text.length ≤ 1048576) (hm : ml ≤ 1048576) :
    Calls Try.prog 54 #[.agg #[.slice A1 text.length c1, .int .i64 ent, .slice A2 ml c2]] w (ChkP (checkI text ml ent).1 (checkI text ml ent).2 w) := by
  by_cases h0 : text.length = 0
  · rw [check0 h0, h0]
    go_enter Try.func54, Try.ntmps54
    go_wp2
    go_ret2
    exact ⟨rfl, lb_alloc (Below.refl _ _) _⟩
  have n0 : ((text.length : Int) == 0) = false := by simpa using h0
  by_cases h1 : 16384 < text.length
  · rw [check1 h0 h1]
    go_enter Try.func54, Try.ntmps54
    go_wp2
    go_ret2
    exact ⟨rfl, lb_alloc (Below.refl _ _) _⟩
  by_cases h2 : 4096 < ml
  · rw [check2 h0 h1 h2]
    go_enter Try.func54, Try.ntmps54
    go_wp2
    go_ret2
    exact ⟨rfl, lb_alloc (Below.refl _ _) _⟩
  by_cases h3 : ent < 0
  · rw [check3 h0 h1 h2 (.inl h3)]
    go_enter Try.func54, Try.ntmps54
    go_wp2
    go_ret2
    exact ⟨rfl, lb_alloc (Below.refl _ _) _⟩
  by_cases h4 : (text.length : Int) ≤ ent
  · rw [check3 h0 h1 h2 (.inr h4)]
    go_enter Try.func54, Try.ntmps54
    go_wp2
    go_ret2
    exact ⟨rfl, lb_alloc (Below.refl _ _) _⟩
  have HP : Hid (Past text ml ent) := ⟨by omega, by omega, by omega, by omega, by omega⟩
  have HB0 : Hid (Below w.heap.size w (w.alloc (.cells #[.slice A1 text.length c1, .int .i64 ent, .slice A2 ml c2] 25))) := lb_alloc (Below.refl _ _) _
  have HX : Hid ((w.alloc (.cells #[.slice A1 text.length c1, .int .i64 ent, .slice A2 ml c2] 25)).heap[w.heap.size]? = some (.cells #[.slice A1 text.length c1, .int .i64 ent, .slice A2 ml c2] 25 (0, 0))) := heap_alloc_new _ _
  have HS : Hid (∀ i, i < text.length → ∃ a : Addr, A1 = some a) := fun i hi => (hT i hi).imp fun a h => h.1
  clear h1 h2 h3 h4
  have hlen : text.length ≤ 16384 := HP.out.len
  have hml := HP.out.mem
  have hpos := HP.out.pos
  have he0 := HP.out.ent0
  have he1 := HP.out.ent1
  go_enter Try.func54, Try.ntmps54
  go_wp2
  go_loopw [37] (fun i wr => ∃ k : Nat, i = .int .i64 k ∧ k ≤ text.length ∧ Hid (∀ j, j < k → farT text j = false) ∧ Hid (Below (w.alloc (.cells #[.slice A1 text.length c1, .int .i64 ent, .slice A2 ml c2] 25)).heap.size (w.alloc (.cells #[.slice A1 text.length c1, .int .i64 ent, .slice A2 ml c2] 25)) wr)) (fun i _ => text.length - (intOf i).toNat)
  case atStart => exact ⟨0, rfl, by omega, fun j hj => by omega, Below.refl _ _⟩
  case round =>
    obtain ⟨k, rfl, hk, hj, hb⟩ := hrel
    have HBr : Hid (Below w.heap.size w wr) := lb_trans HB0.out hb.out
    by_cases hlt : k < text.length
    · obtain ⟨a, rfl, q⟩ := (hT.keep HBr.out) k hlt
      obtain ⟨hv0, hv1⟩ := hR k hlt
      have C := isatarget_any (nth text k) hv0 hv1 wr
      have HF : Hid (farT text k = (isT (nth text k) && decide ((text.length : Int) ≤ tgV (nth text k)))) := rfl
      generalize nth text k = v at *
      generalize isT v = t at *
      generalize tgV v = z at *
      cases t with
      | false =>
        go_wp2_with (go_at_call 63; refine C.mono ?_; rintro e w1 ⟨rfl, hb1⟩)
        go_roundw
        case rel => exact ⟨k + 1, by go_num, by omega, fun j hj1 => by
          by_cases hjk : j = k
          · subst hjk; rw [HF.out]; rfl
          · exact hj.out j (by omega), lb_trans hb.out hb1⟩
        case measure => simp [intOf]; omega
      | true =>
        by_cases hz : (text.length : Int) ≤ z
        · go_wp2_with (go_at_call 63; refine C.mono ?_; rintro e w1 ⟨rfl, hb1⟩)
          go_ret2
          have e := check_far HP.out hlt hj.out (by rw [HF.out]; simpa using hz)
          rw [e]
          exact ⟨rfl, lb_trans HBr.out hb1⟩
        · go_wp2_with (go_at_call 63; refine C.mono ?_; rintro e w1 ⟨rfl, hb1⟩)
          go_roundw
          case rel => exact ⟨k + 1, by go_num, by omega, fun j hj1 => by
            by_cases hjk : j = k
            · subst hjk; rw [HF.out]; simpa using hz
            · exact hj.out j (by omega), lb_trans hb.out hb1⟩
          case measure => simp [intOf]; omega
    · obtain rfl : k = text.length := by omega
      obtain ⟨a, rfl, q⟩ := (hT.keep HBr.out) (text.length - 1) (by omega)
      have hx := lb_box0 HX.out hb.out
      have x0 : wr.cell? ⟨w.heap.size, 0, none⟩ = some (.slice (some a) text.length c1) := by simp [World.cell?, hx]
      obtain ⟨hv0, hv1⟩ := hR (text.length - 1) (by omega)
      have C := leaves_any (nth text (text.length - 1)) hv0 hv1 wr
      have HE : Hid _ := check_end HP.out hj.out
      have hc : ((text.length - 1 : Nat) : Int) = (text.length : Int) - 1 := by omega
      generalize nth text (text.length - 1) = v at *
      generalize lastOK v = t at *
      cases t with
      | true =>
        go_wp2_with (go_at_call 64; refine C.mono ?_; rintro e w1 ⟨rfl, hb1⟩)
        go_ret2
        rw [HE.out]
        exact ⟨rfl, lb_trans HBr.out hb1⟩
      | false =>
        go_wp2_with (go_at_call 64; refine C.mono ?_; rintro e w1 ⟨rfl, hb1⟩)
        go_ret2
        rw [HE.out]
        exact ⟨by simp; omega, lb_trans HBr.out hb1⟩





end Go.Proofs.Ytgkdagnpefgjcaa
