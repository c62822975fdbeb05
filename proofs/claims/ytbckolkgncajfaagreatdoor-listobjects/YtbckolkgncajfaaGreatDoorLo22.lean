/-
  line of package list: words as a line are written into a builder. symbol of package list: the line of a symbol.
-/
import Derived.Test.YtbckolkgncajfaaGreatDoorProg
import Derived.WalkKit
import Derived.WalkSpells
import Derived.WalkLawsBesides
import Derived.RowKit3
import Derived.Below
import Derived.Deep.QuietTactic
import Derived.BigQuiet
import Derived.WalkSmall
import Derived.Laws.Rows
import Derived.Test.YtbckolkgncajfaaGreatDoorLo21
import Derived.Test.YtbckolkgncajfaaGreatDoorLo10
import Derived.Deep.RegionHeld3
namespace Go.Proofs.YtbckolkgncajfaaGreatDoor
open Go.RowKit

theorem Puts.len {g : Nat} {l e : List UInt8} {w w' : World} (h : Puts g l e w w') : Bd w' g (l ++ e) := h.1
set_option maxHeartbeats 1000000 in
set_option maxRecDepth 100000 in
theorem line_any (g : Nat) (l : List UInt8) (A : Option Addr) (c : Nat) (ps : List ByteArray) (w : World) (h : Bd w g l) (hp : Strs w (.slice A ps.length c) ps) (hlen : l.length + (lineB ps).length ≤ 140737488355328) (hps : ps.length ≤ 1048576) :
    Calls Tryz.prog 81 #[.pointer (some ⟨g, 0, none⟩), .slice A ps.length c] w fun e w' => e = .returned (.tuple #[]) ∧ Puts g l (lineB ps) w w' := by
  have hlen' : l.length + (joinB [32] ps).length + 1 ≤ 140737488355328 := by
    unfold lineB at hlen
    rw [List.length_append] at hlen
    simp only [List.length_cons, List.length_nil] at hlen
    omega
  have CA := all_any g l ⟨#[32]⟩ A c ps w h hp (by show _ + (joinB [32] ps).length ≤ _; omega) (by omega)
  clear h hp hlen
  go_enter Tryz.func81, Tryz.ntmps81
  go_wp2_with fail
  refine CA.mono ?_
  rintro e w1 ⟨rfl, hq⟩
  have HQ : Hid (Puts g l (joinB [32] ps) w w1) := hq
  have CB := wbyte_any g (l ++ joinB [32] ps) 10 w1 hq.1 (by rw [List.length_append]; omega)
  clear CA hq
  go_wp2_with fail
  refine CB.mono ?_
  rintro e w2 ⟨rfl, hq⟩
  have HR : Hid (Puts g l (lineB ps) w w2) := HQ.out.trans hq
  clear CB hq
  go_wp2
  go_end0
  exact ⟨rfl, HR.out⟩

end Go.Proofs.YtbckolkgncajfaaGreatDoor

namespace Go.Proofs.YtbckolkgncajfaaGreatDoor
open Go.RowKit

/-- The words of the kinds of symbols lie in their variable. -/
def Kd (w : World) : Prop := ∀ k : Nat, k < 4 → w.cell? ⟨1, k, none⟩ = some (.string (kindB k))
theorem Kd.below {w w1 : World} (h : Kd w) (hb : Below w.heap.size w w1) : Kd w1 := fun k hk => lkeep hb (h k hk)
theorem box3_cell {w : World} {B : Nat} {x y z : Value} {t : TypeId} (h : w.heap[B]? = some (.cells #[x, y, z] t (0, 0))) : w.cell? ⟨B, 0, none⟩ = some x ∧ w.cell? ⟨B, 1, none⟩ = some y ∧ w.cell? ⟨B, 2, none⟩ = some z := by
  refine ⟨?_, ?_, ?_⟩ <;> simp [World.cell?, h]
set_option maxHeartbeats 2000000 in
set_option maxRecDepth 100000 in
theorem sym_any (g : Nat) (l : List UInt8) (nm : ByteArray) (kd : Nat) (at_ : Int) (hk : kd ≤ 3) (ha : In64 at_) (w : World) (h : Bd w g l) (hlen : l.length + (lineB (symL (nm, (kd : Int), at_))).length ≤ 140737488355328) (ht : Tab w) (hK : Kd w) :
    Calls Tryz.prog 83 #[.pointer (some ⟨g, 0, none⟩), .agg #[.string nm, .int .i8 kd, .int .i64 at_]] w fun e w' => e = .returned (.tuple #[]) ∧ Puts g l (lineB (symL (nm, (kd : Int), at_))) w w' := by
  obtain ⟨i0, hi, hz0, hz1, hz2⟩ := info9
  have HD : Hid (Bd w g l) := h
  have HA : Hid (In64 at_) := ha
  have HT : Hid (Tab w) := ht
  have HL : Hid (l.length + (lineB (symL (nm, (kd : Int), at_))).length ≤ 140737488355328) := hlen
  obtain ⟨W, hW⟩ : ∃ W, W = w.alloc (.cells #[.string nm, .int .i8 kd, .int .i64 at_] 69) := ⟨_, rfl⟩
  have hB0 : Below w.heap.size w W := by rw [hW]; exact lb_alloc (Below.refl _ _) _
  have hX0 : W.heap[w.heap.size]? = some (.cells #[.string nm, .int .i8 kd, .int .i64 at_] 69 (0, 0)) := by rw [hW]; exact heap_alloc_new _ _
  have hZ0 : w.heap.size < W.heap.size := by rw [hW]; simp
  have ck := lkeep hB0 (hK kd (by omega))
  obtain ⟨d0, d1, d2⟩ := box3_cell hX0
  have B1 : Below w.heap.size w W.drew := hB0.drew
  have BK : ∀ o, Below W.heap.size W (W.alloc o).drew := fun o => (lb_alloc (Below.refl _ _) o).drew
  have HX0 : Hid _ := hX0
  have HZ0 : Hid _ := hZ0
  have hk0 : (0 : Int) ≤ (kd : Int) := by omega
  have hk1 : (kd : Int) < 4 := by omega
  clear h ha ht hlen hK hX0 hZ0
  go_enter Tryz.func83, Tryz.ntmps83
  go_upto_region 1 with fail
  rw [← hW]
  clear hW
  go_region_held3 (fun X => X.cell? ⟨w.heap.size, 0, none⟩ = some (.string nm) ∧ X.cell? ⟨w.heap.size, 1, none⟩ = some (.int .i8 kd) ∧ X.cell? ⟨1, kd, none⟩ = some (.string (kindB kd))) (first | (refine ⟨lkeep (BK _) ?_, lkeep (BK _) ?_, lkeep (BK _) ?_⟩ <;> (simp [*]; done)) | (simp [*]; done))
    (fail)
  have HBW : Hid (Below W.heap.size W (W.alloc (.cells #[.string (kindB kd), .string nm] 9)).drew) := BK _
  have HB2 : Hid (Below w.heap.size w (W.alloc (.cells #[.string (kindB kd), .string nm] 9)).drew) := lb_trans hB0 HBW.out
  have HX2 : Hid ((W.alloc (.cells #[.string (kindB kd), .string nm] 9)).drew.heap[w.heap.size]? = some (.cells #[.string nm, .int .i8 kd, .int .i64 at_] 69 (0, 0))) := (HBW.out.block w.heap.size HZ0.out).trans HX0.out
  have HO2 : Hid ((W.alloc (.cells #[.string (kindB kd), .string nm] 9)).drew.ownsRow w.heap.size 9 1 (.slice (some ⟨W.heap.size, 0, none⟩) 2 2) 2 ([kindB kd, nm].map Value.string)) := own_base (new_strs W [kindB kd, nm] (by simp)) hB0.size
  rename_i hS'
  clear hS' ck d0 d1 d2 BK B1 HX0 HZ0
  obtain ⟨d0, d1, d2⟩ := box3_cell HX2.out
  have hsW : w.heap.size ≤ W.heap.size := hB0.size
  clear hB0
  by_cases h3 : kd = 3
  · have HS : Hid (symL (nm, (kd : Int), at_) = [kindB kd, nm]) := by unfold Hid symL; rw [if_pos (by simp; omega)]; rfl
    have hx : ((kd : Int) != 3) = false := by simp; omega
    rw [HS.out] at HL
    have CL := line_any g l (some ⟨W.heap.size, 0, none⟩) 2 [kindB kd, nm] _ (HD.out.keep HB2.out) (own_zero HO2.out) HL.out (by simp)
    clear h3
    go_wp2_with fail
    refine CL.mono ?_
    rintro e w3 ⟨rfl, hq⟩
    have HQ : Hid (Puts g l (lineB (symL (nm, (kd : Int), at_))) w w3) := by unfold Hid; rw [HS.out]; exact ⟨hq.1, (To.of HB2.out).trans hq.2⟩
    clear hq CL
    go_wp2
    go_end0
    exact ⟨rfl, HQ.out⟩
  · have HS : Hid (symL (nm, (kd : Int), at_) = [kindB kd, nm] ++ [numB at_]) := by unfold Hid symL; rw [if_neg (by simp; omega)]
    have hx : ((kd : Int) != 3) = true := by simp; omega
    have CN := lnum_any at_ HA.out _ (HT.out.below HB2.out)
    clear h3
    go_wp2_with fail
    refine CN.mono ?_
    rintro e w2 ⟨rfl, hb2⟩
    have HB3 : Hid (Below w.heap.size w (w2.alloc (.cells #[.string (numB at_)] 9))) := lb_alloc (lb_trans HB2.out hb2) _
    have hO := own_keep HO2.out (lb_alloc hb2 (.cells #[.string (numB at_)] 9))
    have hsz : w.heap.size ≤ w2.heap.size := (lb_trans HB2.out hb2).size
    clear hb2 CN d0 d1 d2
    go_wp2_with (at_builtin; refine wpList_append_own _ rfl (.tmp 15) (.tmp 19) 25 rfl w.heap.size 9 i0 (.string ⟨#[]⟩) 1 16 Tryz.underlying25 hi hz0 hz1 hz2 rfl (by decide) (.slice (some ⟨W.heap.size, 0, none⟩) 2 2) 2 ([kindB kd, nm].map Value.string) rfl hO ⟨w2.heap.size, 0, none⟩ 1 1 [.string (numB at_)] rfl rfl (fun j u hu => World.news_of_block (heap_alloc_new _ _) j u hu) (fun u hu => by cases hu with | head => rfl | tail _ h => cases h) (by unfold maxLen; omega) (by omega) (by simp; omega) ?_; intro v' w3 hown' hgrow _; have HO3 : Hid (w3.ownsRow w.heap.size 9 1 v' 3 ((symL (nm, (kd : Int), at_)).map Value.string)) := (by unfold Hid; rw [HS.out]; exact hown'); have HB4 : Hid (Below w.heap.size w w3) := HB3.out.grown hgrow HB3.out.size (fun j hj => (hO.lt j hj).1); clear hown' hgrow)
    obtain ⟨A0, k0, rfl, -⟩ := own_any HO3.out
    have e3 : (symL (nm, (kd : Int), at_)).length = 3 := by rw [HS.out]; rfl
    have CL := line_any g l A0 k0 (symL (nm, (kd : Int), at_)) w3 (HD.out.keep HB4.out) (by unfold Strs; rw [e3]; exact own_zero HO3.out) HL.out (by omega)
    rw [e3] at CL
    go_wp2_with fail
    refine CL.mono ?_
    rintro e w4 ⟨rfl, hq⟩
    have HQ : Hid (Puts g l (lineB (symL (nm, (kd : Int), at_))) w w4) := ⟨hq.1, (To.of HB4.out).trans hq.2⟩
    clear hq CL
    go_wp2
    go_end0
    exact ⟨rfl, HQ.out⟩

end Go.Proofs.YtbckolkgncajfaaGreatDoor
