/-
  The statements' own small run: what is told there. The statements' own small run returns true.
-/
import Derived.Test.YtbckolkgncajfaaGreatDoorProg
import Derived.WalkKit
import Derived.WalkSpells
import Derived.WalkLawsBesides
import Derived.RowKit3
import Derived.Below
import Derived.Deep.QuietTactic
import Derived.BigQuiet
import Derived.WalkSmall
import Derived.Laws.Rows
import Derived.Test.YtbckolkgncajfaaGreatDoorLo35
namespace Go.Proofs.YtbckolkgncajfaaGreatDoor
open Go.RowKit

def lvC : List Int := [2281701376, 2013265921]
def lvS : List Sym := [(⟨#[102]⟩, 3, 0), (⟨#[109, 97, 105, 110]⟩, 1, 0)]
def lvT : ByteArray := ⟨#[111, 98, 106, 101, 99, 116, 32, 97, 10, 100, 97, 116, 97, 32, 50, 32, 55, 10, 119, 97, 110, 116, 101, 100, 32, 102, 10, 103, 108, 111, 98, 97, 108, 32, 109, 97, 105, 110, 32, 48, 10, 99, 97, 108, 108, 32, 102, 10, 106, 117, 109, 112, 32, 49, 10]⟩
theorem lv_check : checkC ⟨#[97]⟩ lvC 2 1 lvS [(0, 0)] = (0, 0) := by decide +kernel
theorem lv_text : bs (ansT ⟨#[97]⟩ lvC 2 [7] lvS [(0, 0)]) = lvT := by decide +kernel
theorem no_check : checkC ⟨#[]⟩ [] 0 0 [] [] = (20, -1) := by decide +kernel
theorem no_text : bs (ansT ⟨#[]⟩ [] 0 [] [] []) = ⟨#[]⟩ := by decide +kernel
theorem one_line : bs (lineL 1) = ⟨#[119, 111, 114, 100, 32, 49]⟩ := by decide +kernel

end Go.Proofs.YtbckolkgncajfaaGreatDoor

namespace Go.Proofs.YtbckolkgncajfaaGreatDoor
open Go.RowKit

theorem al_sz (w : World) (o : Obj) : (w.alloc o).heap.size = w.heap.size + 1 := by simp
theorem lv_in (w : World) : ObjIn ((((w.alloc (.cells #[.int .u32 2281701376, .int .u32 2013265921] 31)).alloc (.cells #[.int .i64 7] 2)).alloc (.cells #[.string ⟨#[102]⟩, .int .i8 3, .int .i64 0, .string ⟨#[109, 97, 105, 110]⟩, .int .i8 1, .int .i64 0] 69)).alloc (.cells #[.int .i64 0, .int .i64 0] 71)) (some ⟨w.heap.size, 0, none⟩) (some ⟨w.heap.size + 1, 0, none⟩) (some ⟨w.heap.size + 1 + 1, 0, none⟩) (some ⟨w.heap.size + 1 + 1 + 1, 0, none⟩) 1 ⟨#[97]⟩ lvC 2 [7] lvS [(0, 0)] := by
  have k0 : ((((w.alloc (.cells #[.int .u32 2281701376, .int .u32 2013265921] 31)).alloc (.cells #[.int .i64 7] 2)).alloc (.cells #[.string ⟨#[102]⟩, .int .i8 3, .int .i64 0, .string ⟨#[109, 97, 105, 110]⟩, .int .i8 1, .int .i64 0] 69)).alloc (.cells #[.int .i64 0, .int .i64 0] 71)).heap[w.heap.size]? = some (.cells #[.int .u32 2281701376, .int .u32 2013265921] 31 (0, 0)) := by
    rw [Below.heap_alloc _ _ _ (by simp only [al_sz]; omega), Below.heap_alloc _ _ _ (by simp only [al_sz]; omega), Below.heap_alloc _ _ _ (by simp only [al_sz]; omega)]
    exact heap_alloc_new _ _
  have k1 : ((((w.alloc (.cells #[.int .u32 2281701376, .int .u32 2013265921] 31)).alloc (.cells #[.int .i64 7] 2)).alloc (.cells #[.string ⟨#[102]⟩, .int .i8 3, .int .i64 0, .string ⟨#[109, 97, 105, 110]⟩, .int .i8 1, .int .i64 0] 69)).alloc (.cells #[.int .i64 0, .int .i64 0] 71)).heap[w.heap.size + 1]? = some (.cells #[.int .i64 7] 2 (0, 0)) := by
    rw [Below.heap_alloc _ _ _ (by simp only [al_sz]; omega), Below.heap_alloc _ _ _ (by simp only [al_sz]; omega)]
    have := heap_alloc_new (w.alloc (.cells #[.int .u32 2281701376, .int .u32 2013265921] 31)) (.cells #[.int .i64 7] 2)
    rwa [al_sz] at this
  have k2 : ((((w.alloc (.cells #[.int .u32 2281701376, .int .u32 2013265921] 31)).alloc (.cells #[.int .i64 7] 2)).alloc (.cells #[.string ⟨#[102]⟩, .int .i8 3, .int .i64 0, .string ⟨#[109, 97, 105, 110]⟩, .int .i8 1, .int .i64 0] 69)).alloc (.cells #[.int .i64 0, .int .i64 0] 71)).heap[w.heap.size + 1 + 1]? = some (.cells #[.string ⟨#[102]⟩, .int .i8 3, .int .i64 0, .string ⟨#[109, 97, 105, 110]⟩, .int .i8 1, .int .i64 0] 69 (0, 0)) := by
    rw [Below.heap_alloc _ _ _ (by simp only [al_sz]; omega)]
    have := heap_alloc_new ((w.alloc (.cells #[.int .u32 2281701376, .int .u32 2013265921] 31)).alloc (.cells #[.int .i64 7] 2)) (.cells #[.string ⟨#[102]⟩, .int .i8 3, .int .i64 0, .string ⟨#[109, 97, 105, 110]⟩, .int .i8 1, .int .i64 0] 69)
    rwa [al_sz, al_sz] at this
  have k3 : ((((w.alloc (.cells #[.int .u32 2281701376, .int .u32 2013265921] 31)).alloc (.cells #[.int .i64 7] 2)).alloc (.cells #[.string ⟨#[102]⟩, .int .i8 3, .int .i64 0, .string ⟨#[109, 97, 105, 110]⟩, .int .i8 1, .int .i64 0] 69)).alloc (.cells #[.int .i64 0, .int .i64 0] 71)).heap[w.heap.size + 1 + 1 + 1]? = some (.cells #[.int .i64 0, .int .i64 0] 71 (0, 0)) := by
    have := heap_alloc_new (((w.alloc (.cells #[.int .u32 2281701376, .int .u32 2013265921] 31)).alloc (.cells #[.int .i64 7] 2)).alloc (.cells #[.string ⟨#[102]⟩, .int .i8 3, .int .i64 0, .string ⟨#[109, 97, 105, 110]⟩, .int .i8 1, .int .i64 0] 69)) (.cells #[.int .i64 0, .int .i64 0] 71)
    rwa [al_sz, al_sz, al_sz] at this
  have c0 := fun j => Lib.cell_of_heap k0 j
  have c1 := fun j => Lib.cell_of_heap k1 j
  have c2 := fun j => Lib.cell_of_heap k2 j
  have c3 := fun j => Lib.cell_of_heap k3 j
  clear k0 k1 k2 k3
  generalize (((w.alloc (.cells #[.int .u32 2281701376, .int .u32 2013265921] 31)).alloc (.cells #[.int .i64 7] 2)).alloc (.cells #[.string ⟨#[102]⟩, .int .i8 3, .int .i64 0, .string ⟨#[109, 97, 105, 110]⟩, .int .i8 1, .int .i64 0] 69)).alloc (.cells #[.int .i64 0, .int .i64 0] 71) = X at c0 c1 c2 c3 ⊢
  refine ⟨fun i hi => ⟨_, rfl, ?_⟩, fun i hi => ⟨_, rfl, ?_⟩, fun i hi => ⟨_, rfl, ?_, ?_, ?_⟩, fun i hi => ⟨_, rfl, ?_, ?_⟩, ?_, ?_, ⟨by decide, by decide⟩, by decide, by decide, by decide, by decide, ?_, by decide⟩
  · have : i = 0 ∨ i = 1 := by simp [lvC] at hi; omega
    rcases this with rfl | rfl
    · exact c0 0
    · exact c0 1
  · obtain rfl : i = 0 := by simp at hi; omega
    exact c1 0
  · have : i = 0 ∨ i = 1 := by simp [lvS] at hi; omega
    rcases this with rfl | rfl
    · exact c2 0
    · exact c2 3
  · have : i = 0 ∨ i = 1 := by simp [lvS] at hi; omega
    rcases this with rfl | rfl
    · exact c2 1
    · exact c2 4
  · have : i = 0 ∨ i = 1 := by simp [lvS] at hi; omega
    rcases this with rfl | rfl
    · exact c2 2
    · exact c2 5
  · obtain rfl : i = 0 := by simp at hi; omega
    exact c3 0
  · obtain rfl : i = 0 := by simp at hi; omega
    exact c3 1
  · intro i hi
    have : i = 0 ∨ i = 1 := by simp [lvC] at hi; omega
    rcases this with rfl | rfl <;> decide
  · intro i hi
    obtain rfl : i = 0 := by simp at hi; omega
    exact ⟨by decide, by decide⟩
  · intro i
    have : i = 0 ∨ i = 1 ∨ 2 ≤ i := by omega
    rcases this with rfl | rfl | h
    · decide
    · decide
    · unfold sName
      rw [List.getD_eq_getElem?_getD, List.getElem?_eq_none (by simp [lvS]; omega)]
      decide
theorem no_in (w : World) : ObjIn w none none none none 0 ⟨#[]⟩ [] 0 [] [] [] :=
  ⟨fun i hi => by simp at hi, fun i hi => by simp at hi, fun i hi => by simp at hi, fun i hi => by simp at hi, fun i hi => by simp at hi, fun i hi => by simp at hi, ⟨by decide, by decide⟩, by decide, by decide, by decide, by decide, fun i => by simp [sName, symD, ByteArray.size], by decide⟩
set_option maxHeartbeats 4000000 in
set_option maxRecDepth 100000 in
theorem lives_any (w : World) (ht : Tab w) (hN : Nm w) (hK : Kd w) : Calls Tryz.prog 5 #[] w fun e w' => e = .returned (.bool true) ∧ Below w.heap.size w w' := by
  have HT : Hid (Tab w) := ht
  have HN : Hid (Nm w) := hN
  have HK : Hid (Kd w) := hK
  obtain ⟨V, hV⟩ : ∃ V, V = ((((w.alloc (.cells #[.int .u32 2281701376, .int .u32 2013265921] 31)).alloc (.cells #[.int .i64 7] 2)).alloc (.cells #[.string ⟨#[102]⟩, .int .i8 3, .int .i64 0, .string ⟨#[109, 97, 105, 110]⟩, .int .i8 1, .int .i64 0] 69)).alloc (.cells #[.int .i64 0, .int .i64 0] 71)).alloc (.cells #[.string ⟨#[97]⟩, .slice (some ⟨w.heap.size, 0, none⟩) 2 2, .int .i64 2, .slice (some ⟨w.heap.size + 1, 0, none⟩) 1 1, .slice (some ⟨w.heap.size + 1 + 1, 0, none⟩) 2 2, .slice (some ⟨w.heap.size + 1 + 1 + 1, 0, none⟩) 1 1] 65) := ⟨_, rfl⟩
  have HB0 : Hid (Below w.heap.size w ((((w.alloc (.cells #[.int .u32 2281701376, .int .u32 2013265921] 31)).alloc (.cells #[.int .i64 7] 2)).alloc (.cells #[.string ⟨#[102]⟩, .int .i8 3, .int .i64 0, .string ⟨#[109, 97, 105, 110]⟩, .int .i8 1, .int .i64 0] 69)).alloc (.cells #[.int .i64 0, .int .i64 0] 71))) := lb_alloc (lb_alloc (lb_alloc (lb_alloc (Below.refl _ _) _) _) _) _
  have HBV : Hid (Below ((((w.alloc (.cells #[.int .u32 2281701376, .int .u32 2013265921] 31)).alloc (.cells #[.int .i64 7] 2)).alloc (.cells #[.string ⟨#[102]⟩, .int .i8 3, .int .i64 0, .string ⟨#[109, 97, 105, 110]⟩, .int .i8 1, .int .i64 0] 69)).alloc (.cells #[.int .i64 0, .int .i64 0] 71)).heap.size ((((w.alloc (.cells #[.int .u32 2281701376, .int .u32 2013265921] 31)).alloc (.cells #[.int .i64 7] 2)).alloc (.cells #[.string ⟨#[102]⟩, .int .i8 3, .int .i64 0, .string ⟨#[109, 97, 105, 110]⟩, .int .i8 1, .int .i64 0] 69)).alloc (.cells #[.int .i64 0, .int .i64 0] 71)) V) := by unfold Hid; rw [hV]; exact lb_alloc (Below.refl _ _) _
  have HB1 : Hid (Below w.heap.size w V) := lb_trans HB0.out HBV.out
  have HXV : Hid (V.heap[w.heap.size + 1 + 1 + 1 + 1]? = some (.cells #[.string ⟨#[97]⟩, .slice (some ⟨w.heap.size, 0, none⟩) 2 2, .int .i64 2, .slice (some ⟨w.heap.size + 1, 0, none⟩) 1 1, .slice (some ⟨w.heap.size + 1 + 1, 0, none⟩) 2 2, .slice (some ⟨w.heap.size + 1 + 1 + 1, 0, none⟩) 1 1] 65 (0, 0))) := by
    unfold Hid; rw [hV]
    have := heap_alloc_new ((((w.alloc (.cells #[.int .u32 2281701376, .int .u32 2013265921] 31)).alloc (.cells #[.int .i64 7] 2)).alloc (.cells #[.string ⟨#[102]⟩, .int .i8 3, .int .i64 0, .string ⟨#[109, 97, 105, 110]⟩, .int .i8 1, .int .i64 0] 69)).alloc (.cells #[.int .i64 0, .int .i64 0] 71)) (.cells #[.string ⟨#[97]⟩, .slice (some ⟨w.heap.size, 0, none⟩) 2 2, .int .i64 2, .slice (some ⟨w.heap.size + 1, 0, none⟩) 1 1, .slice (some ⟨w.heap.size + 1 + 1, 0, none⟩) 2 2, .slice (some ⟨w.heap.size + 1 + 1 + 1, 0, none⟩) 1 1] 65)
    rwa [al_sz, al_sz, al_sz, al_sz] at this
  have CO := object_any ⟨#[97]⟩ 2 (some ⟨w.heap.size, 0, none⟩) (some ⟨w.heap.size + 1, 0, none⟩) (some ⟨w.heap.size + 1 + 1, 0, none⟩) (some ⟨w.heap.size + 1 + 1 + 1, 0, none⟩) 2 1 2 1 lvC [7] lvS [(0, 0)] V ((lv_in w).keep HBV.out) (HT.out.below HB1.out) (HN.out.below HB1.out) (HK.out.below HB1.out)
  unfold TellP at CO
  rw [lv_text, show ([7] : List Int).length = 1 from rfl, lv_check] at CO
  have CO1 : Calls Tryz.prog 21 #[.agg #[.string ⟨#[97]⟩, .slice (some ⟨w.heap.size, 0, none⟩) 2 2, .int .i64 2, .slice (some ⟨w.heap.size + 1, 0, none⟩) 1 1, .slice (some ⟨w.heap.size + 1 + 1, 0, none⟩) 2 2, .slice (some ⟨w.heap.size + 1 + 1 + 1, 0, none⟩) 1 1]] V fun e w' => e = .returned (.tuple #[.string lvT, .int .i64 0]) ∧ Below V.heap.size V w' := CO
  have CN := fun wx (hb : Below w.heap.size w wx) => object_any ⟨#[]⟩ 0 none none none none 0 0 0 0 [] [] [] [] wx (no_in wx) (HT.out.below hb) (HN.out.below hb) (HK.out.below hb)
  have CN1 : ∀ wx, Below w.heap.size w wx → Calls Tryz.prog 21 #[.agg #[.string ⟨#[]⟩, .slice none 0 0, .int .i64 0, .slice none 0 0, .slice none 0 0, .slice none 0 0]] wx fun e w' => e = .returned (.tuple #[.string ⟨#[]⟩, .int .i64 20]) ∧ Below wx.heap.size wx w' := fun wx hb => (CN wx hb).mono fun e w' hh => by
    obtain ⟨he, hb⟩ := hh
    rw [no_text, show ([] : List Int).length = 0 from rfl, no_check] at he
    exact ⟨he, hb⟩
  have CI := fun wx (hb : Below w.heap.size w wx) => ins_any 1 (by decide) (by decide) wx (HT.out.below hb) (HN.out.below hb)
  rw [one_line] at CI
  have HW : Hid _ := hV
  clear ht hN hK hV CO CN HBV HB0
  obtain ⟨d0, d1, d2, d3, d4, d5⟩ := box6_cell HXV.out
  have hT : lvT = ⟨#[111, 98, 106, 101, 99, 116, 32, 97, 10, 100, 97, 116, 97, 32, 50, 32, 55, 10, 119, 97, 110, 116, 101, 100, 32, 102, 10, 103, 108, 111, 98, 97, 108, 32, 109, 97, 105, 110, 32, 48, 10, 99, 97, 108, 108, 32, 102, 10, 106, 117, 109, 112, 32, 49, 10]⟩ := rfl
  rw [hT] at CO1
  clear hT
  go_enter Tryz.func5, Tryz.ntmps5
  go_upto_region 2 with fail
  rw [← HW.out]
  go_wp2_with fail
  refine CO1.mono ?_
  rintro e w1 ⟨rfl, hb1⟩
  have HB2 : Hid (Below w.heap.size w w1) := lb_trans HB1.out hb1
  clear hb1 CO1 d0 d1 d2 d3 d4 d5 HXV HW
  go_wp2_with fail
  refine (CN1 _ HB2.out).mono ?_
  rintro e w2 ⟨rfl, hb2⟩
  have HB3 : Hid (Below w.heap.size w w2) := lb_trans HB2.out hb2
  clear hb2 CN1
  go_wp2_with fail
  refine (CI _ HB3.out).mono ?_
  rintro e w3 ⟨rfl, hb3⟩
  have HB4 : Hid (Below w.heap.size w w3) := lb_trans HB3.out hb3
  clear hb3 CI
  go_wp2
  go_ret
  exact ⟨rfl, HB4.out⟩

end Go.Proofs.YtbckolkgncajfaaGreatDoor
