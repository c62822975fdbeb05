/-
  It lives. CopyImage of the statements, by what it returns; the lists have at most 2^20 items. The document looks at an image; each word is of 32 bits.
-/
import Derived.Test.YtokhclindfipbaaProg
import Derived.WalkKit
import Derived.WalkSpells
import Derived.WalkLawsBesides
import Derived.RowKit3
import Derived.Below
import Derived.Deep.QuietTactic
import Derived.BigQuiet
import Derived.WalkSmall
import Derived.Laws.Rows
import Derived.Test.YtokhclindfipbaaPr50
import Derived.Test.YtokhclindfipbaaPr20
import Derived.Test.YtokhclindfipbaaPr27
import Derived.Test.YtokhclindfipbaaPr03
import Derived.Test.YtokhclindfipbaaPr32
namespace Go.Proofs.Ytokhclindfipbaa
open Go.RowKit

def ThrP (w : World) (e : Ending) (w' : World) : Prop := ∃ b : Nat, e = .returned (.agg #[.slice (some ⟨b, 0, none⟩) 7 7, .int .i64 0, .slice none 0 0]) ∧ IntsAt w' (some ⟨b, 0, none⟩) .u32 T7 ∧ Below w.heap.size w w'
set_option maxRecDepth 100000 in
theorem thrice_any (w : World) : Calls Try.prog 13 #[] w (ThrP w) := by
  go_enter Try.func13, Try.ntmps13
  go_wp2
  refine bodyPost_ret (v := .agg #[.slice (some ⟨w.heap.size + 1, 0, none⟩) 7 7, .int .i64 0, .slice none 0 0]) (by simp [results, Try.results13, go_sem]) rfl ⟨w.heap.size + 1, rfl, ?_, lb_alloc (lb_alloc (Below.refl _ _) _) _⟩
  intro i hi
  have hi : i = 0 ∨ i = 1 ∨ i = 2 ∨ i = 3 ∨ i = 4 ∨ i = 5 ∨ i = 6 := by simp [T7] at hi; omega
  rcases hi with rfl | rfl | rfl | rfl | rfl | rfl | rfl <;> exact ⟨_, rfl, by simp [go_sem, nth, Addr.add, T7]⟩
theorem own_five {w : World} {b n : Nat} {e : TypeId} {sz : Nat} {v : Value} {xs : List Value} (h : w.ownsRow b e sz v n xs) (hn : 0 < n) : ∃ (g c : Nat), v = .slice (some ⟨g, 0, none⟩) n c ∧ ∀ j u, xs[j]? = some u → w.cell? ⟨g, j, none⟩ = some u := by
  rcases h.2 with ⟨rfl, h0⟩ | ⟨g, cap, cur, rfl, h2, h3, h4⟩
  · omega
  · exact ⟨g, cap, rfl, fun j u hu => by
      have := World.ownsRow.cells (g := g) h rfl j u hu
      rw [add0] at this
      exact this⟩

theorem no_longs : (0 : Nat) ≤ 1048576 := by omega
def LivP (w : World) (e : Ending) (w' : World) : Prop := e = .returned (.bool true) ∧ Below w.heap.size w w'
/-- The first of what gone told. -/
theorem gon_first {w w' : World} {e : Ending} (h : GonP [(2, [0, 2, 4]), (3, [0, 2]), (4, [0, 2]), (2, [1, 3]), (3, [1, 3])] w e w') : ∃ (g c : Nat) (O : Option Addr) (k : Nat), e = .returned (.tuple #[.slice (some ⟨g, 0, none⟩) 5 c, .int .i64 0]) ∧ w'.cell? ⟨g, 0, none⟩ = some (.int .i64 2) ∧ w'.cell? ⟨g, 1, none⟩ = some (.slice O 3 k) ∧ IntsAt w' O .i64 [0, 2, 4] ∧ Below w.heap.size w w' := by
  obtain ⟨PT, O, c, rfl, h1, h2, h3, h4⟩ := h
  have hl : PT.length = 5 := by
    have := congrArg List.length h1
    rw [List.length_map] at this
    exact this
  match PT, h1, h2, h3, hl with
  | p :: PT, h1, h2, h3, hl =>
    obtain ⟨g, c', ev, hc⟩ := own_five h2 (by simp)
    rw [List.map_cons] at h1
    injection h1 with h1 _
    obtain ⟨⟨n, L⟩, O2, k⟩ := p
    cases h1
    have hr := h3 ((2, [0, 2, 4]), (O2, k)) (by simp)
    rw [hl] at ev ⊢
    injection ev with ev1 _ ev2
    subst ev1
    subst ev2
    exact ⟨g, c, O2, k, rfl, hc 0 _ rfl, hc 1 _ rfl, row_ints (l := [0, 2, 4]) hr, h4⟩
set_option maxRecDepth 100000 in
set_option maxHeartbeats 8000000 in
theorem lives_any (w : World) : Calls Try.prog 5 #[] w (LivP w) := by
  have CT := thrice_any
  unfold ThrP at CT
  have HG : Hid (∀ (b : Nat) (W : World), IntsAt W (some ⟨b, 0, none⟩) .u32 T7 → Calls Try.prog 6 #[.agg #[.slice (some ⟨b, 0, none⟩) 7 7, .int .i64 0, .slice none 0 0], .int .i64 99] W (GonP [(2, [0, 2, 4]), (3, [0, 2]), (4, [0, 2]), (2, [1, 3]), (3, [1, 3])] W)) := fun b W h => by
    have := gone_ok (some ⟨b, 0, none⟩) none 7 0 0 0 99 T7 W h T7_range (by decide) no_longs T7_check (by decide) N7 T7_num e7 rfl (fun k h1 h2 h3 => by have := N7_few.1; omega)
    rw [N7_td] at this
    exact this
  have HC : Hid (∀ (b : Nat) (W : World), IntsAt W (some ⟨b, 0, none⟩) .u32 T7 → Calls Try.prog 14 #[.agg #[.slice (some ⟨b, 0, none⟩) 7 7, .int .i64 0, .slice none 0 0]] W (CntP 5 11 W)) := fun b W h => by
    have := pcount_ok (some ⟨b, 0, none⟩) none 7 0 0 0 T7 W h T7_range (by decide) no_longs T7_check (by decide) N7 T7_num e7 rfl
    rw [N7_few.1, N7_few.2] at this
    exact this
  have HP : Hid (∀ (b : Nat) (W : World), IntsAt W (some ⟨b, 0, none⟩) .u32 T7 → Calls Try.prog 15 #[.agg #[.slice (some ⟨b, 0, none⟩) 7 7, .int .i64 0, .slice none 0 0], .int .i64 1, .int .i64 2] W (PlyP [1, 3] W)) := fun b W h => by
    have := pplaces_ok (some ⟨b, 0, none⟩) none 7 0 0 0 1 2 T7 W h T7_range (by decide) no_longs T7_check (by decide) N7 T7_num e7 rfl (by decide) (by decide) (by rw [N7_end.1]; decide)
    rw [N7_plc] at this
    exact this
  have HA : Hid (∀ (b : Nat) (W : World), IntsAt W (some ⟨b, 0, none⟩) .u32 T7 → Calls Try.prog 15 #[.agg #[.slice (some ⟨b, 0, none⟩) 7 7, .int .i64 0, .slice none 0 0], .int .i64 3, .int .i64 5] W (PlcN 1 W)) := fun b W h => pplaces_arg (some ⟨b, 0, none⟩) none 7 0 0 0 3 5 T7 W h T7_range (by decide) no_longs T7_check (by decide) (by omega) N7 T7_num e7 rfl (.inr N7_end.2)
  have QE3 : ∀ (A : Option Addr) (k g : Nat) (Z : World), IntsAt Z A .i64 [0, 2, 4] → IntsAt Z (some ⟨g, 0, none⟩) .i64 [0, 2, 4] → Calls Try.prog 16 #[.slice A 3 k, .slice (some ⟨g, 0, none⟩) 3 3] Z fun e w' => e = .returned (.bool true) ∧ Below Z.heap.size Z w' := fun A k g Z h1 h2 => by
    have := eqints_any A (some ⟨g, 0, none⟩) k 3 [0, 2, 4] [0, 2, 4] Z h1 h2 (by decide)
    simp only [decide_true] at this
    exact this
  have QE2 : ∀ (A : Option Addr) (k g : Nat) (Z : World), IntsAt Z A .i64 [1, 3] → IntsAt Z (some ⟨g, 0, none⟩) .i64 [1, 3] → Calls Try.prog 16 #[.slice A 2 k, .slice (some ⟨g, 0, none⟩) 2 2] Z fun e w' => e = .returned (.bool true) ∧ Below Z.heap.size Z w' := fun A k g Z h1 h2 => by
    have := eqints_any A (some ⟨g, 0, none⟩) k 2 [1, 3] [1, 3] Z h1 h2 (by decide)
    simp only [decide_true] at this
    exact this
  go_enter Try.func5, Try.ntmps5
  go_wp2_with fail
  refine (CT _).mono ?_
  rintro e w1 ⟨b1, rfl, hi1, hb1⟩
  go_wp2_with fail
  refine (HG.out b1 w1 hi1).mono ?_
  intro e w2 hg
  obtain ⟨g, cg, Og, kg, rfl, g0, g1, gI, hb2⟩ := gon_first hg
  have HB2 : Hid (Below w.heap.size w w2) := lb_trans hb1 hb2
  have HGI : Hid (IntsAt w2 Og .i64 [0, 2, 4]) := gI
  clear hi1 hb1 hb2 hg gI
  go_wp2_with fail
  refine (CT _).mono ?_
  rintro e w3 ⟨b3, rfl, hi3, hb3⟩
  go_wp2_with fail
  refine (HC.out b3 w3 hi3).mono ?_
  rintro e w4 ⟨rfl, hb4⟩
  have HB4 : Hid (Below w2.heap.size w2 w4) := lb_trans hb3 hb4
  clear hi3 hb3 hb4
  go_wp2_with fail
  refine (CT _).mono ?_
  rintro e w5 ⟨b5, rfl, hi5, hb5⟩
  go_wp2_with fail
  refine (HP.out b5 w5 hi5).mono ?_
  rintro e w6 ⟨O6, c6, rfl, hr6, hb6⟩
  have HB6 : Hid (Below w2.heap.size w2 w6) := lb_trans (lb_trans HB4.out hb5) hb6
  have HR6 : Hid (IntsAt w6 O6 .i64 [1, 3]) := row_ints (l := [1, 3]) hr6
  clear hi5 hb5 hb6 hr6
  go_wp2_with fail
  refine (CT _).mono ?_
  rintro e w7 ⟨b7, rfl, hi7, hb7⟩
  go_wp2_with fail
  refine (HA.out b7 w7 hi7).mono ?_
  rintro e w8 ⟨rfl, hb8⟩
  have HB68 : Hid (Below w6.heap.size w6 w8) := lb_trans hb7 hb8
  have HB8 : Hid (Below w2.heap.size w2 w8) := lb_trans HB6.out HB68.out
  have g0' := lkeep HB8.out g0
  have g1' := lkeep HB8.out g1
  clear hi7 hb7 hb8 g0 g1 HG HC HP HA
  go_wp2_with fail
  refine (QE3 _ _ _ _ (HGI.out.keep (lb_alloc HB8.out _)) ?_).mono ?_
  · intro i hi
    have hi : i = 0 ∨ i = 1 ∨ i = 2 := by simp at hi; omega
    rcases hi with rfl | rfl | rfl <;> exact ⟨_, rfl, by simp [go_sem, nth, Addr.add]⟩
  rintro e w9 ⟨rfl, hb9⟩
  have HB9 : Hid (Below w8.heap.size w8 w9) := lb_trans (lb_alloc (Below.refl _ _) _) hb9
  clear hb9 g0' g1'
  go_wp2_with fail
  refine (QE2 _ _ _ _ (HR6.out.keep (lb_alloc (lb_trans HB68.out HB9.out) _)) ?_).mono ?_
  · intro i hi
    have hi : i = 0 ∨ i = 1 := by simp at hi; omega
    rcases hi with rfl | rfl <;> exact ⟨_, rfl, by simp [go_sem, nth, Addr.add]⟩
  rintro e w10 ⟨rfl, hb10⟩
  have HB10 : Hid (Below w.heap.size w w10) := lb_trans (lb_trans (lb_trans HB2.out HB8.out) HB9.out) (lb_trans (lb_alloc (Below.refl _ _) _) hb10)
  clear hb10
  go_wp2
  go_ret
  exact ⟨rfl, HB10.out⟩

end Go.Proofs.Ytokhclindfipbaa

namespace Go.Proofs.Ytokhclindfipbaa
open Go.RowKit

theorem old_at {w : World} {o o' : Obj} {n : Nat} (h : w.heap[n]? = some o) : (w.alloc o').heap[n]? = some o := by
  rw [Below.heap_alloc w o' n (Array.getElem?_eq_some_iff.1 h).1]; exact h
theorem new_at {w : World} {o : Obj} {n : Nat} (h : n = w.heap.size) : (w.alloc o).heap[n]? = some o := by subst h; exact heap_alloc_new w o
theorem box_other {w : World} {B P : Nat} {o : Obj} (h : w.heap[B]? = some o) (hB : B ≠ P) (i : Nat) (v : Value) : (w.setCell ⟨P, i, none⟩ v).heap[B]? = some o := (Below.heap_setCell _ _ _ _ hB).trans h
theorem zbox3_cell {w : World} {B : Nat} {x y z : Value} {t : TypeId} (h : w.heap[B]? = some (.cells #[x, y, z] t (0, 0))) : w.cell? ⟨B, 0, none⟩ = some x ∧ w.cell? ⟨B, 1, none⟩ = some y ∧ w.cell? ⟨B, 2, none⟩ = some z := by
  refine ⟨?_, ?_, ?_⟩ <;> simp [World.cell?, h]
theorem zNews_vals (K : IntKind) (zs : List Int) : iNews K zs = iVals K zs := by
  apply List.ext_getElem?
  intro i
  unfold iNews iVals
  by_cases h : i < zs.length
  · simp [h, wInt, nth, List.getD]
  · simp [h]


/-- What CopyImage answers. -/
def CopyI (text mem : List Int) (ent : Int) (w : World) (e : Ending) (w' : World) : Prop := ∃ (A1 A2 : Option Addr) (k1 k2 : Nat), e = .returned (.agg #[.slice A1 text.length k1, .int .i64 ent, .slice A2 mem.length k2]) ∧ RowsI w' w.heap.size A1 A2 k1 k2 text mem ∧ Below w.heap.size w w'
set_option maxRecDepth 100000 in
theorem copyimg_any (A1 A2 : Option Addr) (c1 c2 : Nat) (text mem : List Int) (ent : Int) (w : World) (hT : IntsAt w A1 .u32 text) (hM : IntsAt w A2 .i64 mem) (h01 : A1 = none → c1 = 0) (h02 : A2 = none → c2 = 0) (hl : text.length ≤ 1048576) (hm : mem.length ≤ 1048576) :
    Calls Try.prog 7 #[.agg #[.slice A1 text.length c1, .int .i64 ent, .slice A2 mem.length c2]] w (CopyI text mem ent w) := by
  have hB0 : Below w.heap.size w ((w.alloc (.cells #[.slice A1 text.length c1, .int .i64 ent, .slice A2 mem.length c2] 25)).alloc (.cells #[.slice none 0 0, .int .i64 0, .slice none 0 0] 25)) := lb_alloc (lb_alloc (Below.refl _ _) _) _
  have HX0 : Hid (((w.alloc (.cells #[.slice A1 text.length c1, .int .i64 ent, .slice A2 mem.length c2] 25)).alloc (.cells #[.slice none 0 0, .int .i64 0, .slice none 0 0] 25)).heap[w.heap.size]? = some (.cells #[.slice A1 text.length c1, .int .i64 ent, .slice A2 mem.length c2] 25 (0, 0))) := old_at (new_at rfl)
  have HY0 : Hid (((w.alloc (.cells #[.slice A1 text.length c1, .int .i64 ent, .slice A2 mem.length c2] 25)).alloc (.cells #[.slice none 0 0, .int .i64 0, .slice none 0 0] 25)).heap[w.heap.size + 1]? = some (.cells #[.slice none 0 0, .int .i64 0, .slice none 0 0] 25 (0, 0))) := new_at (by simp)
  have HB0 : Hid _ := hB0
  clear hB0
  go_enter Try.func7, Try.ntmps7
  go_wp2_with fail
  refine (copywords_any A1 c1 text _ (hT.keep HB0.out) h01 hl).mono ?_
  rintro e w1 ⟨O1, k1, rfl, hown, hg, hn⟩
  have hb : Below _ _ w1 := ⟨hg.os, hg.tape, hg.output, hg.size, fun k hk => hg.block k hk (by simp)⟩
  have HX1 : Hid _ := lb_box HX0.out hb
  have HY1 : Hid _ := lb_box HY0.out hb
  have HB1 : Hid (Below w.heap.size w w1) := lb_trans HB0.out hb
  rw [zNews_vals] at hown
  have HO1 : Hid (w1.ownsRow (w.heap.size + 2) 48 1 (.slice O1 text.length k1) text.length (iVals .u32 text)) := ownsRow_mono hown (by simp)
  have hs1 : w.heap.size + 2 ≤ w1.heap.size := by have := hb.size; simp at this; exact this
  have HS1 : Hid _ := hs1
  obtain ⟨x0, x1, x2⟩ := zbox3_cell HX1.out
  have f0 := box_fro HX1.out 0
  have HX2 : Hid _ := box_set HX1.out 0 (.slice O1 text.length k1)
  have HY2 : Hid _ := box_other HY1.out (show w.heap.size + 1 ≠ w.heap.size by omega) 0 (.slice O1 text.length k1)
  have HB2 : Hid (Below w.heap.size w (w1.setCell ⟨w.heap.size, 0, none⟩ (.slice O1 text.length k1))) := HB1.out.setCell (Nat.le_refl _) _
  have HO2 : Hid _ := row_setB HO1.out (show w.heap.size < w.heap.size + 2 by omega) 0 (.slice O1 text.length k1)
  clear hown hg hn hb hs1 HX0 HY0
  go_wp2_with fail
  refine (copylongs_any A2 c2 mem _ (hM.keep HB2.out) h02 hm).mono ?_
  rintro e w3 ⟨O2, k2, rfl, hown, hg, hn⟩
  have hb : Below _ _ w3 := ⟨hg.os, hg.tape, hg.output, hg.size, fun k hk => hg.block k hk (by simp)⟩
  have HX3 : Hid (w3.heap[w.heap.size]? = some (.cells #[.slice O1 text.length k1, .int .i64 ent, .slice A2 mem.length c2] 25 (0, 0))) := lb_box HX2.out hb
  have HY3 : Hid _ := lb_box HY2.out hb
  have HB3 : Hid (Below w.heap.size w w3) := lb_trans HB2.out hb
  rw [zNews_vals] at hown
  have HQ3 : Hid (RowsI w3 (w.heap.size + 2) O1 O2 k1 k2 text mem) := ⟨row_keep HO2.out hb, ownsRow_mono hown (by have := HS1.out; simpa using this)⟩
  clear hown hg hn hb x0 x1 x2 f0 HX1 HY1 HB1 HO1
  obtain ⟨x0, x1, x2⟩ := zbox3_cell HX3.out
  obtain ⟨y0, y1, y2⟩ := zbox3_cell HY3.out
  have f0 := box_fro HX3.out 0
  have f2 := box_fro HX3.out 2
  have g0 := box_fro HY3.out 0
  have g1 := box_fro HY3.out 1
  have g2 := box_fro HY3.out 2
  go_wp2
  refine bodyPost_ret (v := .agg #[.slice O1 text.length k1, .int .i64 ent, .slice O2 mem.length k2]) (by simp [results, Try.results7, go_sem, y0, y1, y2]) rfl ⟨O1, O2, k1, k2, rfl, ?_, ?_⟩
  · have h1 : w.heap.size < w.heap.size + 2 := by omega
    have h2 : w.heap.size + 1 < w.heap.size + 2 := by omega
    exact ((((HQ3.out.set h1 2 _).set h2 0 _).set h2 1 _).set h2 2 _).mono (by omega)
  · exact (((HB3.out.setCell (Nat.le_refl _) _).setCell (Nat.le_succ _) _).setCell (Nat.le_succ _) _).setCell (Nat.le_succ _) _









end Go.Proofs.Ytokhclindfipbaa

namespace Go.Proofs.Ytokhclindfipbaa
open Go.RowKit

set_option maxRecDepth 100000 in
set_option maxHeartbeats 1000000 in
theorem refcheck_any (A1 A2 : Option Addr) (c1 ml c2 : Nat) (ent : Int) (text : List Int) (w : World) (hT : IntsAt w A1 .u32 text) (hR : ∀ i, i < text.length → 0 ≤ nth text i ∧ nth text i < 4294967296) (hl : text.length ≤ 1048576) (hm : ml ≤ 1048576) :
    Calls Try.prog 4 #[.agg #[.slice A1 text.length c1, .int .i64 ent, .slice A2 ml c2]] w (ChkP (checkI text ml ent).1 (checkI text ml ent).2 w) := by
  by_cases h0 : text.length = 0
  · rw [check0 h0, h0]
    go_enter Try.func4, Try.ntmps4
    go_wp2
    go_ret2
    exact ⟨rfl, lb_alloc (Below.refl _ _) _⟩
  have n0 : ((text.length : Int) == 0) = false := by simpa using h0
  by_cases h1 : 16384 < text.length
  · rw [check1 h0 h1]
    go_enter Try.func4, Try.ntmps4
    go_wp2
    go_ret2
    exact ⟨rfl, lb_alloc (Below.refl _ _) _⟩
  by_cases h2 : 4096 < ml
  · rw [check2 h0 h1 h2]
    go_enter Try.func4, Try.ntmps4
    go_wp2
    go_ret2
    exact ⟨rfl, lb_alloc (Below.refl _ _) _⟩
  by_cases h3 : ent < 0
  · rw [check3 h0 h1 h2 (.inl h3)]
    go_enter Try.func4, Try.ntmps4
    go_wp2
    go_ret2
    exact ⟨rfl, lb_alloc (Below.refl _ _) _⟩
  by_cases h4 : (text.length : Int) ≤ ent
  · rw [check3 h0 h1 h2 (.inr h4)]
    go_enter Try.func4, Try.ntmps4
    go_wp2
    go_ret2
    exact ⟨rfl, lb_alloc (Below.refl _ _) _⟩
  have HP : Hid (Past text ml ent) := ⟨by omega, by omega, by omega, by omega, by omega⟩
  have HB0 : Hid (Below w.heap.size w (w.alloc (.cells #[.slice A1 text.length c1, .int .i64 ent, .slice A2 ml c2] 25))) := lb_alloc (Below.refl _ _) _
  have HX : Hid ((w.alloc (.cells #[.slice A1 text.length c1, .int .i64 ent, .slice A2 ml c2] 25)).heap[w.heap.size]? = some (.cells #[.slice A1 text.length c1, .int .i64 ent, .slice A2 ml c2] 25 (0, 0))) := heap_alloc_new _ _
  clear h1 h2 h3 h4
  have hlen : text.length ≤ 16384 := HP.out.len
  have hml := HP.out.mem
  have hpos := HP.out.pos
  have he0 := HP.out.ent0
  have he1 := HP.out.ent1
  go_enter Try.func4, Try.ntmps4
  go_wp2
  go_loopw [5] (fun i wr => ∃ k : Nat, i = .int .i64 k ∧ k ≤ text.length ∧ Hid (∀ j, j < k → farT text j = false) ∧ Hid (Below (w.alloc (.cells #[.slice A1 text.length c1, .int .i64 ent, .slice A2 ml c2] 25)).heap.size (w.alloc (.cells #[.slice A1 text.length c1, .int .i64 ent, .slice A2 ml c2] 25)) wr)) (fun i _ => text.length - (intOf i).toNat)
  case atStart => exact ⟨0, rfl, by omega, fun j hj => by omega, Below.refl _ _⟩
  case round =>
    obtain ⟨k, rfl, hk, hj, hb⟩ := hrel
    have HBr : Hid (Below w.heap.size w wr) := lb_trans HB0.out hb.out
    have hx := lb_box0 HX.out hb.out
    by_cases hlt : k < text.length
    · obtain ⟨a, rfl, q⟩ := (hT.keep HBr.out) k hlt
      have x0 : wr.cell? ⟨w.heap.size, 0, none⟩ = some (.slice (some a) text.length c1) := by simp [World.cell?, hx]
      obtain ⟨hv0, hv1⟩ := hR k hlt
      have C := reftarget_any (nth text k) hv0 hv1 wr
      have HF : Hid (farT text k = (isT (nth text k) && decide ((text.length : Int) ≤ tgV (nth text k)))) := rfl
      generalize nth text k = v at *
      generalize isT v = t at *
      generalize tgV v = z at *
      clear hx
      cases t with
      | false =>
        go_wp2_with (go_at_call 11; refine C.mono ?_; rintro e w1 ⟨rfl, hb1⟩)
        go_roundw
        case rel => exact ⟨k + 1, by go_num, by omega, fun j hj1 => by
          by_cases hjk : j = k
          · subst hjk; rw [HF.out]; rfl
          · exact hj.out j (by omega), lb_trans hb.out hb1⟩
        case measure => simp [intOf]; omega
      | true =>
        by_cases hz : (text.length : Int) ≤ z
        · go_wp2_with (go_at_call 11; refine C.mono ?_; rintro e w1 ⟨rfl, hb1⟩)
          go_ret2
          have e := check_far HP.out hlt hj.out (by rw [HF.out]; simpa using hz)
          rw [e]
          exact ⟨rfl, lb_trans HBr.out hb1⟩
        · go_wp2_with (go_at_call 11; refine C.mono ?_; rintro e w1 ⟨rfl, hb1⟩)
          go_roundw
          case rel => exact ⟨k + 1, by go_num, by omega, fun j hj1 => by
            by_cases hjk : j = k
            · subst hjk; rw [HF.out]; simpa using hz
            · exact hj.out j (by omega), lb_trans hb.out hb1⟩
          case measure => simp [intOf]; omega
    · obtain rfl : k = text.length := by omega
      obtain ⟨a, rfl, q⟩ := (hT.keep HBr.out) (text.length - 1) (by omega)
      have x0 : wr.cell? ⟨w.heap.size, 0, none⟩ = some (.slice (some a) text.length c1) := by simp [World.cell?, hx]
      obtain ⟨hv0, hv1⟩ := hR (text.length - 1) (by omega)
      have C := refdecode_any (nth text (text.length - 1)) hv0 hv1 wr
      have HE : Hid _ := check_end HP.out hj.out
      have HL : Hid (lastOK (nth text (text.length - 1)) = decide (dOp (nth text (text.length - 1)) = 0 ∨ dOp (nth text (text.length - 1)) = 15 ∨ dOp (nth text (text.length - 1)) = 19 ∨ dOp (nth text (text.length - 1)) = 21)) := rfl
      have hc : ((text.length - 1 : Nat) : Int) = (text.length : Int) - 1 := by omega
      generalize nth text (text.length - 1) = v at *
      generalize dOp v = x at *
      generalize dD v = x1 at *
      generalize dA v = x2 at *
      generalize dB v = x3 at *
      generalize dN v = x4 at *
      generalize lastOK v = t at *
      clear hx
      go_wp2_with (go_at_call 12; refine C.mono ?_; rintro e w1 ⟨rfl, hb1⟩)
      all_goals (
        go_ret2
        rw [HE.out, HL.out]
        refine ⟨?_, lb_trans HBr.out hb1⟩
        by_cases hd : x = 0 ∨ x = 15 ∨ x = 19 ∨ x = 21
        · rw [decide_eq_true hd]
          first
            | rfl
            | (exfalso; simp_all)
        · rw [decide_eq_false hd]
          first
            | (exfalso; simp_all; done)
            | (simp; omega))








end Go.Proofs.Ytokhclindfipbaa
