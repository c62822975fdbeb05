/-
  It lives.
-/
import Derived.Test.YtokhclindfipbaaGreatDoorProg
import Derived.WalkKit
import Derived.WalkSpells
import Derived.WalkLawsBesides
import Derived.RowKit3
import Derived.Below
import Derived.Deep.QuietTactic
import Derived.BigQuiet
import Derived.WalkSmall
import Derived.Laws.Rows
import Derived.Test.YtokhclindfipbaaGreatDoorPa60
namespace Go.Proofs.YtokhclindfipbaaGreatDoor
open Go.RowKit

def ThrP (w : World) (e : Ending) (w' : World) : Prop := ∃ b : Nat, e = .returned (.agg #[.slice (some ⟨b, 0, none⟩) 7 7, .int .i64 0, .slice none 0 0]) ∧ IntsAt w' (some ⟨b, 0, none⟩) .u32 T7 ∧ Below w.heap.size w w'
set_option maxRecDepth 100000 in
theorem thrice_any (w : World) : Calls Tryz.prog 22 #[] w (ThrP w) := by
  go_enter Tryz.func22, Tryz.ntmps22
  go_wp2
  refine bodyPost_ret (v := .agg #[.slice (some ⟨w.heap.size + 1, 0, none⟩) 7 7, .int .i64 0, .slice none 0 0]) (by simp [results, Tryz.results22, go_sem]) rfl ⟨w.heap.size + 1, rfl, ?_, lb_alloc (lb_alloc (Below.refl _ _) _) _⟩
  intro i hi
  have hi : i = 0 ∨ i = 1 ∨ i = 2 ∨ i = 3 ∨ i = 4 ∨ i = 5 ∨ i = 6 := by simp [T7] at hi; omega
  rcases hi with rfl | rfl | rfl | rfl | rfl | rfl | rfl <;> exact ⟨_, rfl, by simp [go_sem, nth, Addr.add, T7]⟩
theorem own_five {w : World} {b n : Nat} {e : TypeId} {sz : Nat} {v : Value} {xs : List Value} (h : w.ownsRow b e sz v n xs) (hn : 0 < n) : ∃ (g c : Nat), v = .slice (some ⟨g, 0, none⟩) n c ∧ ∀ j u, xs[j]? = some u → w.cell? ⟨g, j, none⟩ = some u := by
  rcases h.2 with ⟨rfl, h0⟩ | ⟨g, cap, cur, rfl, h2, h3, h4⟩
  · omega
  · exact ⟨g, cap, rfl, fun j u hu => by
      have := World.ownsRow.cells (g := g) h rfl j u hu
      rw [add0] at this
      exact this⟩

theorem no_longs : (0 : Nat) ≤ 1048576 := by omega
def LivP (w : World) (e : Ending) (w' : World) : Prop := e = .returned (.bool true) ∧ Below w.heap.size w w'
/-- The first of what gone told. -/
theorem gon_first {w w' : World} {e : Ending} (h : GonP [(2, [0, 2, 4]), (3, [0, 2]), (4, [0, 2]), (2, [1, 3]), (3, [1, 3])] w e w') : ∃ (g c : Nat) (O : Option Addr) (k : Nat), e = .returned (.tuple #[.slice (some ⟨g, 0, none⟩) 5 c, .int .i64 0]) ∧ w'.cell? ⟨g, 0, none⟩ = some (.int .i64 2) ∧ w'.cell? ⟨g, 1, none⟩ = some (.slice O 3 k) ∧ IntsAt w' O .i64 [0, 2, 4] ∧ Below w.heap.size w w' := by
  obtain ⟨PT, O, c, rfl, h1, h2, h3, -, h4⟩ := h
  have hl : PT.length = 5 := by
    have := congrArg List.length h1
    rw [List.length_map] at this
    exact this
  match PT, h1, h2, h3, hl with
  | p :: PT, h1, h2, h3, hl =>
    obtain ⟨g, c', ev, hc⟩ := own_five h2 (by simp)
    rw [List.map_cons] at h1
    injection h1 with h1 _
    obtain ⟨⟨n, L⟩, O2, k⟩ := p
    cases h1
    have hr := h3 ((2, [0, 2, 4]), (O2, k)) (by simp)
    rw [hl] at ev ⊢
    injection ev with ev1 _ ev2
    subst ev1
    subst ev2
    exact ⟨g, c, O2, k, rfl, hc 0 _ rfl, hc 1 _ rfl, row_ints (l := [0, 2, 4]) hr, h4⟩
set_option maxRecDepth 100000 in
set_option maxHeartbeats 8000000 in
theorem lives_any (w : World) : Calls Tryz.prog 5 #[] w (LivP w) := by
  have CT := thrice_any
  unfold ThrP at CT
  have HG : Hid (∀ (b : Nat) (W : World), IntsAt W (some ⟨b, 0, none⟩) .u32 T7 → Calls Tryz.prog 7 #[.agg #[.slice (some ⟨b, 0, none⟩) 7 7, .int .i64 0, .slice none 0 0], .int .i64 99] W (GonP [(2, [0, 2, 4]), (3, [0, 2]), (4, [0, 2]), (2, [1, 3]), (3, [1, 3])] W)) := fun b W h => by
    have := gone_ok (some ⟨b, 0, none⟩) none 7 0 0 0 99 T7 W h T7_range (by decide) no_longs T7_check (by decide) N7 T7_num e7 rfl (fun k h1 h2 h3 => by have := N7_few.1; omega)
    rw [N7_td] at this
    exact this
  have HC : Hid (∀ (b : Nat) (W : World), IntsAt W (some ⟨b, 0, none⟩) .u32 T7 → Calls Tryz.prog 9 #[.agg #[.slice (some ⟨b, 0, none⟩) 7 7, .int .i64 0, .slice none 0 0]] W (CntP 5 11 W)) := fun b W h => by
    have := pcount_ok (some ⟨b, 0, none⟩) none 7 0 0 0 T7 W h T7_range (by decide) no_longs T7_check (by decide) N7 T7_num e7 rfl
    rw [N7_few.1, N7_few.2] at this
    exact this
  have HP : Hid (∀ (b : Nat) (W : World), IntsAt W (some ⟨b, 0, none⟩) .u32 T7 → Calls Tryz.prog 11 #[.agg #[.slice (some ⟨b, 0, none⟩) 7 7, .int .i64 0, .slice none 0 0], .int .i64 1, .int .i64 2] W (PlyP [1, 3] W)) := fun b W h => by
    have := pplaces_ok (some ⟨b, 0, none⟩) none 7 0 0 0 1 2 T7 W h T7_range (by decide) no_longs T7_check (by decide) N7 T7_num e7 rfl (by decide) (by decide) (by rw [N7_end.1]; decide)
    rw [N7_plc] at this
    exact this
  have HA : Hid (∀ (b : Nat) (W : World), IntsAt W (some ⟨b, 0, none⟩) .u32 T7 → Calls Tryz.prog 11 #[.agg #[.slice (some ⟨b, 0, none⟩) 7 7, .int .i64 0, .slice none 0 0], .int .i64 3, .int .i64 5] W (PlcN 1 W)) := fun b W h => pplaces_arg (some ⟨b, 0, none⟩) none 7 0 0 0 3 5 T7 W h T7_range (by decide) no_longs T7_check (by decide) (by omega) N7 T7_num e7 rfl (.inr N7_end.2)
  have QE3 : ∀ (A : Option Addr) (k g : Nat) (Z : World), IntsAt Z A .i64 [0, 2, 4] → IntsAt Z (some ⟨g, 0, none⟩) .i64 [0, 2, 4] → Calls Tryz.prog 14 #[.slice A 3 k, .slice (some ⟨g, 0, none⟩) 3 3] Z fun e w' => e = .returned (.bool true) ∧ Below Z.heap.size Z w' := fun A k g Z h1 h2 => by
    have := eqints_any A (some ⟨g, 0, none⟩) k 3 [0, 2, 4] [0, 2, 4] Z h1 h2 (by decide)
    simp only [decide_true] at this
    exact this
  have QE2 : ∀ (A : Option Addr) (k g : Nat) (Z : World), IntsAt Z A .i64 [1, 3] → IntsAt Z (some ⟨g, 0, none⟩) .i64 [1, 3] → Calls Tryz.prog 14 #[.slice A 2 k, .slice (some ⟨g, 0, none⟩) 2 2] Z fun e w' => e = .returned (.bool true) ∧ Below Z.heap.size Z w' := fun A k g Z h1 h2 => by
    have := eqints_any A (some ⟨g, 0, none⟩) k 2 [1, 3] [1, 3] Z h1 h2 (by decide)
    simp only [decide_true] at this
    exact this
  go_enter Tryz.func5, Tryz.ntmps5
  go_wp2_with fail
  refine (CT _).mono ?_
  rintro e w1 ⟨b1, rfl, hi1, hb1⟩
  go_wp2_with fail
  refine (HG.out b1 w1 hi1).mono ?_
  intro e w2 hg
  obtain ⟨g, cg, Og, kg, rfl, g0, g1, gI, hb2⟩ := gon_first hg
  have HB2 : Hid (Below w.heap.size w w2) := lb_trans hb1 hb2
  have HGI : Hid (IntsAt w2 Og .i64 [0, 2, 4]) := gI
  clear hi1 hb1 hb2 hg gI
  go_wp2_with fail
  refine (CT _).mono ?_
  rintro e w3 ⟨b3, rfl, hi3, hb3⟩
  go_wp2_with fail
  refine (HC.out b3 w3 hi3).mono ?_
  rintro e w4 ⟨rfl, hb4⟩
  have HB4 : Hid (Below w2.heap.size w2 w4) := lb_trans hb3 hb4
  clear hi3 hb3 hb4
  go_wp2_with fail
  refine (CT _).mono ?_
  rintro e w5 ⟨b5, rfl, hi5, hb5⟩
  go_wp2_with fail
  refine (HP.out b5 w5 hi5).mono ?_
  rintro e w6 ⟨O6, c6, rfl, hr6, hb6⟩
  have HB6 : Hid (Below w2.heap.size w2 w6) := lb_trans (lb_trans HB4.out hb5) hb6
  have HR6 : Hid (IntsAt w6 O6 .i64 [1, 3]) := row_ints (l := [1, 3]) hr6
  clear hi5 hb5 hb6 hr6
  go_wp2_with fail
  refine (CT _).mono ?_
  rintro e w7 ⟨b7, rfl, hi7, hb7⟩
  go_wp2_with fail
  refine (HA.out b7 w7 hi7).mono ?_
  rintro e w8 ⟨rfl, hb8⟩
  have HB68 : Hid (Below w6.heap.size w6 w8) := lb_trans hb7 hb8
  have HB8 : Hid (Below w2.heap.size w2 w8) := lb_trans HB6.out HB68.out
  have g0' := lkeep HB8.out g0
  have g1' := lkeep HB8.out g1
  clear hi7 hb7 hb8 g0 g1 HG HC HP HA
  go_wp2_with fail
  refine (QE3 _ _ _ _ (HGI.out.keep (lb_alloc HB8.out _)) ?_).mono ?_
  · intro i hi
    have hi : i = 0 ∨ i = 1 ∨ i = 2 := by simp at hi; omega
    rcases hi with rfl | rfl | rfl <;> exact ⟨_, rfl, by simp [go_sem, nth, Addr.add]⟩
  rintro e w9 ⟨rfl, hb9⟩
  have HB9 : Hid (Below w8.heap.size w8 w9) := lb_trans (lb_alloc (Below.refl _ _) _) hb9
  clear hb9 g0' g1'
  go_wp2_with fail
  refine (QE2 _ _ _ _ (HR6.out.keep (lb_alloc (lb_trans HB68.out HB9.out) _)) ?_).mono ?_
  · intro i hi
    have hi : i = 0 ∨ i = 1 := by simp at hi; omega
    rcases hi with rfl | rfl <;> exact ⟨_, rfl, by simp [go_sem, nth, Addr.add]⟩
  rintro e w10 ⟨rfl, hb10⟩
  have HB10 : Hid (Below w.heap.size w w10) := lb_trans (lb_trans (lb_trans HB2.out HB8.out) HB9.out) (lb_trans (lb_alloc (Below.refl _ _) _) hb10)
  clear hb10
  go_wp2
  go_ret
  exact ⟨rfl, HB10.out⟩


end Go.Proofs.YtokhclindfipbaaGreatDoor
