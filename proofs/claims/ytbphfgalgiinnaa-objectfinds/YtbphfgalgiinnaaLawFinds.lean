/-
  The law ObjectFinds returns true for every object and pick; its words are of 32 bits, its lists no longer than any can be.
-/
import Derived.Test.YtbphfgalgiinnaaProg
import Derived.WalkKit
import Derived.WalkSpells
import Derived.WalkLawsBesides
import Derived.RowKit3
import Derived.Below
import Derived.Deep.QuietTactic
import Derived.BigQuiet
import Derived.WalkSmall
import Derived.Test.YtbphfgalgiinnaaLives
import Derived.Test.YtbphfgalgiinnaaHeavy
import Derived.Test.YtbphfgalgiinnaaFindsPre
import Derived.Deep.RegionHeld3
import Derived.Deep.DeepCutAuto
import Derived.Deep.AppendLies
import Derived.Deep.RegionLaw
namespace Go.Proofs.Ytbphfgalgiinnaa
open Go.RowKit

set_option maxRecDepth 100000 in
set_option maxHeartbeats 4000000 in
theorem lawFinds (nm : ByteArray) (dA : Int) (A1 A2 A3 A4 : Option Addr) (c1 c2 c3 c4 : Nat) (code data : List Int) (ss : List Sym) (rs : List Rel) (pick : Int) (w : World) (hC : IntsAt w A1 .u32 code) (hD : IntsAt w A2 .i64 data) (hS : SymsAt w A3 ss) (hL : RelsAt w A4 rs) (h01 : A1 = none → c1 = 0) (h02 : A2 = none → c2 = 0) (h03 : A3 = none → c3 = 0) (h04 : A4 = none → c4 = 0) (hR : ∀ i, i < code.length → 0 ≤ nth code i ∧ nth code i < 4294967296) (hN : ∀ i, (sName ss i).size ≤ 140737488355328) (hsl : ss.length ≤ 140737488355328) (p0 : 0 ≤ pick) (p1 : pick ≤ 255) (hA : -9223372036854775808 ≤ dA ∧ dA ≤ 9223372036854775807) :
    Calls Try.prog 5 #[.agg #[.string nm, .slice A1 code.length c1, .int .i64 dA, .slice A2 data.length c2, .slice A3 ss.length c3, .slice A4 rs.length c4], .int .u8 pick] w fun e w' => e = .returned (.bool true) ∧ Below w.heap.size w w' := by
  go_enter Try.func5, Try.ntmps5
  go_wp2_with fail
  refine (heavy_any nm dA A1 A2 A3 A4 code.length c1 data.length c2 c3 rs.length c4 ss _ (hS.keep (lb_alloc (Below.refl _ _) _)) hN hsl).mono ?_
  rintro e w1 ⟨B, rfl, hBnd, hb1⟩
  have pf0 : w1.cell? ⟨w.heap.size, 0, none⟩ = some (.string nm) := lkeep hb1 (by simp [go_sem])
  have pf1 : w1.cell? ⟨w.heap.size, 1, none⟩ = some (.slice A1 code.length c1) := lkeep hb1 (by simp [go_sem])
  have pf2 : w1.cell? ⟨w.heap.size, 2, none⟩ = some (.int .i64 dA) := lkeep hb1 (by simp [go_sem])
  have pf3 : w1.cell? ⟨w.heap.size, 3, none⟩ = some (.slice A2 data.length c2) := lkeep hb1 (by simp [go_sem])
  have pf4 : w1.cell? ⟨w.heap.size, 4, none⟩ = some (.slice A3 ss.length c3) := lkeep hb1 (by simp [go_sem])
  have pf5 : w1.cell? ⟨w.heap.size, 5, none⟩ = some (.slice A4 rs.length c4) := lkeep hb1 (by simp [go_sem])
  have HX1 : Hid (Below (w.alloc (.cells #[.string nm, .slice A1 code.length c1, .int .i64 dA, .slice A2 data.length c2, .slice A3 ss.length c3, .slice A4 rs.length c4] 27)).heap.size (w.alloc (.cells #[.string nm, .slice A1 code.length c1, .int .i64 dA, .slice A2 data.length c2, .slice A3 ss.length c3, .slice A4 rs.length c4] 27)) w1) := hb1
  have HB1 : Hid (Below w.heap.size w w1) := lb_trans (lb_alloc (Below.refl _ _) _) hb1
  clear hb1
  cases B with
  | true =>
    clear hBnd
    go_wp2_with fail
    refine (lives_any _).mono ?_
    rintro e w9 ⟨rfl, hb9⟩
    have HB9 : Hid (Below w.heap.size w w9) := lb_trans HB1.out hb9
    clear hb9
    go_wp2
    go_ret
    exact ⟨rfl, HB9.out⟩
  | false =>
    obtain ⟨b3, _, b1, b2, b4⟩ := hBnd rfl
    clear hBnd
    have hc : code.length ≤ 1048576 := by omega
    have hd : data.length ≤ 1048576 := by omega
    have hl : rs.length ≤ 1048576 := by omega
    have CC := fun wx (h : Below w.heap.size w wx) => copyobj_any nm dA A1 A2 A3 A4 c1 c2 c3 c4 code data ss rs wx (hC.keep h) (hD.keep h) (hS.keep h) (hL.keep h) h01 h02 h03 h04 hc hd b3 hl
    go_wp2_with fail
    refine (CC _ HB1.out).mono ?_
    rintro e w2 ⟨O1, O2, O3, O4, k1, k2, k3, k4, rfl, hb2, o1, o2, o3, o4⟩
    go_wp2_with fail
    refine (objcheck_any nm dA O1 O2 O3 O4 k1 data.length k2 k3 k4 code ss rs _ (own_ints o1) (own_syms o3) (own_rels o4) hR hc hd b3 hl hN hA).mono ?_
    rintro e w3 ⟨rfl, hb3⟩
    have HX3 : Hid (Below (w.alloc (.cells #[.string nm, .slice A1 code.length c1, .int .i64 dA, .slice A2 data.length c2, .slice A3 ss.length c3, .slice A4 rs.length c4] 27)).heap.size (w.alloc (.cells #[.string nm, .slice A1 code.length c1, .int .i64 dA, .slice A2 data.length c2, .slice A3 ss.length c3, .slice A4 rs.length c4] 27)) w3) := lb_trans (lb_trans HX1.out hb2) hb3
    have HB3 : Hid (Below w.heap.size w w3) := lb_trans (lb_alloc (Below.refl _ _) _) HX3.out
    clear hb2 hb3 o1 o2 o3 o4 pf0 pf1 pf2 pf3 pf4 pf5
    by_cases hE : (checkC nm code dA data.length ss rs).1 = 0
    · have HM : Hid (MayBe nm code dA data.length ss rs) := check_may hE
      rw [hE]
      clear hE
      generalize (checkC nm code dA data.length ss rs).2 = z2
      go_wp2
      go_loopw [7] (fun i wr => ∃ k : Nat, i = .int .i64 k ∧ k ≤ ss.length ∧ Below (w.alloc (.cells #[.string nm, .slice A1 code.length c1, .int .i64 dA, .slice A2 data.length c2, .slice A3 ss.length c3, .slice A4 rs.length c4] 27)).heap.size (w.alloc (.cells #[.string nm, .slice A1 code.length c1, .int .i64 dA, .slice A2 data.length c2, .slice A3 ss.length c3, .slice A4 rs.length c4] 27)) wr) (fun i _ => ss.length - (intOf i).toNat)
      case atStart => exact ⟨0, rfl, by omega, HX3.out⟩
      case round =>
        obtain ⟨k, rfl, hk, hX⟩ := hrel
        rename_i wr _
        have f0 : wr.cell? ⟨w.heap.size, 0, none⟩ = some (.string nm) := lkeep hX (by simp [go_sem])
        have f1 : wr.cell? ⟨w.heap.size, 1, none⟩ = some (.slice A1 code.length c1) := lkeep hX (by simp [go_sem])
        have f2 : wr.cell? ⟨w.heap.size, 2, none⟩ = some (.int .i64 dA) := lkeep hX (by simp [go_sem])
        have f3 : wr.cell? ⟨w.heap.size, 3, none⟩ = some (.slice A2 data.length c2) := lkeep hX (by simp [go_sem])
        have f4 : wr.cell? ⟨w.heap.size, 4, none⟩ = some (.slice A3 ss.length c3) := lkeep hX (by simp [go_sem])
        have f5 : wr.cell? ⟨w.heap.size, 5, none⟩ = some (.slice A4 rs.length c4) := lkeep hX (by simp [go_sem])
        have HX : Hid (Below (w.alloc (.cells #[.string nm, .slice A1 code.length c1, .int .i64 dA, .slice A2 data.length c2, .slice A3 ss.length c3, .slice A4 rs.length c4] 27)).heap.size (w.alloc (.cells #[.string nm, .slice A1 code.length c1, .int .i64 dA, .slice A2 data.length c2, .slice A3 ss.length c3, .slice A4 rs.length c4] 27)) wr) := hX
        have HB : Hid (Below w.heap.size w wr) := lb_trans (lb_alloc (Below.refl _ _) _) hX
        clear hX
        by_cases hlt : k < ss.length
        · obtain ⟨a, rfl, q0, _⟩ := (hS.keep HB.out) k hlt
          have CO : ∀ (O1 O2 O3 O4 : Option Addr) (k1 k2 k3 k4 : Nat) (wx : World), SymsAt wx O3 ss → Calls Try.prog 11 #[.agg #[.string nm, .slice O1 code.length k1, .int .i64 dA, .slice O2 data.length k2, .slice O3 ss.length k3, .slice O4 rs.length k4], .string (sName ss k)] wx fun e w' => e = .returned (.int .i64 k) ∧ Below wx.heap.size wx w' := fun O1 O2 O3 O4 k1 k2 k3 k4 wx h => by
            have g := objof_any nm dA O1 O2 O4 O3 code.length k1 data.length k2 rs.length k4 k3 ss (sName ss k) wx h b3
            rw [(may_names HM.out k hlt).1] at g
            exact g
          have CN := nameAt (sName ss k) true (may_names HM.out k hlt).2
          have B4 : Below wr.heap.size wr wr.drew := (Below.refl _ _).drew
          go_wp2_with fail
          go_region_held3 (fun W => Below wr.heap.size wr W ∧ W.cell? ⟨w.heap.size, 0, none⟩ = some (.string nm) ∧ W.cell? ⟨w.heap.size, 1, none⟩ = some (.slice A1 code.length c1) ∧ W.cell? ⟨w.heap.size, 2, none⟩ = some (.int .i64 dA) ∧ W.cell? ⟨w.heap.size, 3, none⟩ = some (.slice A2 data.length c2) ∧ W.cell? ⟨w.heap.size, 4, none⟩ = some (.slice (some a) ss.length c3) ∧ W.cell? ⟨w.heap.size, 5, none⟩ = some (.slice A4 rs.length c4) ∧ W.cell? (a.add (k * 3)) = some (.string (sName ss k))) (first | (refine ⟨lb_trans ?_ hb, lkeep hb ?_, lkeep hb ?_, lkeep hb ?_, lkeep hb ?_, lkeep hb ?_, lkeep hb ?_, lkeep hb ?_⟩ <;> (simp [*]; done)) | (simp [*]; done))
            (first
              | (go_at_call 20; refine (CC _ (lb_trans HB.out (by first | assumption | exact (‹Below _ _ _ ∧ _›).1))).mono ?_; rintro e w5 ⟨O1, O2, O3, O4, k1, k2, k3, k4, rfl, hb, o1, o2, o3, o4⟩)
              | (go_at_call 11; refine (CO _ _ _ _ _ _ _ _ _ (own_syms o3)).mono ?_; rintro e w6 ⟨rfl, hb⟩)
              | (go_at_call 18; refine (CN _).mono ?_; rintro e w7 ⟨rfl, hb⟩))
          rename_i hS'
          obtain ⟨sB, s0, s1, s2, s3, s4, s5, s6⟩ := hS'
          have HX' : Hid (Below _ _ _) := lb_trans HX.out sB
          clear sB
          go_wp2
          go_roundw
          case rel => exact ⟨k + 1, by go_num, by omega, HX'.out⟩
          case measure => simp [intOf]; omega
        · go_wp2
          clear hlt hk
          go_loopw [8] (fun i wr => ∃ k : Nat, i = .int .i64 k ∧ k ≤ rs.length ∧ Below (w.alloc (.cells #[.string nm, .slice A1 code.length c1, .int .i64 dA, .slice A2 data.length c2, .slice A3 ss.length c3, .slice A4 rs.length c4] 27)).heap.size (w.alloc (.cells #[.string nm, .slice A1 code.length c1, .int .i64 dA, .slice A2 data.length c2, .slice A3 ss.length c3, .slice A4 rs.length c4] 27)) wr) (fun i _ => rs.length - (intOf i).toNat)
          case atStart => exact ⟨0, rfl, by omega, HX.out⟩
          case round =>
            obtain ⟨k', rfl, hk', hXq⟩ := hrel
            rename World => wq
            have g0 : wq.cell? ⟨w.heap.size, 0, none⟩ = some (.string nm) := lkeep hXq (by simp [go_sem])
            have g1 : wq.cell? ⟨w.heap.size, 1, none⟩ = some (.slice A1 code.length c1) := lkeep hXq (by simp [go_sem])
            have g2 : wq.cell? ⟨w.heap.size, 2, none⟩ = some (.int .i64 dA) := lkeep hXq (by simp [go_sem])
            have g3 : wq.cell? ⟨w.heap.size, 3, none⟩ = some (.slice A2 data.length c2) := lkeep hXq (by simp [go_sem])
            have g4 : wq.cell? ⟨w.heap.size, 4, none⟩ = some (.slice A3 ss.length c3) := lkeep hXq (by simp [go_sem])
            have g5 : wq.cell? ⟨w.heap.size, 5, none⟩ = some (.slice A4 rs.length c4) := lkeep hXq (by simp [go_sem])
            have HY : Hid (Below (w.alloc (.cells #[.string nm, .slice A1 code.length c1, .int .i64 dA, .slice A2 data.length c2, .slice A3 ss.length c3, .slice A4 rs.length c4] 27)).heap.size (w.alloc (.cells #[.string nm, .slice A1 code.length c1, .int .i64 dA, .slice A2 data.length c2, .slice A3 ss.length c3, .slice A4 rs.length c4] 27)) wq) := hXq
            have HC : Hid (Below w.heap.size w wq) := lb_trans (lb_alloc (Below.refl _ _) _) hXq
            clear hXq f0 f1 f2 f3 f4 f5 HX HB
            by_cases hlt : k' < rs.length
            · obtain ⟨a, rfl, q0, _⟩ := (hL.keep HC.out) k' hlt
              have CO : ∀ (O1 O2 O3 O4 : Option Addr) (k1 k2 k3 k4 : Nat) (wx : World), RelsAt wx O4 rs → Calls Try.prog 13 #[.agg #[.string nm, .slice O1 code.length k1, .int .i64 dA, .slice O2 data.length k2, .slice O3 ss.length k3, .slice O4 rs.length k4], .int .i64 (rAt rs k')] wx fun e w' => e = .returned (.int .i64 k') ∧ Below wx.heap.size wx w' := fun O1 O2 O3 O4 k1 k2 k3 k4 wx h => by
                have g := objat_any nm dA O1 O2 O3 O4 code.length k1 data.length k2 ss.length k3 k4 rs (rAt rs k') wx h hl
                rw [may_at HM.out k' hlt] at g
                exact g
              have B4 : Below wq.heap.size wq wq.drew := (Below.refl _ _).drew
              go_wp2_with fail
              go_region_held3 (fun W => Below wq.heap.size wq W ∧ W.cell? ⟨w.heap.size, 0, none⟩ = some (.string nm) ∧ W.cell? ⟨w.heap.size, 1, none⟩ = some (.slice A1 code.length c1) ∧ W.cell? ⟨w.heap.size, 2, none⟩ = some (.int .i64 dA) ∧ W.cell? ⟨w.heap.size, 3, none⟩ = some (.slice A2 data.length c2) ∧ W.cell? ⟨w.heap.size, 4, none⟩ = some (.slice A3 ss.length c3) ∧ W.cell? ⟨w.heap.size, 5, none⟩ = some (.slice (some a) rs.length c4) ∧ W.cell? (a.add (k' * 2)) = some (.int .i64 (rAt rs k'))) (first | (refine ⟨lb_trans ?_ hb, lkeep hb ?_, lkeep hb ?_, lkeep hb ?_, lkeep hb ?_, lkeep hb ?_, lkeep hb ?_, lkeep hb ?_⟩ <;> (simp [*]; done)) | (simp [*]; done))
                (first
                  | (go_at_call 20; refine (CC _ (lb_trans HC.out (by first | assumption | exact (‹Below _ _ _ ∧ _›).1))).mono ?_; rintro e w5 ⟨O1, O2, O3, O4, k1, k2, k3, k4, rfl, hb, o1, o2, o3, o4⟩)
                  | (go_at_call 13; refine (CO _ _ _ _ _ _ _ _ _ (own_rels o4)).mono ?_; rintro e w6 ⟨rfl, hb⟩))
              rename_i hS'
              obtain ⟨sB, s0, s1, s2, s3, s4, s5, s6⟩ := hS'
              have HY' : Hid (Below _ _ _) := lb_trans HY.out sB
              clear sB
              go_wp2
              go_roundw
              case rel => exact ⟨k' + 1, by go_num, by omega, HY'.out⟩
              case measure => simp [intOf]; omega
            · go_upto_if 79 with fail
              clear hlt hk'
              go_cut [] (fun wx => Below (w.alloc (.cells #[.string nm, .slice A1 code.length c1, .int .i64 dA, .slice A2 data.length c2, .slice A3 ss.length c3, .slice A4 rs.length c4] 27)).heap.size (w.alloc (.cells #[.string nm, .slice A1 code.length c1, .int .i64 dA, .slice A2 data.length c2, .slice A3 ss.length c3, .slice A4 rs.length c4] 27)) wx)
              case first =>
                by_cases hcl : code.length < 16384
                · obtain ⟨i0, hi, hz0, hz1, hz2⟩ := info45
                  go_wp2_with fail
                  refine (CC _ HC.out).mono ?_
                  rintro e w2 ⟨O1, O2, O3, O4, k1, k2, k3, k4, rfl, hb2, o1, o2, o3, o4⟩
                  have HB2 : Hid (Below (w.alloc (.cells #[.string nm, .slice A1 code.length c1, .int .i64 dA, .slice A2 data.length c2, .slice A3 ss.length c3, .slice A4 rs.length c4] 27)).heap.size (w.alloc (.cells #[.string nm, .slice A1 code.length c1, .int .i64 dA, .slice A2 data.length c2, .slice A3 ss.length c3, .slice A4 rs.length c4] 27)) w2) := lb_trans HY.out hb2
                  have hsz := HY.out.size
                  have hsz2 := hb2.size
                  clear hb2
                  go_wp2_with (at_builtin; refine wpList_append_lies _ rfl (.tmp 83) (.tmp 84) 22 rfl wq.heap.size 45 i0 (.int .u32 0) 1 4 Try.underlying22 hi hz0 hz1 hz2 rfl (by decide) (.slice O1 code.length k1) code.length (iNews .u32 code) rfl ((o1.alloc _).alloc _) ⟨w2.heap.size + 1, 0, none⟩ 1 1 [.int .u32 1] rfl rfl (fun j u hu => by
                      have hj : j = 0 := by have := (List.getElem?_eq_some_iff.1 hu).1; simp at this; omega
                      subst hj
                      simp at hu
                      subst hu
                      simp [go_sem]) (by simp; rfl) (by omega) (by unfold maxLen; omega) (by omega) (by simp; omega) (w2.heap.size + 2) (by simp) ?_)
                  intro g cap w3 hown hgrow hlie hlt3
                  have d0 : w3.cell? ⟨w2.heap.size, 0, none⟩ = some (.string nm) := hgrow.cell (by simp [go_sem]) (own_ne o1 (Nat.le_refl _))
                  have d1 : w3.cell? ⟨w2.heap.size, 1, none⟩ = some (.slice O1 code.length k1) := hgrow.cell (by simp [go_sem]) (own_ne o1 (Nat.le_refl _))
                  have d2 : w3.cell? ⟨w2.heap.size, 2, none⟩ = some (.int .i64 dA) := hgrow.cell (by simp [go_sem]) (own_ne o1 (Nat.le_refl _))
                  have d3 : w3.cell? ⟨w2.heap.size, 3, none⟩ = some (.slice O2 data.length k2) := hgrow.cell (by simp [go_sem]) (own_ne o1 (Nat.le_refl _))
                  have d4 : w3.cell? ⟨w2.heap.size, 4, none⟩ = some (.slice O3 ss.length k3) := hgrow.cell (by simp [go_sem]) (own_ne o1 (Nat.le_refl _))
                  have d5 : w3.cell? ⟨w2.heap.size, 5, none⟩ = some (.slice O4 rs.length k4) := hgrow.cell (by simp [go_sem]) (own_ne o1 (Nat.le_refl _))
                  have df : w3.frozen? ⟨w2.heap.size, 1, none⟩ = false := by
                    rw [World.frozen?_of_block (hgrow.block w2.heap.size (by simp; omega) (own_ne o1 (Nat.le_refl _)))]; simp [go_sem]
                  have hgne : ¬ g = w2.heap.size := by
                    rcases hlie with h | h
                    · have := (o1.lt g h).2; omega
                    · omega
                  have o1Y := (o1.alloc (.cells #[.string nm, .slice O1 code.length k1, .int .i64 dA, .slice O2 data.length k2, .slice O3 ss.length k3, .slice O4 rs.length k4] 27)).alloc (.cells #[.int .u32 1] 45)
                  have o3Y := (o3.alloc (.cells #[.string nm, .slice O1 code.length k1, .int .i64 dA, .slice O2 data.length k2, .slice O3 ss.length k3, .slice O4 rs.length k4] 27)).alloc (.cells #[.int .u32 1] 45)
                  have o4Y := (o4.alloc (.cells #[.string nm, .slice O1 code.length k1, .int .i64 dA, .slice O2 data.length k2, .slice O3 ss.length k3, .slice O4 rs.length k4] 27)).alloc (.cells #[.int .u32 1] 45)
                  have o3W := o3Y.kept hgrow (own_apart o3Y o1Y (by decide))
                  have o4W := o4Y.kept hgrow (own_apart o4Y o1Y (by decide))
                  have o1X := hown.kept (gset w3 w2.heap.size 1 (.slice (some ⟨g, 0, none⟩) (code.length + 1) cap)) (Or.inr (fun h => hgne (Option.some.inj h)))
                  have o3X := o3W.kept (gset w3 w2.heap.size 1 (.slice (some ⟨g, 0, none⟩) (code.length + 1) cap)) (Or.inr (own_ne o3 (Nat.le_refl _)).symm)
                  have o4X := o4W.kept (gset w3 w2.heap.size 1 (.slice (some ⟨g, 0, none⟩) (code.length + 1) cap)) (Or.inr (own_ne o4 (Nat.le_refl _)).symm)
                  have HBX : Hid (Below (w.alloc (.cells #[.string nm, .slice A1 code.length c1, .int .i64 dA, .slice A2 data.length c2, .slice A3 ss.length c3, .slice A4 rs.length c4] 27)).heap.size (w.alloc (.cells #[.string nm, .slice A1 code.length c1, .int .i64 dA, .slice A2 data.length c2, .slice A3 ss.length c3, .slice A4 rs.length c4] 27)) (w3.setCell ⟨w2.heap.size, 1, none⟩ (.slice (some ⟨g, 0, none⟩) (code.length + 1) cap))) := by
                    refine Below.setCell (Below.grown (lb_alloc (lb_alloc HB2.out _) _) hgrow (by simp at hsz hsz2 ⊢; omega) (fun k hk => ?_)) (by simp at hsz hsz2 ⊢; omega) _
                    have := (o1.lt k hk).1
                    omega
                  have IC : IntsAt (w3.setCell ⟨w2.heap.size, 1, none⟩ (.slice (some ⟨g, 0, none⟩) (code.length + 1) cap)) (some ⟨g, 0, none⟩) .u32 (code ++ [1]) := own_ints (base := wq.heap.size) (e := 45) (cap := cap) (by rw [List.length_append, List.length_singleton, ← iNews_app]; exact o1X)
                  have CK := objcheck_any nm dA (some ⟨g, 0, none⟩) O2 O3 O4 cap data.length k2 k3 k4 (code ++ [1]) ss rs _ IC (own_syms o3X) (own_rels o4X) (fun i hi => by
                    by_cases e : i < code.length
                    · rw [nth_app e]; exact hR i e
                    · have : i = code.length := by simp at hi; omega
                      subst this
                      rw [nth_last]; omega) (by simp; omega) hd b3 hl hN hA
                  rw [may_check (may_word HM.out hcl), List.length_append, List.length_singleton] at CK
                  clear hown hgrow hlie hlt3 o1 o2 o3 o4 o1Y o3Y o4Y o3W o4W o1X o3X o4X IC hgne
                  go_wp2_with fail
                  refine CK.mono ?_
                  rintro e w4 ⟨rfl, hb4⟩
                  have HB4 : Hid (Below (w.alloc (.cells #[.string nm, .slice A1 code.length c1, .int .i64 dA, .slice A2 data.length c2, .slice A3 ss.length c3, .slice A4 rs.length c4] 27)).heap.size (w.alloc (.cells #[.string nm, .slice A1 code.length c1, .int .i64 dA, .slice A2 data.length c2, .slice A3 ss.length c3, .slice A4 rs.length c4] 27)) w4) := lb_trans HBX.out hb4
                  clear hb4 CK
                  go_wp2
                  go_meet
                  case rel => exact HB4.out
                · go_wp2
                  go_meet
                  case rel => exact HY.out
              case rest =>
                have HY2 : Hid (Below (w.alloc (.cells #[.string nm, .slice A1 code.length c1, .int .i64 dA, .slice A2 data.length c2, .slice A3 ss.length c3, .slice A4 rs.length c4] 27)).heap.size (w.alloc (.cells #[.string nm, .slice A1 code.length c1, .int .i64 dA, .slice A2 data.length c2, .slice A3 ss.length c3, .slice A4 rs.length c4] 27)) wc) := hcut
                have HC2 : Hid (Below w.heap.size w wc) := lb_trans (lb_alloc (Below.refl _ _) _) hcut
                have h0 : wc.cell? ⟨w.heap.size, 0, none⟩ = some (.string nm) := lkeep hcut (by simp [go_sem])
                have h1 : wc.cell? ⟨w.heap.size, 1, none⟩ = some (.slice A1 code.length c1) := lkeep hcut (by simp [go_sem])
                have h2 : wc.cell? ⟨w.heap.size, 2, none⟩ = some (.int .i64 dA) := lkeep hcut (by simp [go_sem])
                have h3 : wc.cell? ⟨w.heap.size, 3, none⟩ = some (.slice A2 data.length c2) := lkeep hcut (by simp [go_sem])
                have h4 : wc.cell? ⟨w.heap.size, 4, none⟩ = some (.slice A3 ss.length c3) := lkeep hcut (by simp [go_sem])
                have h5 : wc.cell? ⟨w.heap.size, 5, none⟩ = some (.slice A4 rs.length c4) := lkeep hcut (by simp [go_sem])
                clear hcut g0 g1 g2 g3 g4 g5 HY HC
                go_upto_if 97 with fail
                go_cut [] (fun wx => Below (w.alloc (.cells #[.string nm, .slice A1 code.length c1, .int .i64 dA, .slice A2 data.length c2, .slice A3 ss.length c3, .slice A4 rs.length c4] 27)).heap.size (w.alloc (.cells #[.string nm, .slice A1 code.length c1, .int .i64 dA, .slice A2 data.length c2, .slice A3 ss.length c3, .slice A4 rs.length c4] 27)) wx)
                case first =>
                  by_cases hrl : 0 < rs.length
                  · have hrl' : (0 : Int) < (rs.length : Int) := by omega
                    go_wp2_with fail
                    refine (CC _ HC2.out).mono ?_
                    rintro e w2 ⟨O1, O2, O3, O4, k1, k2, k3, k4, rfl, hb2, o1, o2, o3, o4⟩
                    have HB2 : Hid (Below (w.alloc (.cells #[.string nm, .slice A1 code.length c1, .int .i64 dA, .slice A2 data.length c2, .slice A3 ss.length c3, .slice A4 rs.length c4] 27)).heap.size (w.alloc (.cells #[.string nm, .slice A1 code.length c1, .int .i64 dA, .slice A2 data.length c2, .slice A3 ss.length c3, .slice A4 rs.length c4] 27)) w2) := lb_trans HY2.out hb2
                    have hk4 : rs.length ≤ k4 := by
                      rcases o4.2 with ⟨h, h'⟩ | ⟨g, c, cur, hv, _, _, hn, _⟩
                      · omega
                      · cases hv; exact hn
                    have hk4' : (rs.length : Int) ≤ (k4 : Int) := by omega
                    have hsz := HY2.out.size
                    have hsz2 := hb2.size
                    clear hb2
                    have CK := fun wx (h : Below w2.heap.size w2 wx) => objcheck_any nm dA O1 O2 O3 O4 k1 data.length k2 k3 k4 code ss (rs.take (rs.length - 1)) wx ((own_ints o1).keep h) ((own_syms o3).keep h) ((rels_take (own_rels o4) (rs.length - 1) (by omega)).keep h) hR hc hd b3 (by simp; omega) hN hA
                    rw [may_check (may_less HM.out (rs.length - 1) (by omega)), List.length_take, Nat.min_eq_left (Nat.sub_le _ _)] at CK
                    go_wp2_with fail
                    refine (CK _ (lb_alloc (Below.refl _ _) _)).mono ?_
                    rintro e w4 ⟨rfl, hb4⟩
                    have HB4 : Hid (Below (w.alloc (.cells #[.string nm, .slice A1 code.length c1, .int .i64 dA, .slice A2 data.length c2, .slice A3 ss.length c3, .slice A4 rs.length c4] 27)).heap.size (w.alloc (.cells #[.string nm, .slice A1 code.length c1, .int .i64 dA, .slice A2 data.length c2, .slice A3 ss.length c3, .slice A4 rs.length c4] 27)) w4) := lb_trans (lb_alloc HB2.out _) hb4
                    clear hb4 CK o1 o2 o3 o4
                    go_wp2
                    go_meet
                    case rel => exact HB4.out
                  · go_wp2
                    go_meet
                    case rel => exact HY2.out
                case rest =>
                  have HY3 : Hid (Below (w.alloc (.cells #[.string nm, .slice A1 code.length c1, .int .i64 dA, .slice A2 data.length c2, .slice A3 ss.length c3, .slice A4 rs.length c4] 27)).heap.size (w.alloc (.cells #[.string nm, .slice A1 code.length c1, .int .i64 dA, .slice A2 data.length c2, .slice A3 ss.length c3, .slice A4 rs.length c4] 27)) wc) := hcut
                  have HC3 : Hid (Below w.heap.size w wc) := lb_trans (lb_alloc (Below.refl _ _) _) hcut
                  have j0 : wc.cell? ⟨w.heap.size, 0, none⟩ = some (.string nm) := lkeep hcut (by simp [go_sem])
                  have j1 : wc.cell? ⟨w.heap.size, 1, none⟩ = some (.slice A1 code.length c1) := lkeep hcut (by simp [go_sem])
                  have j2 : wc.cell? ⟨w.heap.size, 2, none⟩ = some (.int .i64 dA) := lkeep hcut (by simp [go_sem])
                  have j3 : wc.cell? ⟨w.heap.size, 3, none⟩ = some (.slice A2 data.length c2) := lkeep hcut (by simp [go_sem])
                  have j4 : wc.cell? ⟨w.heap.size, 4, none⟩ = some (.slice A3 ss.length c3) := lkeep hcut (by simp [go_sem])
                  have j5 : wc.cell? ⟨w.heap.size, 5, none⟩ = some (.slice A4 rs.length c4) := lkeep hcut (by simp [go_sem])
                  clear hcut h0 h1 h2 h3 h4 h5 HY2 HC2
                  by_cases hsl2 : 0 < ss.length ∧ ss.length < 256
                  · obtain ⟨hs0, hs1⟩ := hsl2
                    have hs0' : (0 : Int) < (ss.length : Int) := by omega
                    have hs1' : (ss.length : Int) < 256 := by omega
                    have hP0 : 0 ≤ pick.tmod (ss.length : Int) := Int.tmod_nonneg _ p0
                    have hP1 : pick.tmod (ss.length : Int) < (ss.length : Int) := Int.tmod_lt_of_pos _ hs0'
                    have hP : (pick.tmod (ss.length : Int)).toNat < ss.length := by omega
                    obtain ⟨i0, hi, hz0, hz1, hz2⟩ := info42
                    obtain ⟨a, rfl, q0, q1', q2'⟩ := (hS.keep HC3.out) _ hP
                    have q1 : wc.cell? ⟨(a.add ((pick.tmod (ss.length : Int)).toNat * 3)).block, (a.add ((pick.tmod (ss.length : Int)).toNat * 3)).off + 1, none⟩ = some (.int .i8 (sKind ss (pick.tmod (ss.length : Int)).toNat)) := q1'
                    have q2 : wc.cell? ⟨(a.add ((pick.tmod (ss.length : Int)).toNat * 3)).block, (a.add ((pick.tmod (ss.length : Int)).toNat * 3)).off + 2, none⟩ = some (.int .i64 (sAt ss (pick.tmod (ss.length : Int)).toNat)) := q2'
                    clear q1' q2'
                    go_wp2_with fail
                    refine (CC _ HC3.out).mono ?_
                    rintro e w2 ⟨O1, O2, O3, O4, k1, k2, k3, k4, rfl, hb2, o1, o2, o3, o4⟩
                    have HB2 : Hid (Below _ _ w2) := lb_trans HY3.out hb2
                    have hwr : IntKind.i64.wrap pick = pick := wrapPick p0 p1
                    have hzz : ((ss.length : Int) == 0) = false := by rw [beq_eq_false_iff_ne]; omega
                    have hzz2 : ¬ (ss.length : Int) = 0 := by omega
                    have hzz3 : ¬ ss.length = 0 := by omega
                    have hzz4 : ¬ ss = [] := fun h => by rw [h] at hs0; simp at hs0
                    have hsz := HY3.out.size
                    have hsz2 := hb2.size
                    have B5 : Below wc.heap.size wc (w2.alloc (.cells #[.string nm, .slice O1 code.length k1, .int .i64 dA, .slice O2 data.length k2, .slice O3 ss.length k3, .slice O4 rs.length k4] 27)) := lb_alloc hb2 _
                    have X4 : (w2.alloc (.cells #[.string nm, .slice O1 code.length k1, .int .i64 dA, .slice O2 data.length k2, .slice O3 ss.length k3, .slice O4 rs.length k4] 27)).cell? ⟨w.heap.size, 4, none⟩ = some (.slice (some a) ss.length c3) := lkeep B5 j4
                    have x0 : (w2.alloc (.cells #[.string nm, .slice O1 code.length k1, .int .i64 dA, .slice O2 data.length k2, .slice O3 ss.length k3, .slice O4 rs.length k4] 27)).cell? (a.add ((pick.tmod (ss.length : Int)).toNat * 3)) = some (.string (sName ss (pick.tmod (ss.length : Int)).toNat)) := lkeep B5 q0
                    have x1 : (w2.alloc (.cells #[.string nm, .slice O1 code.length k1, .int .i64 dA, .slice O2 data.length k2, .slice O3 ss.length k3, .slice O4 rs.length k4] 27)).cell? ⟨(a.add ((pick.tmod (ss.length : Int)).toNat * 3)).block, (a.add ((pick.tmod (ss.length : Int)).toNat * 3)).off + 1, none⟩ = some (.int .i8 (sKind ss (pick.tmod (ss.length : Int)).toNat)) := lkeep B5 q1
                    have x2 : (w2.alloc (.cells #[.string nm, .slice O1 code.length k1, .int .i64 dA, .slice O2 data.length k2, .slice O3 ss.length k3, .slice O4 rs.length k4] 27)).cell? ⟨(a.add ((pick.tmod (ss.length : Int)).toNat * 3)).block, (a.add ((pick.tmod (ss.length : Int)).toNat * 3)).off + 2, none⟩ = some (.int .i64 (sAt ss (pick.tmod (ss.length : Int)).toNat)) := lkeep B5 q2
                    clear hb2
                    go_wp2_with fail
                    go_region_law
                      (first
                        | (refine step_append_lies _ rfl (.tmp 128) (.tmp 139) 24 rfl wc.heap.size 42 i0 (.agg #[.string ⟨#[]⟩, .int .i8 0, .int .i64 0]) 3 32 Try.underlying24 hi hz0 hz1 hz2 rfl (by decide) (.slice O3 ss.length k3) ss.length (sNews ss) rfl ((o3.alloc _).alloc _) ⟨w2.heap.size + 1, 0, none⟩ 1 1 [.string (sName ss (pick.tmod (ss.length : Int)).toNat), .int .i8 (sKind ss (pick.tmod (ss.length : Int)).toNat), .int .i64 (sAt ss (pick.tmod (ss.length : Int)).toNat)] rfl rfl (new3 w2 _ _ _ _) (one3 _ _ _) (by omega) (by unfold maxLen; omega) (by omega) (by simp; omega) (w2.heap.size + 2) (by simp) ?_; intro g cap w3 hown hgrow hlie hlt3; obtain ⟨I1, I3, I4⟩ := twice_step (x := ss.getD (pick.tmod (ss.length : Int)).toNat symD) o1 o3 o4 (grown2 w2 _ _) hown hgrow hlie (.slice (some ⟨g, 0, none⟩) (ss.length + 1) cap); have d0 : w3.cell? ⟨w2.heap.size, 0, none⟩ = some (.string nm) := hgrow.cell (by simp [go_sem]) (own_ne o3 (Nat.le_refl _)); have d1 : w3.cell? ⟨w2.heap.size, 1, none⟩ = some (.slice O1 code.length k1) := hgrow.cell (by simp [go_sem]) (own_ne o3 (Nat.le_refl _)); have d2 : w3.cell? ⟨w2.heap.size, 2, none⟩ = some (.int .i64 dA) := hgrow.cell (by simp [go_sem]) (own_ne o3 (Nat.le_refl _)); have d3 : w3.cell? ⟨w2.heap.size, 3, none⟩ = some (.slice O2 data.length k2) := hgrow.cell (by simp [go_sem]) (own_ne o3 (Nat.le_refl _)); have d4 : w3.cell? ⟨w2.heap.size, 4, none⟩ = some (.slice O3 ss.length k3) := hgrow.cell (by simp [go_sem]) (own_ne o3 (Nat.le_refl _)); have d5 : w3.cell? ⟨w2.heap.size, 5, none⟩ = some (.slice O4 rs.length k4) := hgrow.cell (by simp [go_sem]) (own_ne o3 (Nat.le_refl _)); have df : w3.frozen? ⟨w2.heap.size, 4, none⟩ = false := (by rw [World.frozen?_of_block (hgrow.block w2.heap.size (by simp <;> omega) (own_ne o3 (Nat.le_refl _)))]; simp [go_sem]); have CK := objcheck_any nm dA O1 O2 (some ⟨g, 0, none⟩) O4 k1 data.length k2 cap k4 code (ss ++ [ss.getD (pick.tmod (ss.length : Int)).toNat symD]) rs _ I1 I3 I4 hR hc hd (by simp; omega) hl (names_app hN (pick.tmod (ss.length : Int)).toNat) hA; rw [twice_check HM.out (pick.tmod (ss.length : Int)).toNat hP hs1, List.length_append, List.length_singleton] at CK; have B6 : Below wc.heap.size wc w3 := Below.grown (lb_alloc B5 _).drew hgrow (lb_alloc B5 _).drew.size (fun k hk => (o3.lt k hk).1); have HBX : Hid (Below wc.heap.size wc (w3.setCell ⟨w2.heap.size, 4, none⟩ (.slice (some ⟨g, 0, none⟩) (ss.length + 1) cap))) := B6.setCell hsz2 _; clear hown hgrow hlie hlt3 I1 I3 I4))
                    all_goals
                      go_wp2_with (go_at_call 9; refine Calls.mono (by assumption) ?_; rintro e w5 ⟨rfl, hb5⟩; have e4 : w5.cell? ⟨w.heap.size, 4, none⟩ = some (.slice (some a) ss.length c3) := lkeep (lb_trans (‹Hid (Below _ _ (World.setCell _ _ _))›).out hb5) j4; have HB7 : Hid (Below w.heap.size w w5) := lb_trans HC3.out (lb_trans (‹Hid (Below _ _ (World.setCell _ _ _))›).out hb5))
                      refine (lives_any _).mono ?_
                      rintro e w9 ⟨rfl, hb9⟩
                      have HB9 : Hid (Below w.heap.size w w9) := lb_trans (‹Hid (Below w.heap.size w w5)›).out hb9
                      clear hb9
                      go_wp2
                      go_ret
                      exact ⟨rfl, HB9.out⟩
                  · have HC4 : Hid (Below w.heap.size w wc) := HC3
                    clear HC3 HY3
                    by_cases hs0 : 0 < ss.length
                    · have hs1 : ¬ ss.length < 256 := fun h => hsl2 ⟨hs0, h⟩
                      have hs0' : (0 : Int) < (ss.length : Int) := by omega
                      have hs1' : ¬ (ss.length : Int) < 256 := by omega
                      go_wp2_with fail
                      refine (lives_any _).mono ?_
                      rintro e w9 ⟨rfl, hb9⟩
                      have HB9 : Hid (Below w.heap.size w w9) := lb_trans HC4.out hb9
                      clear hb9
                      go_wp2
                      go_ret
                      exact ⟨rfl, HB9.out⟩
                    · have hs0' : ¬ (0 : Int) < (ss.length : Int) := by omega
                      go_wp2_with fail
                      refine (lives_any _).mono ?_
                      rintro e w9 ⟨rfl, hb9⟩
                      have HB9 : Hid (Below w.heap.size w w9) := lb_trans HC4.out hb9
                      clear hb9
                      go_wp2
                      go_ret
                      exact ⟨rfl, HB9.out⟩
    · have hE' : ((checkC nm code dA data.length ss rs).1 == 0) = false := by simpa using hE
      clear hE
      go_wp2_with fail
      refine (lives_any _).mono ?_
      rintro e w9 ⟨rfl, hb9⟩
      have HB9 : Hid (Below w.heap.size w w9) := lb_trans HB3.out hb9
      clear hb9
      go_wp2
      go_ret
      exact ⟨rfl, HB9.out⟩

end Go.Proofs.Ytbphfgalgiinnaa
