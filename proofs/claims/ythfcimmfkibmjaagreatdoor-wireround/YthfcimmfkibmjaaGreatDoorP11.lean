/-
  Package object: what is asked of the symbols; the list is at most 2^20 long, its names at most 2^47 bytes. The table of the ops' fields, as the program makes it anew, and what is read of it; no condition. Whether the fields of an instruction may be: allow of package isa, for every op that there is; no other condition. Decode of the document's answer returns the instruction that a word is, or none, for every word of 32 bits; no other condition.
-/
import Derived.Test.YthfcimmfkibmjaaGreatDoorProg
import Derived.WalkKit
import Derived.WalkSpells
import Derived.WalkLawsBesides
import Derived.RowKit3
import Derived.Below
import Derived.Deep.QuietTactic
import Derived.BigQuiet
import Derived.WalkSmall
import Derived.Test.YthfcimmfkibmjaaGreatDoorP10
import Derived.Deep.RegionHeld3
import Derived.Deep.DeepCutAuto
import Derived.Test.YthfcimmfkibmjaaGreatDoorP04
import Derived.Laws.Tables
import Derived.Laws.Rows
import Derived.Laws.CopyOwn
import Derived.Great.BuildSlice
import Derived.Test.YthfcimmfkibmjaaGreatDoorP02
import Derived.Laws.BitsAllLaws
namespace Go.Proofs.YthfcimmfkibmjaaGreatDoor
open Go.RowKit

open Go.Maps Go.WideMaps
theorem law9 : Keyed Tryz.prog 9 := string_keyed Tryz.underlying9
theorem zero3 (w : World) : (zeroValue 3).run Tryz.prog w = .ok (.int .i64 0) w := by kernel_rfl
theorem mkMap (n : Int) (w : World) : (Instr.makeMap 231 (some (.int .i64 n))).run Tryz.prog w = .ok (.map (some w.heap.size)) (w.alloc (.map #[] 0)) := by
  simp [Instr.makeMap, run_underlying Tryz.underlying231, asInt, asIntOf, Result.andThen]
theorem ownsMap_below {w w' : World} {B b n : Nat} {D : DataW Unit} (h : w.ownsMap Tryz.prog 9 (plainElem Tryz.prog 3) b n D) (hb : Below B w w') (hB : b < B) : w'.ownsMap Tryz.prog 9 (plainElem Tryz.prog 3) b n D := by
  obtain ⟨es, clock, h1, h2⟩ := h
  exact ⟨es, clock, by rw [hb.block b hB]; exact h1, h2⟩
set_option maxRecDepth 100000 in
set_option maxHeartbeats 4000000 in
theorem asksyms_any (nm : ByteArray) (dA : Int) (A1 A2 A A4 : Option Addr) (nc c1 nd c2 c3 nr c4 : Nat) (zs : List Sym) (w : World) (hA : SymsAt w A zs) (hz : zs.length ≤ 1048576) (hN : ∀ i, (sName zs i).size ≤ 140737488355328) :
    Calls Tryz.prog 124 #[.agg #[.string nm, .slice A1 nc c1, .int .i64 dA, .slice A2 nd c2, .slice A zs.length c3, .slice A4 nr c4]] w fun e w' => e = .returned (.tuple #[.int .i64 (symC zs nc).1, .int .i64 (symC zs nc).2]) ∧ Below w.heap.size w w' := by
  have hmm := mkMap
  go_enter Tryz.func124, Tryz.ntmps124
  go_wp2
  go_loopw [16] (fun i wr => ∃ (k : Nat) (D : DataW Unit), i = .int .i64 k ∧ k ≤ zs.length ∧ Below (w.alloc (.cells #[.string nm, .slice A1 nc c1, .int .i64 dA, .slice A2 nd c2, .slice A zs.length c3, .slice A4 nr c4] 27)).heap.size (w.alloc (.cells #[.string nm, .slice A1 nc c1, .int .i64 dA, .slice A2 nd c2, .slice A zs.length c3, .slice A4 nr c4] 27)) wr ∧ wr.ownsMap Tryz.prog 9 (plainElem Tryz.prog 3) (w.heap.size + 1) k D ∧ Hid (Met zs k D) ∧ Hid (∀ j, j < k → symE zs nc j = 0)) (fun i _ => zs.length - (intOf i).toNat)
  case atStart => exact ⟨0, _, rfl, by omega, lb_alloc (Below.refl _ _) _, by simpa using World.ownsMap_made (w.alloc (.cells #[.string nm, .slice A1 nc c1, .int .i64 dA, .slice A2 nd c2, .slice A zs.length c3, .slice A4 nr c4] 27)) Tryz.prog 9 (plainElem Tryz.prog 3), met_zero zs, fun j hj => by omega⟩
  case round =>
    obtain ⟨k, D, rfl, hk, hB, hown, HM, HT⟩ := hrel
    rename_i wr _
    have f0 : wr.cell? ⟨w.heap.size, 0, none⟩ = some (.string nm) := lkeep hB (by simp [go_sem])
    have f1 : wr.cell? ⟨w.heap.size, 1, none⟩ = some (.slice A1 nc c1) := lkeep hB (by simp [go_sem])
    have f2 : wr.cell? ⟨w.heap.size, 2, none⟩ = some (.int .i64 dA) := lkeep hB (by simp [go_sem])
    have f3 : wr.cell? ⟨w.heap.size, 3, none⟩ = some (.slice A2 nd c2) := lkeep hB (by simp [go_sem])
    have f4 : wr.cell? ⟨w.heap.size, 4, none⟩ = some (.slice A zs.length c3) := lkeep hB (by simp [go_sem])
    have f5 : wr.cell? ⟨w.heap.size, 5, none⟩ = some (.slice A4 nr c4) := lkeep hB (by simp [go_sem])
    have HB : Hid (Below w.heap.size w wr) := lb_trans (lb_alloc (Below.refl _ _) _) hB
    have HB0 : Hid (Below (w.alloc (.cells #[.string nm, .slice A1 nc c1, .int .i64 dA, .slice A2 nd c2, .slice A zs.length c3, .slice A4 nr c4] 27)).heap.size (w.alloc (.cells #[.string nm, .slice A1 nc c1, .int .i64 dA, .slice A2 nd c2, .slice A zs.length c3, .slice A4 nr c4] 27)) wr) := hB
    clear hB
    by_cases hlt : k < zs.length
    · obtain ⟨a, rfl, c0, c1', c2'⟩ := (hA.keep HB.out) k hlt
      have d1 : wr.cell? ⟨(a.add (k * 3)).block, (a.add (k * 3)).off + 1, none⟩ = some (.int .i8 (sKind zs k)) := c1'
      have d2 : wr.cell? ⟨(a.add (k * 3)).block, (a.add (k * 3)).off + 2, none⟩ = some (.int .i64 (sAt zs k)) := c2'
      clear c1' c2'
      have hkey : keyOf Tryz.prog 9 (.string (sName zs k)) = some (.string (sName zs k).data.toList) := keyOf_string_mk Tryz.underlying9 (by have := hN k; unfold maxLen; omega)
      have g0 : (wr.alloc (.cells #[.string (sName zs k), .int .i8 (sKind zs k), .int .i64 (sAt zs k)] 68)).cell? ⟨w.heap.size, 0, none⟩ = some (.string nm) := lkeep (lb_alloc (Below.refl _ _) _) f0
      have g1 : (wr.alloc (.cells #[.string (sName zs k), .int .i8 (sKind zs k), .int .i64 (sAt zs k)] 68)).cell? ⟨w.heap.size, 1, none⟩ = some (.slice A1 nc c1) := lkeep (lb_alloc (Below.refl _ _) _) f1
      have g2 : (wr.alloc (.cells #[.string (sName zs k), .int .i8 (sKind zs k), .int .i64 (sAt zs k)] 68)).cell? ⟨w.heap.size, 2, none⟩ = some (.int .i64 dA) := lkeep (lb_alloc (Below.refl _ _) _) f2
      have g3 : (wr.alloc (.cells #[.string (sName zs k), .int .i8 (sKind zs k), .int .i64 (sAt zs k)] 68)).cell? ⟨w.heap.size, 3, none⟩ = some (.slice A2 nd c2) := lkeep (lb_alloc (Below.refl _ _) _) f3
      have g4 : (wr.alloc (.cells #[.string (sName zs k), .int .i8 (sKind zs k), .int .i64 (sAt zs k)] 68)).cell? ⟨w.heap.size, 4, none⟩ = some (.slice (some a) zs.length c3) := lkeep (lb_alloc (Below.refl _ _) _) f4
      have g5 : (wr.alloc (.cells #[.string (sName zs k), .int .i8 (sKind zs k), .int .i64 (sAt zs k)] 68)).cell? ⟨w.heap.size, 5, none⟩ = some (.slice A4 nr c4) := lkeep (lb_alloc (Below.refl _ _) _) f5
      have g6 : (wr.alloc (.cells #[.string (sName zs k), .int .i8 (sKind zs k), .int .i64 (sAt zs k)] 68)).cell? ⟨wr.heap.size, 0, none⟩ = some (.string (sName zs k)) := by simp [go_sem]
      have g7 : (wr.alloc (.cells #[.string (sName zs k), .int .i8 (sKind zs k), .int .i64 (sAt zs k)] 68)).cell? ⟨wr.heap.size, 1, none⟩ = some (.int .i8 (sKind zs k)) := by simp [go_sem]
      have g8 : (wr.alloc (.cells #[.string (sName zs k), .int .i8 (sKind zs k), .int .i64 (sAt zs k)] 68)).cell? ⟨wr.heap.size, 2, none⟩ = some (.int .i64 (sAt zs k)) := by simp [go_sem]
      have BS : Below (wr.alloc (.cells #[.string (sName zs k), .int .i8 (sKind zs k), .int .i64 (sAt zs k)] 68)).heap.size (wr.alloc (.cells #[.string (sName zs k), .int .i8 (sKind zs k), .int .i64 (sAt zs k)] 68)) (wr.alloc (.cells #[.string (sName zs k), .int .i8 (sKind zs k), .int .i64 (sAt zs k)] 68)) := Below.refl _ _
      have CN := objname_raw (sName zs k)
      cases h1 : nameOK (sName zs k) with
      | false =>
        rw [h1] at CN
        have HE : Hid (symE zs nc k = 20) := by unfold Hid symE; rw [if_pos h1]
        clear h1
        go_wp2_with (at_lookup; refine wpList_lookup_own_ok_int _ rfl _ _ 231 rfl 9 3 .i64 law9 Tryz.underlying231 Tryz.underlying3 (zero3 _) (w.heap.size + 1) k D rfl (hown.alloc _) _ _ rfl hkey ?_; intro c hat hwc)
        refine (CN _).mono ?_
        rintro e w2 ⟨rfl, rfl⟩
        go_wp2
        go_ret2
        exact ⟨ret2I (by rw [symC, first_hit hlt HT.out (by rw [HE.out]; omega), HE.out]), lb_alloc HB.out _⟩
      | true =>
      rw [h1] at CN
      have HNm : Hid (¬ nameOK (sName zs k) = false) := by rw [Hid, h1]; simp
      clear h1
      cases h2 : Maps.has D (.string (sName zs k).data.toList) with
      | true =>
        have HE : Hid (symE zs nc k = 26) := by unfold Hid symE; rw [if_neg HNm.out, if_pos (met_yes HM.out hlt h2)]
        go_wp2_with (at_lookup; refine wpList_lookup_own_ok_int _ rfl _ _ 231 rfl 9 3 .i64 law9 Tryz.underlying231 Tryz.underlying3 (zero3 _) (w.heap.size + 1) k D rfl (hown.alloc _) _ _ rfl hkey ?_; intro c hat hwc)
        refine (CN _).mono ?_
        rintro e w2 ⟨rfl, rfl⟩
        go_wp2
        go_ret2
        exact ⟨ret2I (by rw [symC, first_hit hlt HT.out (by rw [HE.out]; omega), HE.out]), lb_alloc HB.out _⟩
      | false =>
      have HO : Hid (¬ ¬ ofS zs (sName zs k) = (k : Int)) := by rw [Hid]; exact fun h => h (met_no HM.out hlt h2)
      by_cases h3 : sKind zs k < 0
      · have HE : Hid (symE zs nc k = 23) := by unfold Hid symE; rw [if_neg HNm.out, if_neg HO.out, if_pos (Or.inl h3)]
        go_wp2_with (at_lookup; refine wpList_lookup_own_ok_int _ rfl _ _ 231 rfl 9 3 .i64 law9 Tryz.underlying231 Tryz.underlying3 (zero3 _) (w.heap.size + 1) k D rfl (hown.alloc _) _ _ rfl hkey ?_; intro c hat hwc)
        refine (CN _).mono ?_
        rintro e w2 ⟨rfl, rfl⟩
        go_wp2
        go_ret2
        exact ⟨ret2I (by rw [symC, first_hit hlt HT.out (by rw [HE.out]; omega), HE.out]), lb_alloc HB.out _⟩
      by_cases h4 : 3 < sKind zs k
      · have HE : Hid (symE zs nc k = 23) := by unfold Hid symE; rw [if_neg HNm.out, if_neg HO.out, if_pos (Or.inr h4)]
        go_wp2_with (at_lookup; refine wpList_lookup_own_ok_int _ rfl _ _ 231 rfl 9 3 .i64 law9 Tryz.underlying231 Tryz.underlying3 (zero3 _) (w.heap.size + 1) k D rfl (hown.alloc _) _ _ rfl hkey ?_; intro c hat hwc)
        refine (CN _).mono ?_
        rintro e w2 ⟨rfl, rfl⟩
        go_wp2
        go_ret2
        exact ⟨ret2I (by rw [symC, first_hit hlt HT.out (by rw [HE.out]; omega), HE.out]), lb_alloc HB.out _⟩
      have HK : Hid (¬ (sKind zs k < 0 ∨ 3 < sKind zs k)) := by rw [Hid]; omega
      by_cases h5 : sAt zs k < 0
      · have HE : Hid (symE zs nc k = 22) := by unfold Hid symE; rw [if_neg HNm.out, if_neg HO.out, if_neg HK.out, if_pos (Or.inl h5)]
        go_wp2_with (at_lookup; refine wpList_lookup_own_ok_int _ rfl _ _ 231 rfl 9 3 .i64 law9 Tryz.underlying231 Tryz.underlying3 (zero3 _) (w.heap.size + 1) k D rfl (hown.alloc _) _ _ rfl hkey ?_; intro c hat hwc)
        refine (CN _).mono ?_
        rintro e w2 ⟨rfl, rfl⟩
        go_upto_region 12 with fail
        go_big_quiet (fail)
        go_wp2
        go_ret2
        exact ⟨ret2I (by rw [symC, first_hit hlt HT.out (by rw [HE.out]; omega), HE.out]), below_drewN (lb_alloc HB.out _) _⟩
      have h5d : decide (sAt zs k < 0) = false := decide_eq_false h5
      by_cases h6 : lastP (sKind zs k) nc < sAt zs k
      · have h6d : decide (lastP (sKind zs k) nc < sAt zs k) = true := decide_eq_true h6
        have HE : Hid (symE zs nc k = 22) := by
          have h6' := h6
          unfold lastP at h6'
          unfold Hid symE; rw [if_neg HNm.out, if_neg HO.out, if_neg HK.out, if_pos (by split at h6' <;> omega)]
        go_wp2_with (at_lookup; refine wpList_lookup_own_ok_int _ rfl _ _ 231 rfl 9 3 .i64 law9 Tryz.underlying231 Tryz.underlying3 (zero3 _) (w.heap.size + 1) k D rfl (hown.alloc _) _ _ rfl hkey ?_; intro c hat hwc)
        refine (CN _).mono ?_
        rintro e w2 ⟨rfl, rfl⟩
        clear CN
        go_upto_region 12 with fail
        go_region_held3 (fun W => Below (wr.alloc (.cells #[.string (sName zs k), .int .i8 (sKind zs k), .int .i64 (sAt zs k)] 68)).heap.size (wr.alloc (.cells #[.string (sName zs k), .int .i8 (sKind zs k), .int .i64 (sAt zs k)] 68)) W ∧ W.cell? ⟨w.heap.size, 0, none⟩ = some (.string nm) ∧ W.cell? ⟨w.heap.size, 1, none⟩ = some (.slice A1 nc c1) ∧ W.cell? ⟨w.heap.size, 2, none⟩ = some (.int .i64 dA) ∧ W.cell? ⟨w.heap.size, 3, none⟩ = some (.slice A2 nd c2) ∧ W.cell? ⟨w.heap.size, 4, none⟩ = some (.slice (some a) zs.length c3) ∧ W.cell? ⟨w.heap.size, 5, none⟩ = some (.slice A4 nr c4) ∧ W.cell? ⟨wr.heap.size, 0, none⟩ = some (.string (sName zs k)) ∧ W.cell? ⟨wr.heap.size, 1, none⟩ = some (.int .i8 (sKind zs k)) ∧ W.cell? ⟨wr.heap.size, 2, none⟩ = some (.int .i64 (sAt zs k))) (first | (refine ⟨lb_trans ?_ hb, lkeep hb ?_, lkeep hb ?_, lkeep hb ?_, lkeep hb ?_, lkeep hb ?_, lkeep hb ?_, lkeep hb ?_, lkeep hb ?_, lkeep hb ?_⟩ <;> first | assumption | exact (‹Below _ _ _ ∧ _›).1 | exact Below.drew (by assumption) | (simp [*]; done)) | (refine ⟨?_, ?_, ?_, ?_, ?_, ?_, ?_, ?_, ?_, ?_⟩ <;> first | assumption | exact Below.drew (by assumption) | exact Below.drew (‹Below _ _ _ ∧ _›).1 | (simp [*]; done)))
          (first
            | (go_at_call 145; refine (last_any nm dA (sKind zs k) A1 A2 (some a) A4 nc c1 nd c2 zs.length c3 nr c4 _).mono ?_; rintro e w5 ⟨rfl, hb⟩))
        rename_i hS'
        have HB5 : Hid (Below w.heap.size w _) := lb_trans (lb_alloc HB.out _) hS'.1
        go_wp2
        go_ret2
        exact ⟨ret2I (by rw [symC, first_hit hlt HT.out (by rw [HE.out]; omega), HE.out]), HB5.out⟩
      · have h6d : decide (lastP (sKind zs k) nc < sAt zs k) = false := decide_eq_false h6
        have HE : Hid (symE zs nc k = 0) := by
          have h6' := h6
          unfold lastP at h6'
          unfold Hid symE; rw [if_neg HNm.out, if_neg HO.out, if_neg HK.out, if_neg (by split at h6' <;> omega)]
        go_wp2_with (at_lookup; refine wpList_lookup_own_ok_int _ rfl _ _ 231 rfl 9 3 .i64 law9 Tryz.underlying231 Tryz.underlying3 (zero3 _) (w.heap.size + 1) k D rfl (hown.alloc _) _ _ rfl hkey ?_; intro c hat hwc)
        refine (CN _).mono ?_
        rintro e w2 ⟨rfl, rfl⟩
        clear CN
        go_upto_region 12 with fail
        go_region_held3 (fun W => Below (wr.alloc (.cells #[.string (sName zs k), .int .i8 (sKind zs k), .int .i64 (sAt zs k)] 68)).heap.size (wr.alloc (.cells #[.string (sName zs k), .int .i8 (sKind zs k), .int .i64 (sAt zs k)] 68)) W ∧ W.cell? ⟨w.heap.size, 0, none⟩ = some (.string nm) ∧ W.cell? ⟨w.heap.size, 1, none⟩ = some (.slice A1 nc c1) ∧ W.cell? ⟨w.heap.size, 2, none⟩ = some (.int .i64 dA) ∧ W.cell? ⟨w.heap.size, 3, none⟩ = some (.slice A2 nd c2) ∧ W.cell? ⟨w.heap.size, 4, none⟩ = some (.slice (some a) zs.length c3) ∧ W.cell? ⟨w.heap.size, 5, none⟩ = some (.slice A4 nr c4) ∧ W.cell? ⟨wr.heap.size, 0, none⟩ = some (.string (sName zs k)) ∧ W.cell? ⟨wr.heap.size, 1, none⟩ = some (.int .i8 (sKind zs k)) ∧ W.cell? ⟨wr.heap.size, 2, none⟩ = some (.int .i64 (sAt zs k))) (first | (refine ⟨lb_trans ?_ hb, lkeep hb ?_, lkeep hb ?_, lkeep hb ?_, lkeep hb ?_, lkeep hb ?_, lkeep hb ?_, lkeep hb ?_, lkeep hb ?_, lkeep hb ?_⟩ <;> first | assumption | exact (‹Below _ _ _ ∧ _›).1 | exact Below.drew (by assumption) | (simp [*]; done)) | (refine ⟨?_, ?_, ?_, ?_, ?_, ?_, ?_, ?_, ?_, ?_⟩ <;> first | assumption | exact Below.drew (by assumption) | exact Below.drew (‹Below _ _ _ ∧ _›).1 | (simp [*]; done)))
          (first
            | (go_at_call 145; refine (last_any nm dA (sKind zs k) A1 A2 (some a) A4 nc c1 nd c2 zs.length c3 nr c4 _).mono ?_; rintro e w5 ⟨rfl, hb⟩))
        rename_i hS'
        obtain ⟨sB, s0, s1, s2, s3, s4, s5, t0, t1, t2⟩ := hS'
        have hlt' : w.heap.size + 1 < (wr.alloc (.cells #[.string (sName zs k), .int .i8 (sKind zs k), .int .i64 (sAt zs k)] 68)).heap.size := by
          have := hown.lt; simp; omega
        have hown5 := ownsMap_below (hown.alloc (.cells #[.string (sName zs k), .int .i8 (sKind zs k), .int .i64 (sAt zs k)] 68)) sB hlt'
        have HB5 : Hid (Below (w.alloc (.cells #[.string nm, .slice A1 nc c1, .int .i64 dA, .slice A2 nd c2, .slice (some a) zs.length c3, .slice A4 nr c4] 27)).heap.size (w.alloc (.cells #[.string nm, .slice A1 nc c1, .int .i64 dA, .slice A2 nd c2, .slice (some a) zs.length c3, .slice A4 nr c4] 27)) _) := lb_trans (lb_alloc HB0.out _) sB
        clear sB g0 g1 g2 g3 g4 g5 g6 g7 g8 BS hown
        go_wp2_with (at_mapUpdate; refine wpList_mapUpdate_own _ rfl _ _ _ 231 rfl 9 3 law9 Tryz.underlying231 _ (w.heap.size + 1) k _ rfl hown5 (by unfold maxLen; omega) _ _ _ rfl rfl hkey _ [] (plainElem_int Tryz.underlying3 (WalkArith.wf_i64 (by omega))) ?_; intro w6 hown6 hgrow6)
        go_roundw
        case rel => exact ⟨k + 1, _, by go_num, by omega, HB5.out.grown (by assumption) HB5.out.size (fun j hj => by cases hj; simp), by assumption, met_step HM.out, fun j hj => by
            by_cases hjk : j = k
            · rw [hjk]; exact HE.out
            · exact HT.out j (by omega)⟩
        case measure => simp [intOf]; omega
    · have HC : Hid (symC zs nc = (0, 0)) := first_none fun j hj => HT.out j (by omega)
      go_wp2
      go_ret2
      exact ⟨ret2I (by rw [HC.out]), HB.out⟩


end Go.Proofs.YthfcimmfkibmjaaGreatDoor

namespace Go.Proofs.YthfcimmfkibmjaaGreatDoor
open Go.RowKit

def shV : Array Value := #[.int .u8 0, .int .u8 9, .int .u8 3, .int .u8 7, .int .u8 7, .int .u8 7, .int .u8 7, .int .u8 7, .int .u8 7, .int .u8 7, .int .u8 7, .int .u8 11, .int .u8 14, .int .u8 1, .int .u8 10, .int .u8 24, .int .u8 26, .int .u8 24, .int .u8 2, .int .u8 2, .int .u8 25, .int .u8 0]
def zs22 : Array Value := #[.int .u8 0, .int .u8 0, .int .u8 0, .int .u8 0, .int .u8 0, .int .u8 0, .int .u8 0, .int .u8 0, .int .u8 0, .int .u8 0, .int .u8 0, .int .u8 0, .int .u8 0, .int .u8 0, .int .u8 0, .int .u8 0, .int .u8 0, .int .u8 0, .int .u8 0, .int .u8 0, .int .u8 0, .int .u8 0]

theorem heap_new (w : World) (o : Obj) : (w.alloc o).heap[w.heap.size]? = some o := heap_alloc_new w o

theorem shapes_res (w1 : World) (g : Nat) (h : w1.heap[g]? = some (.cells shV 243 (0, 0))) : (results Tryz.f158 #[.pointer (some ⟨g, 0, none⟩), .agg shV]).run Tryz.prog w1 = .ok (.agg shV) w1 := by
  have hl := run_loadVar_row (P := Tryz.prog) w1 g 243 243 shV (0, 0) _ h Tryz.underlying243 rfl (by kernel_rfl)
  have ha : (asAddr (Value.pointer (some ⟨g, 0, none⟩))).run Tryz.prog w1 = .ok ⟨g, 0, none⟩ w1 := rfl
  have hm : (results Tryz.f158 #[.pointer (some ⟨g, 0, none⟩), .agg shV]) = (do
      let vs ← (Tryz.f158.results.mapM fun
        | .tmp t => pure ((#[Value.pointer (some ⟨g, 0, none⟩), .agg shV] : Array Value).getD t undef)
        | .cell a t => do loadVar t (← asAddr ((#[Value.pointer (some ⟨g, 0, none⟩), .agg shV] : Array Value).getD a undef)) : Sem (Array Value))
      pure (if h : vs.size = 1 then vs[0] else .tuple vs)) := rfl
  rw [hm, Tryz.results158]
  have hg0 : (#[Value.pointer (some ⟨g, 0, none⟩), Value.agg shV] : Array Value).getD 0 undef = .pointer (some ⟨g, 0, none⟩) := rfl
  simp only [List.mapM_toArray, List.mapM_cons, List.mapM_nil, map_eq_pure_bind, bind_assoc, pure_bind, Sem.run_bind, Sem.run_pure, Result.andThen_ok, hg0, ha, hl]
  rfl

set_option maxRecDepth 100000 in
theorem shapes_any (w : World) : Calls Tryz.prog 158 #[] w fun e w' => e = .returned (.agg shV) ∧ Below w.heap.size w w' := by
  go_enter Tryz.func158, Tryz.ntmps158
  go_upto_region 1 with fail
  rename_i hK
  apply wp_region_lit
  refine wpList_buildTo rfl 243 _ rfl (some 1) rfl shV (by kernel_rfl) ?_
  refine wpList_store_row rfl 243 _ _ rfl w.heap.size shV rfl rfl 243 zs22 (heap_new _ _) (by kernel_rfl) (by kernel_rfl) (by kernel_rfl) ?_
  apply wpList_nil
  refine hK _ _ (wp_ret ?_)
  exact bodyPost_ret (v := .agg shV) (shapes_res _ _ (setRow_heap _ _ zs22 _ _ _ (heap_new _ _))) rfl ⟨rfl, below_setRow (bel_alloc (Below.refl _ _) _) (Nat.le_refl _) _⟩
theorem index_sh0 (w : World) : (Instr.index 243 (.agg shV) (.int .i8 0)).run Tryz.prog w = .ok (.int .u8 (sh 0)) w := by kernel_rfl
theorem index_sh1 (w : World) : (Instr.index 243 (.agg shV) (.int .i8 1)).run Tryz.prog w = .ok (.int .u8 (sh 1)) w := by kernel_rfl
theorem index_sh2 (w : World) : (Instr.index 243 (.agg shV) (.int .i8 2)).run Tryz.prog w = .ok (.int .u8 (sh 2)) w := by kernel_rfl
theorem index_sh3 (w : World) : (Instr.index 243 (.agg shV) (.int .i8 3)).run Tryz.prog w = .ok (.int .u8 (sh 3)) w := by kernel_rfl
theorem index_sh4 (w : World) : (Instr.index 243 (.agg shV) (.int .i8 4)).run Tryz.prog w = .ok (.int .u8 (sh 4)) w := by kernel_rfl
theorem index_sh5 (w : World) : (Instr.index 243 (.agg shV) (.int .i8 5)).run Tryz.prog w = .ok (.int .u8 (sh 5)) w := by kernel_rfl
theorem index_sh6 (w : World) : (Instr.index 243 (.agg shV) (.int .i8 6)).run Tryz.prog w = .ok (.int .u8 (sh 6)) w := by kernel_rfl
theorem index_sh7 (w : World) : (Instr.index 243 (.agg shV) (.int .i8 7)).run Tryz.prog w = .ok (.int .u8 (sh 7)) w := by kernel_rfl
theorem index_sh8 (w : World) : (Instr.index 243 (.agg shV) (.int .i8 8)).run Tryz.prog w = .ok (.int .u8 (sh 8)) w := by kernel_rfl
theorem index_sh9 (w : World) : (Instr.index 243 (.agg shV) (.int .i8 9)).run Tryz.prog w = .ok (.int .u8 (sh 9)) w := by kernel_rfl
theorem index_sh10 (w : World) : (Instr.index 243 (.agg shV) (.int .i8 10)).run Tryz.prog w = .ok (.int .u8 (sh 10)) w := by kernel_rfl
theorem index_sh11 (w : World) : (Instr.index 243 (.agg shV) (.int .i8 11)).run Tryz.prog w = .ok (.int .u8 (sh 11)) w := by kernel_rfl
theorem index_sh12 (w : World) : (Instr.index 243 (.agg shV) (.int .i8 12)).run Tryz.prog w = .ok (.int .u8 (sh 12)) w := by kernel_rfl
theorem index_sh13 (w : World) : (Instr.index 243 (.agg shV) (.int .i8 13)).run Tryz.prog w = .ok (.int .u8 (sh 13)) w := by kernel_rfl
theorem index_sh14 (w : World) : (Instr.index 243 (.agg shV) (.int .i8 14)).run Tryz.prog w = .ok (.int .u8 (sh 14)) w := by kernel_rfl
theorem index_sh15 (w : World) : (Instr.index 243 (.agg shV) (.int .i8 15)).run Tryz.prog w = .ok (.int .u8 (sh 15)) w := by kernel_rfl
theorem index_sh16 (w : World) : (Instr.index 243 (.agg shV) (.int .i8 16)).run Tryz.prog w = .ok (.int .u8 (sh 16)) w := by kernel_rfl
theorem index_sh17 (w : World) : (Instr.index 243 (.agg shV) (.int .i8 17)).run Tryz.prog w = .ok (.int .u8 (sh 17)) w := by kernel_rfl
theorem index_sh18 (w : World) : (Instr.index 243 (.agg shV) (.int .i8 18)).run Tryz.prog w = .ok (.int .u8 (sh 18)) w := by kernel_rfl
theorem index_sh19 (w : World) : (Instr.index 243 (.agg shV) (.int .i8 19)).run Tryz.prog w = .ok (.int .u8 (sh 19)) w := by kernel_rfl
theorem index_sh20 (w : World) : (Instr.index 243 (.agg shV) (.int .i8 20)).run Tryz.prog w = .ok (.int .u8 (sh 20)) w := by kernel_rfl
theorem index_sh21 (w : World) : (Instr.index 243 (.agg shV) (.int .i8 21)).run Tryz.prog w = .ok (.int .u8 (sh 21)) w := by kernel_rfl
theorem index_sh (op : Int) (h0 : 0 ≤ op) (h1 : op ≤ 21) (w : World) : (Instr.index 243 (.agg shV) (.int .i8 op)).run Tryz.prog w = .ok (.int .u8 (sh op)) w := by
  have h : op = 0 ∨ op = 1 ∨ op = 2 ∨ op = 3 ∨ op = 4 ∨ op = 5 ∨ op = 6 ∨ op = 7 ∨ op = 8 ∨ op = 9 ∨ op = 10 ∨ op = 11 ∨ op = 12 ∨ op = 13 ∨ op = 14 ∨ op = 15 ∨ op = 16 ∨ op = 17 ∨ op = 18 ∨ op = 19 ∨ op = 20 ∨ op = 21 := by omega
  rcases h with rfl | rfl | rfl | rfl | rfl | rfl | rfl | rfl | rfl | rfl | rfl | rfl | rfl | rfl | rfl | rfl | rfl | rfl | rfl | rfl | rfl | rfl
  · exact index_sh0 w
  · exact index_sh1 w
  · exact index_sh2 w
  · exact index_sh3 w
  · exact index_sh4 w
  · exact index_sh5 w
  · exact index_sh6 w
  · exact index_sh7 w
  · exact index_sh8 w
  · exact index_sh9 w
  · exact index_sh10 w
  · exact index_sh11 w
  · exact index_sh12 w
  · exact index_sh13 w
  · exact index_sh14 w
  · exact index_sh15 w
  · exact index_sh16 w
  · exact index_sh17 w
  · exact index_sh18 w
  · exact index_sh19 w
  · exact index_sh20 w
  · exact index_sh21 w



end Go.Proofs.YthfcimmfkibmjaaGreatDoor

namespace Go.Proofs.YthfcimmfkibmjaaGreatDoor
open Go.RowKit


set_option maxRecDepth 100000 in
set_option maxHeartbeats 1000000 in
theorem allow_of (f x d a b n lo hi : Int) (rd ra rb : Bool) (w : World)
    (CR : ∀ wx : World, Calls Tryz.prog 170 #[.int .u8 f] wx fun e w' => e = .returned (.tuple #[.int .i64 lo, .int .i64 hi]) ∧ w' = wx)
    (C1 : ∀ wx : World, Calls Tryz.prog 171 #[.int .u8 f, .int .u8 1, .int .i8 d] wx fun e w' => e = .returned (.bool rd) ∧ w' = wx)
    (C2 : ∀ wx : World, Calls Tryz.prog 171 #[.int .u8 f, .int .u8 2, .int .i8 a] wx fun e w' => e = .returned (.bool ra) ∧ w' = wx)
    (C4 : ∀ wx : World, Calls Tryz.prog 171 #[.int .u8 f, .int .u8 4, .int .i8 b] wx fun e w' => e = .returned (.bool rb) ∧ w' = wx) :
    Calls Tryz.prog 164 #[.int .u8 f, .agg #[.int .i8 x, .int .i8 d, .int .i8 a, .int .i8 b, .int .i64 n]] w fun e w' => e = .returned (.bool (rd && ra && rb && (decide (lo ≤ n) && decide (n ≤ hi)))) ∧ w' = w.alloc (.cells #[.int .i8 x, .int .i8 d, .int .i8 a, .int .i8 b, .int .i64 n] 144) := by
  cases rd with
  | false =>
    go_enter Tryz.func164, Tryz.ntmps164
    go_wp2_with fail
    refine (CR _).mono ?_
    rintro e w1 ⟨rfl, rfl⟩
    go_wp2_with fail
    refine (C1 _).mono ?_
    rintro e w1 ⟨rfl, rfl⟩
    go_wp2
    go_ret
    exact ⟨by first | rfl | (simp [*]; done) | (simp [*]; omega), rfl⟩
  | true =>
  cases ra with
  | false =>
    go_enter Tryz.func164, Tryz.ntmps164
    go_wp2_with fail
    refine (CR _).mono ?_
    rintro e w1 ⟨rfl, rfl⟩
    go_wp2_with fail
    refine (C1 _).mono ?_
    rintro e w1 ⟨rfl, rfl⟩
    go_wp2_with fail
    refine (C2 _).mono ?_
    rintro e w1 ⟨rfl, rfl⟩
    go_wp2
    go_ret
    exact ⟨by first | rfl | (simp [*]; done) | (simp [*]; omega), rfl⟩
  | true =>
  cases rb with
  | false =>
    go_enter Tryz.func164, Tryz.ntmps164
    go_wp2_with fail
    refine (CR _).mono ?_
    rintro e w1 ⟨rfl, rfl⟩
    go_wp2_with fail
    refine (C1 _).mono ?_
    rintro e w1 ⟨rfl, rfl⟩
    go_wp2_with fail
    refine (C2 _).mono ?_
    rintro e w1 ⟨rfl, rfl⟩
    go_wp2_with fail
    refine (C4 _).mono ?_
    rintro e w1 ⟨rfl, rfl⟩
    go_wp2
    go_ret
    exact ⟨by first | rfl | (simp [*]; done) | (simp [*]; omega), rfl⟩
  | true =>
  by_cases hl : lo ≤ n
  · go_enter Tryz.func164, Tryz.ntmps164
    go_wp2_with fail
    refine (CR _).mono ?_
    rintro e w1 ⟨rfl, rfl⟩
    go_wp2_with fail
    refine (C1 _).mono ?_
    rintro e w1 ⟨rfl, rfl⟩
    go_wp2_with fail
    refine (C2 _).mono ?_
    rintro e w1 ⟨rfl, rfl⟩
    go_wp2_with fail
    refine (C4 _).mono ?_
    rintro e w1 ⟨rfl, rfl⟩
    go_wp2
    go_ret
    exact ⟨by first | rfl | (simp [*]; done) | (simp [*]; omega), rfl⟩
  · go_enter Tryz.func164, Tryz.ntmps164
    go_wp2_with fail
    refine (CR _).mono ?_
    rintro e w1 ⟨rfl, rfl⟩
    go_wp2_with fail
    refine (C1 _).mono ?_
    rintro e w1 ⟨rfl, rfl⟩
    go_wp2_with fail
    refine (C2 _).mono ?_
    rintro e w1 ⟨rfl, rfl⟩
    go_wp2_with fail
    refine (C4 _).mono ?_
    rintro e w1 ⟨rfl, rfl⟩
    go_wp2
    go_ret
    exact ⟨by first | rfl | (simp [*]; done) | (simp [*]; omega), rfl⟩

theorem allow_any (op x d a b n : Int) (h0 : 0 ≤ op) (h1 : op ≤ 21) (w : World) : Calls Tryz.prog 164 #[.int .u8 (sh op), .agg #[.int .i8 x, .int .i8 d, .int .i8 a, .int .i8 b, .int .i64 n]] w fun e w' => e = .returned (.bool (insOK op d a b n)) ∧ w' = w.alloc (.cells #[.int .i8 x, .int .i8 d, .int .i8 a, .int .i8 b, .int .i64 n] 144) := by
  obtain ⟨b1, b2, b4, b8, b16⟩ := sh_bits op h0 h1
  have h := allow_of (sh op) x d a b n _ _ _ _ _ w (frange_any (sh op) _ _ b8 b16) (fregister_any (sh op) 1 d _ b1) (fregister_any (sh op) 2 a _ b2) (fregister_any (sh op) 4 b _ b4)
  rw [num_lohi _ _ (hP_hN op)] at h
  exact h



end Go.Proofs.YthfcimmfkibmjaaGreatDoor

namespace Go.Proofs.YthfcimmfkibmjaaGreatDoor
open Go.RowKit

theorem and15 (x : Int) (h0 : 0 ≤ x) (h1 : x < 4294967296) : bits .and .u32 x 15 = x % 16 := by
  rw [u32_and x 15 h0 h1 (by omega) (by omega)]
  have e : x.toNat &&& (15 : Int).toNat = x.toNat % 16 := Nat.and_two_pow_sub_one_eq_mod x.toNat 4
  rw [e]; omega
theorem and32767 (x : Int) (h0 : 0 ≤ x) (h1 : x < 4294967296) : bits .and .u32 x 32767 = x % 32768 := by
  rw [u32_and x 32767 h0 h1 (by omega) (by omega)]
  have e : x.toNat &&& (32767 : Int).toNat = x.toNat % 32768 := Nat.and_two_pow_sub_one_eq_mod x.toNat 15
  rw [e]; omega
theorem dec_yes {v : Int} (h : isIns v = true) : Ending.returned (.agg #[.int .i8 (v / 134217728), .int .i8 (v / 8388608 % 16), .int .i8 (v / 524288 % 16), .int .i8 (v / 32768 % 16), .int .i64 (wN v)]) = .returned (.agg #[.int .i8 (dOp v), .int .i8 (dD v), .int .i8 (dA v), .int .i8 (dB v), .int .i64 (dN v)]) := by
  unfold dOp dD dA dB dN; rw [h]; rfl
theorem dec_no {v : Int} (h : isIns v = false) : Ending.returned (.agg #[.int .i8 (-1), .int .i8 0, .int .i8 0, .int .i8 0, .int .i64 v]) = .returned (.agg #[.int .i8 (dOp v), .int .i8 (dD v), .int .i8 (dA v), .int .i8 (dB v), .int .i64 (dN v)]) := by
  unfold dOp dD dA dB dN; rw [h]; rfl

set_option maxRecDepth 100000 in
set_option maxHeartbeats 1000000 in
theorem refdecode_any (v : Int) (h0 : 0 ≤ v) (h1 : v < 4294967296) (w : World) : Calls Tryz.prog 131 #[.int .u32 v] w fun e w' =>
    e = .returned (.agg #[.int .i8 (dOp v), .int .i8 (dD v), .int .i8 (dA v), .int .i8 (dB v), .int .i64 (dN v)]) ∧ Below w.heap.size w w' := by
  have a1 := and15 (v / 8388608) (by omega) (by omega)
  have a2 := and15 (v / 524288) (by omega) (by omega)
  have a3 := and15 (v / 32768) (by omega) (by omega)
  have a4 := and32767 v h0 h1
  go_enter Tryz.func131, Tryz.ntmps131
  go_wp2_with fail
  refine (refhas_any _ _).mono ?_
  rintro e w' ⟨rfl, rfl⟩
  clear a1 a2 a3 a4
  go_upto_region 3 with fail
  go_cut [40] (fun t wx => t = .bool (nNeg v) ∧ wx = ((((w.alloc (.cells #[.int .i8 0, .int .i8 0, .int .i8 0, .int .i8 0, .int .i64 0] 144)).alloc (.cells #[.int .i8 (v / 134217728), .int .i8 (v / 8388608 % 16), .int .i8 (v / 524288 % 16), .int .i8 (v / 32768 % 16), .int .i64 (v % 32768)] 144)).alloc (.cells #[.bool (hD (v / 134217728)), .bool (hA (v / 134217728)), .bool (hB (v / 134217728)), .bool (hN (v / 134217728)), .bool (hP (v / 134217728))] 203)).alloc (.cells #[.bool (hD (v / 134217728)), .bool (hA (v / 134217728)), .bool (hB (v / 134217728)), .bool (hN (v / 134217728)), .bool (hP (v / 134217728))] 203)))
  case first =>
    cases hn : hN (v / 134217728)
    · go_wp2
      go_meet
      case rel => exact ⟨by unfold nNeg; rw [hn]; rfl, by simp only [hn]⟩
    · cases hp : hP (v / 134217728)
      · go_wp2
        go_meet
        case rel => exact ⟨by unfold nNeg; rw [hn, hp]; simp, by simp only [hn, hp]⟩
      · go_wp2
        go_meet
        case rel => exact ⟨by unfold nNeg; rw [hn, hp]; simp, by simp only [hn, hp]⟩
  case rest =>
    obtain ⟨rfl, rfl⟩ := hcut
    go_upto_if 40 with fail
    go_cut [] (fun wx => wx = ((((w.alloc (.cells #[.int .i8 0, .int .i8 0, .int .i8 0, .int .i8 0, .int .i64 0] 144)).alloc (.cells #[.int .i8 (v / 134217728), .int .i8 (v / 8388608 % 16), .int .i8 (v / 524288 % 16), .int .i8 (v / 32768 % 16), .int .i64 (wN v)] 144)).alloc (.cells #[.bool (hD (v / 134217728)), .bool (hA (v / 134217728)), .bool (hB (v / 134217728)), .bool (hN (v / 134217728)), .bool (hP (v / 134217728))] 203)).alloc (.cells #[.bool (hD (v / 134217728)), .bool (hA (v / 134217728)), .bool (hB (v / 134217728)), .bool (hN (v / 134217728)), .bool (hP (v / 134217728))] 203)))
    case first =>
      cases hq : nNeg v
      · have e := wN_pos hq
        have HE : Hid (wN v = v % 32768) := e
        clear e
        go_wp2
        go_meet
        case rel => rw [HE.out]
      · have e := wN_neg hq
        have HE : Hid (wN v = v % 32768 - 32768) := e
        clear e
        go_wp2
        go_meet
        case rel => rw [HE.out]
    case rest =>
      subst hcut
      cases hI : isIns v with
      | true =>
        have CE : ∀ wx : World, Calls Tryz.prog 148 #[.agg #[.int .i8 (v / 134217728), .int .i8 (v / 8388608 % 16), .int .i8 (v / 524288 % 16), .int .i8 (v / 32768 % 16), .int .i64 (wN v)]] wx fun e w' => e = .returned (.tuple #[.int .u32 v, .int .i64 0]) ∧ Below wx.heap.size wx w' := fun wx => by
          have h := refencode_any (wOp v) (wD v) (wA v) (wB v) (wN v) wx
          rw [(enc_yes h0 h1 hI).1, (enc_yes h0 h1 hI).2] at h
          exact h
        have HI : Hid (isIns v = true) := hI
        clear hI
        go_wp2_with fail
        refine (CE _).mono ?_
        rintro e w2 ⟨rfl, hb2⟩
        clear CE
        have z0 : w2.cell? ⟨w.heap.size, 0, none⟩ = some (.int .i8 0) := cell_keep hb2 (by simp [go_sem])
        have y0 : w2.frozen? ⟨w.heap.size, 0, none⟩ = false := frozen_keep hb2 (v := .int .i8 0) (by simp [go_sem]) (by simp [go_sem])
        have x0 : w2.cell? ⟨w.heap.size + 1, 0, none⟩ = some (.int .i8 (v / 134217728)) := cell_keep hb2 (by simp [go_sem])
        have z1 : w2.cell? ⟨w.heap.size, 1, none⟩ = some (.int .i8 0) := cell_keep hb2 (by simp [go_sem])
        have y1 : w2.frozen? ⟨w.heap.size, 1, none⟩ = false := frozen_keep hb2 (v := .int .i8 0) (by simp [go_sem]) (by simp [go_sem])
        have x1 : w2.cell? ⟨w.heap.size + 1, 1, none⟩ = some (.int .i8 (v / 8388608 % 16)) := cell_keep hb2 (by simp [go_sem])
        have z2 : w2.cell? ⟨w.heap.size, 2, none⟩ = some (.int .i8 0) := cell_keep hb2 (by simp [go_sem])
        have y2 : w2.frozen? ⟨w.heap.size, 2, none⟩ = false := frozen_keep hb2 (v := .int .i8 0) (by simp [go_sem]) (by simp [go_sem])
        have x2 : w2.cell? ⟨w.heap.size + 1, 2, none⟩ = some (.int .i8 (v / 524288 % 16)) := cell_keep hb2 (by simp [go_sem])
        have z3 : w2.cell? ⟨w.heap.size, 3, none⟩ = some (.int .i8 0) := cell_keep hb2 (by simp [go_sem])
        have y3 : w2.frozen? ⟨w.heap.size, 3, none⟩ = false := frozen_keep hb2 (v := .int .i8 0) (by simp [go_sem]) (by simp [go_sem])
        have x3 : w2.cell? ⟨w.heap.size + 1, 3, none⟩ = some (.int .i8 (v / 32768 % 16)) := cell_keep hb2 (by simp [go_sem])
        have z4 : w2.cell? ⟨w.heap.size, 4, none⟩ = some (.int .i64 0) := cell_keep hb2 (by simp [go_sem])
        have y4 : w2.frozen? ⟨w.heap.size, 4, none⟩ = false := frozen_keep hb2 (v := .int .i64 0) (by simp [go_sem]) (by simp [go_sem])
        have x4 : w2.cell? ⟨w.heap.size + 1, 4, none⟩ = some (.int .i64 (wN v)) := cell_keep hb2 (by simp [go_sem])
        have HB2 : Hid (Below w.heap.size w w2) := bel_trans (bel_alloc (bel_alloc (bel_alloc (bel_alloc (Below.refl _ _) _) _) _) _) hb2
        clear hb2
        go_wp2
        exact bodyPost_ret (v := .agg #[.int .i8 (v / 134217728), .int .i8 (v / 8388608 % 16), .int .i8 (v / 524288 % 16), .int .i8 (v / 32768 % 16), .int .i64 (wN v)]) (by simp [results, Tryz.results131, go_sem, z0, z1, z2, z3, z4]) rfl ⟨dec_yes HI.out, ((((HB2.out.setCell (Nat.le_refl _) _).setCell (Nat.le_refl _) _).setCell (Nat.le_refl _) _).setCell (Nat.le_refl _) _).setCell (Nat.le_refl _) _⟩
      | false =>
        have HI : Hid (isIns v = false) := hI
        obtain ⟨E, hE, CE⟩ : ∃ E : Int, (E == 0) = false ∧ ∀ wx : World, Calls Tryz.prog 148 #[.agg #[.int .i8 (v / 134217728), .int .i8 (v / 8388608 % 16), .int .i8 (v / 524288 % 16), .int .i8 (v / 32768 % 16), .int .i64 (wN v)]] wx fun e w' => e = .returned (.tuple #[.int .u32 0, .int .i64 E]) ∧ Below wx.heap.size wx w' := by
          obtain ⟨e1, e2⟩ := enc_no h0 hI
          refine ⟨encE (wOp v) (wD v) (wA v) (wB v) (wN v), by rcases e2 with e2 | e2 <;> (rw [e2]; rfl), fun wx => ?_⟩
          have h := refencode_any (wOp v) (wD v) (wA v) (wB v) (wN v) wx
          rw [e1] at h
          exact h
        clear hI
        go_wp2_with fail
        refine (CE _).mono ?_
        rintro e w2 ⟨rfl, hb2⟩
        clear CE
        have z0 : w2.cell? ⟨w.heap.size, 0, none⟩ = some (.int .i8 0) := cell_keep hb2 (by simp [go_sem])
        have y0 : w2.frozen? ⟨w.heap.size, 0, none⟩ = false := frozen_keep hb2 (v := .int .i8 0) (by simp [go_sem]) (by simp [go_sem])
        have x0 : w2.cell? ⟨w.heap.size + 1, 0, none⟩ = some (.int .i8 (v / 134217728)) := cell_keep hb2 (by simp [go_sem])
        have z1 : w2.cell? ⟨w.heap.size, 1, none⟩ = some (.int .i8 0) := cell_keep hb2 (by simp [go_sem])
        have y1 : w2.frozen? ⟨w.heap.size, 1, none⟩ = false := frozen_keep hb2 (v := .int .i8 0) (by simp [go_sem]) (by simp [go_sem])
        have x1 : w2.cell? ⟨w.heap.size + 1, 1, none⟩ = some (.int .i8 (v / 8388608 % 16)) := cell_keep hb2 (by simp [go_sem])
        have z2 : w2.cell? ⟨w.heap.size, 2, none⟩ = some (.int .i8 0) := cell_keep hb2 (by simp [go_sem])
        have y2 : w2.frozen? ⟨w.heap.size, 2, none⟩ = false := frozen_keep hb2 (v := .int .i8 0) (by simp [go_sem]) (by simp [go_sem])
        have x2 : w2.cell? ⟨w.heap.size + 1, 2, none⟩ = some (.int .i8 (v / 524288 % 16)) := cell_keep hb2 (by simp [go_sem])
        have z3 : w2.cell? ⟨w.heap.size, 3, none⟩ = some (.int .i8 0) := cell_keep hb2 (by simp [go_sem])
        have y3 : w2.frozen? ⟨w.heap.size, 3, none⟩ = false := frozen_keep hb2 (v := .int .i8 0) (by simp [go_sem]) (by simp [go_sem])
        have x3 : w2.cell? ⟨w.heap.size + 1, 3, none⟩ = some (.int .i8 (v / 32768 % 16)) := cell_keep hb2 (by simp [go_sem])
        have z4 : w2.cell? ⟨w.heap.size, 4, none⟩ = some (.int .i64 0) := cell_keep hb2 (by simp [go_sem])
        have y4 : w2.frozen? ⟨w.heap.size, 4, none⟩ = false := frozen_keep hb2 (v := .int .i64 0) (by simp [go_sem]) (by simp [go_sem])
        have x4 : w2.cell? ⟨w.heap.size + 1, 4, none⟩ = some (.int .i64 (wN v)) := cell_keep hb2 (by simp [go_sem])
        have HB2 : Hid (Below w.heap.size w w2) := bel_trans (bel_alloc (bel_alloc (bel_alloc (bel_alloc (Below.refl _ _) _) _) _) _) hb2
        clear hb2
        go_wp2
        exact bodyPost_ret (v := .agg #[.int .i8 (-1), .int .i8 0, .int .i8 0, .int .i8 0, .int .i64 v]) (by simp [results, Tryz.results131, go_sem, z0, z1, z2, z3, z4]) rfl ⟨dec_no HI.out, ((((HB2.out.setCell (Nat.le_refl _) _).setCell (Nat.le_refl _) _).setCell (Nat.le_refl _) _).setCell (Nat.le_refl _) _).setCell (Nat.le_refl _) _⟩



end Go.Proofs.YthfcimmfkibmjaaGreatDoor
