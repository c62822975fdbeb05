/-
  Package object: what is asked of the symbols; the list is at most 2^20 long, its names at most 2^47 bytes.
-/
import Derived.Test.YtbphfgalgiinnaaProg
import Derived.WalkKit
import Derived.WalkSpells
import Derived.WalkLawsBesides
import Derived.RowKit3
import Derived.Below
import Derived.Deep.QuietTactic
import Derived.BigQuiet
import Derived.WalkSmall
import Derived.Test.YtbphfgalgiinnaaObjName
import Derived.Test.YtbphfgalgiinnaaObjSmall
import Derived.Test.YtbphfgalgiinnaaObjMap
import Derived.Deep.RegionHeld3
import Derived.Deep.DeepCutAuto
namespace Go.Proofs.Ytbphfgalgiinnaa
open Go.RowKit

open Go.Maps Go.WideMaps
theorem law9 : Keyed Try.prog 9 := string_keyed Try.underlying9
theorem zero3 (w : World) : (zeroValue 3).run Try.prog w = .ok (.int .i64 0) w := by kernel_rfl
theorem mkMap (n : Int) (w : World) : (Instr.makeMap 84 (some (.int .i64 n))).run Try.prog w = .ok (.map (some w.heap.size)) (w.alloc (.map #[] 0)) := by
  simp [Instr.makeMap, run_underlying Try.underlying84, asInt, asIntOf, Result.andThen]
theorem ownsMap_below {w w' : World} {B b n : Nat} {D : DataW Unit} (h : w.ownsMap Try.prog 9 (plainElem Try.prog 3) b n D) (hb : Below B w w') (hB : b < B) : w'.ownsMap Try.prog 9 (plainElem Try.prog 3) b n D := by
  obtain ⟨es, clock, h1, h2⟩ := h
  exact ⟨es, clock, by rw [hb.block b hB]; exact h1, h2⟩
set_option maxRecDepth 100000 in
set_option maxHeartbeats 4000000 in
theorem asksyms_any (nm : ByteArray) (dA : Int) (A1 A2 A A4 : Option Addr) (nc c1 nd c2 c3 nr c4 : Nat) (zs : List Sym) (w : World) (hA : SymsAt w A zs) (hz : zs.length ≤ 1048576) (hN : ∀ i, (sName zs i).size ≤ 140737488355328) :
    Calls Try.prog 59 #[.agg #[.string nm, .slice A1 nc c1, .int .i64 dA, .slice A2 nd c2, .slice A zs.length c3, .slice A4 nr c4]] w fun e w' => e = .returned (.tuple #[.int .i64 (symC zs nc).1, .int .i64 (symC zs nc).2]) ∧ Below w.heap.size w w' := by
  have hmm := mkMap
  go_enter Try.func59, Try.ntmps59
  go_wp2
  go_loopw [16] (fun i wr => ∃ (k : Nat) (D : DataW Unit), i = .int .i64 k ∧ k ≤ zs.length ∧ Below (w.alloc (.cells #[.string nm, .slice A1 nc c1, .int .i64 dA, .slice A2 nd c2, .slice A zs.length c3, .slice A4 nr c4] 27)).heap.size (w.alloc (.cells #[.string nm, .slice A1 nc c1, .int .i64 dA, .slice A2 nd c2, .slice A zs.length c3, .slice A4 nr c4] 27)) wr ∧ wr.ownsMap Try.prog 9 (plainElem Try.prog 3) (w.heap.size + 1) k D ∧ Hid (Met zs k D) ∧ Hid (∀ j, j < k → symE zs nc j = 0)) (fun i _ => zs.length - (intOf i).toNat)
  case atStart => exact ⟨0, _, rfl, by omega, lb_alloc (Below.refl _ _) _, by simpa using World.ownsMap_made (w.alloc (.cells #[.string nm, .slice A1 nc c1, .int .i64 dA, .slice A2 nd c2, .slice A zs.length c3, .slice A4 nr c4] 27)) Try.prog 9 (plainElem Try.prog 3), met_zero zs, fun j hj => by omega⟩
  case round =>
    obtain ⟨k, D, rfl, hk, hB, hown, HM, HT⟩ := hrel
    rename_i wr _
    have f0 : wr.cell? ⟨w.heap.size, 0, none⟩ = some (.string nm) := lkeep hB (by simp [go_sem])
    have f1 : wr.cell? ⟨w.heap.size, 1, none⟩ = some (.slice A1 nc c1) := lkeep hB (by simp [go_sem])
    have f2 : wr.cell? ⟨w.heap.size, 2, none⟩ = some (.int .i64 dA) := lkeep hB (by simp [go_sem])
    have f3 : wr.cell? ⟨w.heap.size, 3, none⟩ = some (.slice A2 nd c2) := lkeep hB (by simp [go_sem])
    have f4 : wr.cell? ⟨w.heap.size, 4, none⟩ = some (.slice A zs.length c3) := lkeep hB (by simp [go_sem])
    have f5 : wr.cell? ⟨w.heap.size, 5, none⟩ = some (.slice A4 nr c4) := lkeep hB (by simp [go_sem])
    have HB : Hid (Below w.heap.size w wr) := lb_trans (lb_alloc (Below.refl _ _) _) hB
    have HB0 : Hid (Below (w.alloc (.cells #[.string nm, .slice A1 nc c1, .int .i64 dA, .slice A2 nd c2, .slice A zs.length c3, .slice A4 nr c4] 27)).heap.size (w.alloc (.cells #[.string nm, .slice A1 nc c1, .int .i64 dA, .slice A2 nd c2, .slice A zs.length c3, .slice A4 nr c4] 27)) wr) := hB
    clear hB
    by_cases hlt : k < zs.length
    · obtain ⟨a, rfl, c0, c1', c2'⟩ := (hA.keep HB.out) k hlt
      have d1 : wr.cell? ⟨(a.add (k * 3)).block, (a.add (k * 3)).off + 1, none⟩ = some (.int .i8 (sKind zs k)) := c1'
      have d2 : wr.cell? ⟨(a.add (k * 3)).block, (a.add (k * 3)).off + 2, none⟩ = some (.int .i64 (sAt zs k)) := c2'
      clear c1' c2'
      have hkey : keyOf Try.prog 9 (.string (sName zs k)) = some (.string (sName zs k).data.toList) := keyOf_string_mk Try.underlying9 (by have := hN k; unfold maxLen; omega)
      have g0 : (wr.alloc (.cells #[.string (sName zs k), .int .i8 (sKind zs k), .int .i64 (sAt zs k)] 42)).cell? ⟨w.heap.size, 0, none⟩ = some (.string nm) := lkeep (lb_alloc (Below.refl _ _) _) f0
      have g1 : (wr.alloc (.cells #[.string (sName zs k), .int .i8 (sKind zs k), .int .i64 (sAt zs k)] 42)).cell? ⟨w.heap.size, 1, none⟩ = some (.slice A1 nc c1) := lkeep (lb_alloc (Below.refl _ _) _) f1
      have g2 : (wr.alloc (.cells #[.string (sName zs k), .int .i8 (sKind zs k), .int .i64 (sAt zs k)] 42)).cell? ⟨w.heap.size, 2, none⟩ = some (.int .i64 dA) := lkeep (lb_alloc (Below.refl _ _) _) f2
      have g3 : (wr.alloc (.cells #[.string (sName zs k), .int .i8 (sKind zs k), .int .i64 (sAt zs k)] 42)).cell? ⟨w.heap.size, 3, none⟩ = some (.slice A2 nd c2) := lkeep (lb_alloc (Below.refl _ _) _) f3
      have g4 : (wr.alloc (.cells #[.string (sName zs k), .int .i8 (sKind zs k), .int .i64 (sAt zs k)] 42)).cell? ⟨w.heap.size, 4, none⟩ = some (.slice (some a) zs.length c3) := lkeep (lb_alloc (Below.refl _ _) _) f4
      have g5 : (wr.alloc (.cells #[.string (sName zs k), .int .i8 (sKind zs k), .int .i64 (sAt zs k)] 42)).cell? ⟨w.heap.size, 5, none⟩ = some (.slice A4 nr c4) := lkeep (lb_alloc (Below.refl _ _) _) f5
      have g6 : (wr.alloc (.cells #[.string (sName zs k), .int .i8 (sKind zs k), .int .i64 (sAt zs k)] 42)).cell? ⟨wr.heap.size, 0, none⟩ = some (.string (sName zs k)) := by simp [go_sem]
      have g7 : (wr.alloc (.cells #[.string (sName zs k), .int .i8 (sKind zs k), .int .i64 (sAt zs k)] 42)).cell? ⟨wr.heap.size, 1, none⟩ = some (.int .i8 (sKind zs k)) := by simp [go_sem]
      have g8 : (wr.alloc (.cells #[.string (sName zs k), .int .i8 (sKind zs k), .int .i64 (sAt zs k)] 42)).cell? ⟨wr.heap.size, 2, none⟩ = some (.int .i64 (sAt zs k)) := by simp [go_sem]
      have BS : Below (wr.alloc (.cells #[.string (sName zs k), .int .i8 (sKind zs k), .int .i64 (sAt zs k)] 42)).heap.size (wr.alloc (.cells #[.string (sName zs k), .int .i8 (sKind zs k), .int .i64 (sAt zs k)] 42)) (wr.alloc (.cells #[.string (sName zs k), .int .i8 (sKind zs k), .int .i64 (sAt zs k)] 42)) := Below.refl _ _
      have CN := objname_raw (sName zs k)
      cases h1 : nameOK (sName zs k) with
      | false =>
        rw [h1] at CN
        have HE : Hid (symE zs nc k = 20) := by unfold Hid symE; rw [if_pos h1]
        clear h1
        go_wp2_with (at_lookup; refine wpList_lookup_own_ok_int _ rfl _ _ 84 rfl 9 3 .i64 law9 Try.underlying84 Try.underlying3 (zero3 _) (w.heap.size + 1) k D rfl (hown.alloc _) _ _ rfl hkey ?_; intro c hat hwc)
        refine (CN _).mono ?_
        rintro e w2 ⟨rfl, rfl⟩
        go_wp2
        go_ret2
        exact ⟨ret2I (by rw [symC, first_hit hlt HT.out (by rw [HE.out]; omega), HE.out]), lb_alloc HB.out _⟩
      | true =>
      rw [h1] at CN
      have HNm : Hid (¬ nameOK (sName zs k) = false) := by rw [Hid, h1]; simp
      clear h1
      cases h2 : Maps.has D (.string (sName zs k).data.toList) with
      | true =>
        have HE : Hid (symE zs nc k = 26) := by unfold Hid symE; rw [if_neg HNm.out, if_pos (met_yes HM.out hlt h2)]
        go_wp2_with (at_lookup; refine wpList_lookup_own_ok_int _ rfl _ _ 84 rfl 9 3 .i64 law9 Try.underlying84 Try.underlying3 (zero3 _) (w.heap.size + 1) k D rfl (hown.alloc _) _ _ rfl hkey ?_; intro c hat hwc)
        refine (CN _).mono ?_
        rintro e w2 ⟨rfl, rfl⟩
        go_wp2
        go_ret2
        exact ⟨ret2I (by rw [symC, first_hit hlt HT.out (by rw [HE.out]; omega), HE.out]), lb_alloc HB.out _⟩
      | false =>
      have HO : Hid (¬ ¬ ofS zs (sName zs k) = (k : Int)) := by rw [Hid]; exact fun h => h (met_no HM.out hlt h2)
      by_cases h3 : sKind zs k < 0
      · have HE : Hid (symE zs nc k = 23) := by unfold Hid symE; rw [if_neg HNm.out, if_neg HO.out, if_pos (Or.inl h3)]
        go_wp2_with (at_lookup; refine wpList_lookup_own_ok_int _ rfl _ _ 84 rfl 9 3 .i64 law9 Try.underlying84 Try.underlying3 (zero3 _) (w.heap.size + 1) k D rfl (hown.alloc _) _ _ rfl hkey ?_; intro c hat hwc)
        refine (CN _).mono ?_
        rintro e w2 ⟨rfl, rfl⟩
        go_wp2
        go_ret2
        exact ⟨ret2I (by rw [symC, first_hit hlt HT.out (by rw [HE.out]; omega), HE.out]), lb_alloc HB.out _⟩
      by_cases h4 : 3 < sKind zs k
      · have HE : Hid (symE zs nc k = 23) := by unfold Hid symE; rw [if_neg HNm.out, if_neg HO.out, if_pos (Or.inr h4)]
        go_wp2_with (at_lookup; refine wpList_lookup_own_ok_int _ rfl _ _ 84 rfl 9 3 .i64 law9 Try.underlying84 Try.underlying3 (zero3 _) (w.heap.size + 1) k D rfl (hown.alloc _) _ _ rfl hkey ?_; intro c hat hwc)
        refine (CN _).mono ?_
        rintro e w2 ⟨rfl, rfl⟩
        go_wp2
        go_ret2
        exact ⟨ret2I (by rw [symC, first_hit hlt HT.out (by rw [HE.out]; omega), HE.out]), lb_alloc HB.out _⟩
      have HK : Hid (¬ (sKind zs k < 0 ∨ 3 < sKind zs k)) := by rw [Hid]; omega
      by_cases h5 : sAt zs k < 0
      · have HE : Hid (symE zs nc k = 22) := by unfold Hid symE; rw [if_neg HNm.out, if_neg HO.out, if_neg HK.out, if_pos (Or.inl h5)]
        go_wp2_with (at_lookup; refine wpList_lookup_own_ok_int _ rfl _ _ 84 rfl 9 3 .i64 law9 Try.underlying84 Try.underlying3 (zero3 _) (w.heap.size + 1) k D rfl (hown.alloc _) _ _ rfl hkey ?_; intro c hat hwc)
        refine (CN _).mono ?_
        rintro e w2 ⟨rfl, rfl⟩
        go_upto_region 12 with fail
        go_big_quiet (fail)
        go_wp2
        go_ret2
        exact ⟨ret2I (by rw [symC, first_hit hlt HT.out (by rw [HE.out]; omega), HE.out]), below_drewN (lb_alloc HB.out _) _⟩
      have h5d : decide (sAt zs k < 0) = false := decide_eq_false h5
      by_cases h6 : lastP (sKind zs k) nc < sAt zs k
      · have h6d : decide (lastP (sKind zs k) nc < sAt zs k) = true := decide_eq_true h6
        have HE : Hid (symE zs nc k = 22) := by
          have h6' := h6
          unfold lastP at h6'
          unfold Hid symE; rw [if_neg HNm.out, if_neg HO.out, if_neg HK.out, if_pos (by split at h6' <;> omega)]
        go_wp2_with (at_lookup; refine wpList_lookup_own_ok_int _ rfl _ _ 84 rfl 9 3 .i64 law9 Try.underlying84 Try.underlying3 (zero3 _) (w.heap.size + 1) k D rfl (hown.alloc _) _ _ rfl hkey ?_; intro c hat hwc)
        refine (CN _).mono ?_
        rintro e w2 ⟨rfl, rfl⟩
        clear CN
        go_upto_region 12 with fail
        go_region_held3 (fun W => Below (wr.alloc (.cells #[.string (sName zs k), .int .i8 (sKind zs k), .int .i64 (sAt zs k)] 42)).heap.size (wr.alloc (.cells #[.string (sName zs k), .int .i8 (sKind zs k), .int .i64 (sAt zs k)] 42)) W ∧ W.cell? ⟨w.heap.size, 0, none⟩ = some (.string nm) ∧ W.cell? ⟨w.heap.size, 1, none⟩ = some (.slice A1 nc c1) ∧ W.cell? ⟨w.heap.size, 2, none⟩ = some (.int .i64 dA) ∧ W.cell? ⟨w.heap.size, 3, none⟩ = some (.slice A2 nd c2) ∧ W.cell? ⟨w.heap.size, 4, none⟩ = some (.slice (some a) zs.length c3) ∧ W.cell? ⟨w.heap.size, 5, none⟩ = some (.slice A4 nr c4) ∧ W.cell? ⟨wr.heap.size, 0, none⟩ = some (.string (sName zs k)) ∧ W.cell? ⟨wr.heap.size, 1, none⟩ = some (.int .i8 (sKind zs k)) ∧ W.cell? ⟨wr.heap.size, 2, none⟩ = some (.int .i64 (sAt zs k))) (first | (refine ⟨lb_trans ?_ hb, lkeep hb ?_, lkeep hb ?_, lkeep hb ?_, lkeep hb ?_, lkeep hb ?_, lkeep hb ?_, lkeep hb ?_, lkeep hb ?_, lkeep hb ?_⟩ <;> first | assumption | exact (‹Below _ _ _ ∧ _›).1 | exact Below.drew (by assumption) | (simp [*]; done)) | (refine ⟨?_, ?_, ?_, ?_, ?_, ?_, ?_, ?_, ?_, ?_⟩ <;> first | assumption | exact Below.drew (by assumption) | exact Below.drew (‹Below _ _ _ ∧ _›).1 | (simp [*]; done)))
          (first
            | (go_at_call 66; refine (last_any nm dA (sKind zs k) A1 A2 (some a) A4 nc c1 nd c2 zs.length c3 nr c4 _).mono ?_; rintro e w5 ⟨rfl, hb⟩))
        rename_i hS'
        have HB5 : Hid (Below w.heap.size w _) := lb_trans (lb_alloc HB.out _) hS'.1
        go_wp2
        go_ret2
        exact ⟨ret2I (by rw [symC, first_hit hlt HT.out (by rw [HE.out]; omega), HE.out]), HB5.out⟩
      · have h6d : decide (lastP (sKind zs k) nc < sAt zs k) = false := decide_eq_false h6
        have HE : Hid (symE zs nc k = 0) := by
          have h6' := h6
          unfold lastP at h6'
          unfold Hid symE; rw [if_neg HNm.out, if_neg HO.out, if_neg HK.out, if_neg (by split at h6' <;> omega)]
        go_wp2_with (at_lookup; refine wpList_lookup_own_ok_int _ rfl _ _ 84 rfl 9 3 .i64 law9 Try.underlying84 Try.underlying3 (zero3 _) (w.heap.size + 1) k D rfl (hown.alloc _) _ _ rfl hkey ?_; intro c hat hwc)
        refine (CN _).mono ?_
        rintro e w2 ⟨rfl, rfl⟩
        clear CN
        go_upto_region 12 with fail
        go_region_held3 (fun W => Below (wr.alloc (.cells #[.string (sName zs k), .int .i8 (sKind zs k), .int .i64 (sAt zs k)] 42)).heap.size (wr.alloc (.cells #[.string (sName zs k), .int .i8 (sKind zs k), .int .i64 (sAt zs k)] 42)) W ∧ W.cell? ⟨w.heap.size, 0, none⟩ = some (.string nm) ∧ W.cell? ⟨w.heap.size, 1, none⟩ = some (.slice A1 nc c1) ∧ W.cell? ⟨w.heap.size, 2, none⟩ = some (.int .i64 dA) ∧ W.cell? ⟨w.heap.size, 3, none⟩ = some (.slice A2 nd c2) ∧ W.cell? ⟨w.heap.size, 4, none⟩ = some (.slice (some a) zs.length c3) ∧ W.cell? ⟨w.heap.size, 5, none⟩ = some (.slice A4 nr c4) ∧ W.cell? ⟨wr.heap.size, 0, none⟩ = some (.string (sName zs k)) ∧ W.cell? ⟨wr.heap.size, 1, none⟩ = some (.int .i8 (sKind zs k)) ∧ W.cell? ⟨wr.heap.size, 2, none⟩ = some (.int .i64 (sAt zs k))) (first | (refine ⟨lb_trans ?_ hb, lkeep hb ?_, lkeep hb ?_, lkeep hb ?_, lkeep hb ?_, lkeep hb ?_, lkeep hb ?_, lkeep hb ?_, lkeep hb ?_, lkeep hb ?_⟩ <;> first | assumption | exact (‹Below _ _ _ ∧ _›).1 | exact Below.drew (by assumption) | (simp [*]; done)) | (refine ⟨?_, ?_, ?_, ?_, ?_, ?_, ?_, ?_, ?_, ?_⟩ <;> first | assumption | exact Below.drew (by assumption) | exact Below.drew (‹Below _ _ _ ∧ _›).1 | (simp [*]; done)))
          (first
            | (go_at_call 66; refine (last_any nm dA (sKind zs k) A1 A2 (some a) A4 nc c1 nd c2 zs.length c3 nr c4 _).mono ?_; rintro e w5 ⟨rfl, hb⟩))
        rename_i hS'
        obtain ⟨sB, s0, s1, s2, s3, s4, s5, t0, t1, t2⟩ := hS'
        have hlt' : w.heap.size + 1 < (wr.alloc (.cells #[.string (sName zs k), .int .i8 (sKind zs k), .int .i64 (sAt zs k)] 42)).heap.size := by
          have := hown.lt; simp; omega
        have hown5 := ownsMap_below (hown.alloc (.cells #[.string (sName zs k), .int .i8 (sKind zs k), .int .i64 (sAt zs k)] 42)) sB hlt'
        have HB5 : Hid (Below (w.alloc (.cells #[.string nm, .slice A1 nc c1, .int .i64 dA, .slice A2 nd c2, .slice (some a) zs.length c3, .slice A4 nr c4] 27)).heap.size (w.alloc (.cells #[.string nm, .slice A1 nc c1, .int .i64 dA, .slice A2 nd c2, .slice (some a) zs.length c3, .slice A4 nr c4] 27)) _) := lb_trans (lb_alloc HB0.out _) sB
        clear sB g0 g1 g2 g3 g4 g5 g6 g7 g8 BS hown
        go_wp2_with (at_mapUpdate; refine wpList_mapUpdate_own _ rfl _ _ _ 84 rfl 9 3 law9 Try.underlying84 _ (w.heap.size + 1) k _ rfl hown5 (by unfold maxLen; omega) _ _ _ rfl rfl hkey _ [] (plainElem_int Try.underlying3 (WalkArith.wf_i64 (by omega))) ?_; intro w6 hown6 hgrow6)
        go_roundw
        case rel => exact ⟨k + 1, _, by go_num, by omega, HB5.out.grown (by assumption) HB5.out.size (fun j hj => by cases hj; simp), by assumption, met_step HM.out, fun j hj => by
            by_cases hjk : j = k
            · rw [hjk]; exact HE.out
            · exact HT.out j (by omega)⟩
        case measure => simp [intOf]; omega
    · have HC : Hid (symC zs nc = (0, 0)) := first_none fun j hj => HT.out j (by omega)
      go_wp2
      go_ret2
      exact ⟨ret2I (by rw [HC.out]), HB.out⟩

end Go.Proofs.Ytbphfgalgiinnaa
