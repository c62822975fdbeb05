/-
  Texts held against each other; a bag of texts alone. Ins of the document: the line of a word.
-/
import Derived.Test.YtbckolkgncajfaaGreatDoorProg
import Derived.WalkKit
import Derived.WalkSpells
import Derived.WalkLawsBesides
import Derived.RowKit3
import Derived.Below
import Derived.Deep.QuietTactic
import Derived.BigQuiet
import Derived.WalkSmall
import Derived.Laws.Rows
import Derived.Test.YtbckolkgncajfaaGreatDoorLw38
import Derived.Test.YtbckolkgncajfaaGreatDoorLw39
import Derived.Test.YtbckolkgncajfaaGreatDoorLw37
import Derived.Test.YtbckolkgncajfaaGreatDoorLw10
import Derived.Test.YtbckolkgncajfaaGreatDoorLw19
import Derived.Test.YtbckolkgncajfaaGreatDoorLw18
import Derived.Deep.RegionHeld3
namespace Go.Proofs.YtbckolkgncajfaaGreatDoor
open Go.RowKit

set_option maxHeartbeats 1000000 in
set_option maxRecDepth 100000 in
theorem eqtexts_same (A B : Option Addr) (ca cb : Nat) (ps : List ByteArray) (w : World) (hA : Strs w (.slice A ps.length ca) ps) (hB : Strs w (.slice B ps.length cb) ps) (hn : ps.length ≤ 1048576) :
    Calls Tryz.prog 8 #[.slice A ps.length ca, .slice B ps.length cb] w fun e w' => e = .returned (.bool true) ∧ Below w.heap.size w w' := by
  have HA : Hid (Strs w (.slice A ps.length ca) ps) := hA
  have HB : Hid (Strs w (.slice B ps.length cb) ps) := hB
  clear hA hB
  go_enter Tryz.func8, Tryz.ntmps8
  go_wp2
  go_loopw [5] (fun i wr => ∃ (k m : Nat), i = .int .i64 k ∧ k ≤ ps.length ∧ wr = w.drewN m) (fun i _ => ps.length - (intOf i).toNat)
  case atStart => exact ⟨0, 0, rfl, by omega, rfl⟩
  case round =>
    obtain ⟨k, m, rfl, hk, rfl⟩ := hrel
    by_cases hlt : k < ps.length
    · obtain ⟨a, rfl, c1⟩ := HA.out.at rfl k hlt
      obtain ⟨b, rfl, c2⟩ := HB.out.at rfl k hlt
      go_wp2_with fail
      go_quiet (fail)
      go_wp2
      go_roundw
      case rel => exact ⟨k + 1, _, by go_num, by omega, rfl⟩
      case measure => simp [intOf]; omega
    · go_wp2
      go_ret
      exact ⟨rfl, below_drewN (Below.refl _ _) _⟩
theorem apartT (B : Nat) (f : Nat → Value) (rs : List (Value × Nat)) (w1 : World) (hb : BagIs w1 B f) (h0 : w1.ownsRow 0 25 1 (f 3) rs.length (rs.map Prod.fst)) (hnil : ∀ k, k ≠ 3 → k < 17 → f k = .slice none 0 0)
    (hR : ∀ m, m < rs.length → ∃ xs, w1.ownsRow 0 9 1 (rv rs m) (rl rs m) xs) (hS : Sep rs) (hN : rs.length ≤ 300) (hL : ∀ m, rl rs m ≤ 1048576) (hT : Tab w1) (hTB : ∀ m, m < rs.length → ∀ b, (rv rs m).ownBlock = some b → 3 ≤ b) :
    Calls Tryz.prog 14 #[.pointer (some ⟨B, 0, none⟩)] w1 fun r w' => r = .returned (.bool true) ∧ Fr rs w1 w' := by
  have hB : ∀ m, m < rs.length → (rv rs m).ownBlock ≠ some B := fun m hm => by
    obtain ⟨xs, hx⟩ := hR m hm
    exact hb.off hx (by decide)
  have HN : ∀ w, Fr rs w1 w → ∀ k, k ≠ 3 → k < 17 → w.cell? ⟨B, k, none⟩ = some (.slice none 0 0) := fun w h k h1 h2 => h.cell (by rw [hb.cell k h2, hnil k h1 h2]) hB
  refine (apart_any B (fun k w => Fr rs w1 w ∧ (k ≤ 3 → w = w1)) ?_ w1 ⟨Fr.refl rs w1, fun _ => rfl⟩).mono fun r w' h => ⟨h.1, h.2.1⟩
  intro k hk w hF
  have hq : k = 0 ∨ k = 1 ∨ k = 2 ∨ k = 3 ∨ k = 4 ∨ k = 5 ∨ k = 6 ∨ k = 7 ∨ k = 8 ∨ k = 9 ∨ k = 10 ∨ k = 11 ∨ k = 12 ∨ k = 13 ∨ k = 14 ∨ k = 15 ∨ k = 16 := by omega
  rcases hq with rfl | rfl | rfl | rfl | rfl | rfl | rfl | rfl | rfl | rfl | rfl | rfl | rfl | rfl | rfl | rfl | rfl
  · exact ((none_42 B w (HN w hF.1 0 (by omega) (by omega))).mono fun r w' h => ⟨h.1, by rw [h.2]; exact hF.1, fun e => by rw [h.2]; first | exact hF.2 (by omega) | omega⟩)
  · exact ((none_43 B w (HN w hF.1 1 (by omega) (by omega))).mono fun r w' h => ⟨h.1, by rw [h.2]; exact hF.1, fun e => by rw [h.2]; first | exact hF.2 (by omega) | omega⟩)
  · exact ((none_44 B w (HN w hF.1 2 (by omega) (by omega))).mono fun r w' h => ⟨h.1, by rw [h.2]; exact hF.1, fun e => by rw [h.2]; first | exact hF.2 (by omega) | omega⟩)
  · obtain rfl := hF.2 (by omega)
    obtain ⟨A, c, e, -⟩ := own_any h0
    have hc := hb.cell 3 (by omega)
    rw [e] at hc h0
    exact (aparttexts_any B A c rs w hc h0 hR hS hB hN hL hT hTB).mono fun r w' h => ⟨h.1, h.2, fun e => by omega⟩
  · exact ((none_46 B w (HN w hF.1 4 (by omega) (by omega))).mono fun r w' h => ⟨h.1, by rw [h.2]; exact hF.1, fun e => by rw [h.2]; first | exact hF.2 (by omega) | omega⟩)
  · exact ((none_47 B w (HN w hF.1 5 (by omega) (by omega))).mono fun r w' h => ⟨h.1, by rw [h.2]; exact hF.1, fun e => by rw [h.2]; first | exact hF.2 (by omega) | omega⟩)
  · exact ((none_48 B w (HN w hF.1 6 (by omega) (by omega))).mono fun r w' h => ⟨h.1, by rw [h.2]; exact hF.1, fun e => by rw [h.2]; first | exact hF.2 (by omega) | omega⟩)
  · exact ((none_49 B w (HN w hF.1 7 (by omega) (by omega))).mono fun r w' h => ⟨h.1, by rw [h.2]; exact hF.1, fun e => by rw [h.2]; first | exact hF.2 (by omega) | omega⟩)
  · exact ((none_50 B w (HN w hF.1 8 (by omega) (by omega))).mono fun r w' h => ⟨h.1, by rw [h.2]; exact hF.1, fun e => by rw [h.2]; first | exact hF.2 (by omega) | omega⟩)
  · exact ((none_51 B w (HN w hF.1 9 (by omega) (by omega))).mono fun r w' h => ⟨h.1, by rw [h.2]; exact hF.1, fun e => by rw [h.2]; first | exact hF.2 (by omega) | omega⟩)
  · exact ((none_52 B w (HN w hF.1 10 (by omega) (by omega))).mono fun r w' h => ⟨h.1, by rw [h.2]; exact hF.1, fun e => by rw [h.2]; first | exact hF.2 (by omega) | omega⟩)
  · exact ((none_53 B w (HN w hF.1 11 (by omega) (by omega))).mono fun r w' h => ⟨h.1, by rw [h.2]; exact hF.1, fun e => by rw [h.2]; first | exact hF.2 (by omega) | omega⟩)
  · exact ((none_54 B w (HN w hF.1 12 (by omega) (by omega))).mono fun r w' h => ⟨h.1, by rw [h.2]; exact hF.1, fun e => by rw [h.2]; first | exact hF.2 (by omega) | omega⟩)
  · exact ((none_55 B w (HN w hF.1 13 (by omega) (by omega))).mono fun r w' h => ⟨h.1, by rw [h.2]; exact hF.1, fun e => by rw [h.2]; first | exact hF.2 (by omega) | omega⟩)
  · exact ((none_56 B w (HN w hF.1 14 (by omega) (by omega))).mono fun r w' h => ⟨h.1, by rw [h.2]; exact hF.1, fun e => by rw [h.2]; first | exact hF.2 (by omega) | omega⟩)
  · exact ((none_57 B w (HN w hF.1 15 (by omega) (by omega))).mono fun r w' h => ⟨h.1, by rw [h.2]; exact hF.1, fun e => by rw [h.2]; first | exact hF.2 (by omega) | omega⟩)
  · exact ((none_58 B w (HN w hF.1 16 (by omega) (by omega))).mono fun r w' h => ⟨h.1, by rw [h.2]; exact hF.1, fun e => by rw [h.2]; first | exact hF.2 (by omega) | omega⟩)
theorem bag_new (w : World) : BagIs (w.alloc (.cells #[.slice none 0 0, .slice none 0 0, .slice none 0 0, .slice none 0 0, .slice none 0 0, .slice none 0 0, .slice none 0 0, .slice none 0 0, .slice none 0 0, .slice none 0 0, .slice none 0 0, .slice none 0 0, .slice none 0 0, .slice none 0 0, .slice none 0 0, .slice none 0 0, .slice none 0 0] 51)) w.heap.size (fun _ => .slice none 0 0) := by
  refine ⟨_, heap_alloc_new _ _, fun k hk => ?_⟩
  have hq : k = 0 ∨ k = 1 ∨ k = 2 ∨ k = 3 ∨ k = 4 ∨ k = 5 ∨ k = 6 ∨ k = 7 ∨ k = 8 ∨ k = 9 ∨ k = 10 ∨ k = 11 ∨ k = 12 ∨ k = 13 ∨ k = 14 ∨ k = 15 ∨ k = 16 := by omega
  rcases hq with rfl | rfl | rfl | rfl | rfl | rfl | rfl | rfl | rfl | rfl | rfl | rfl | rfl | rfl | rfl | rfl | rfl <;> rfl

end Go.Proofs.YtbckolkgncajfaaGreatDoor

namespace Go.Proofs.YtbckolkgncajfaaGreatDoor
open Go.RowKit

theorem field_has3 (b1 b2 b3 b4 b5 : Bool) (X : World) : (Instr.field 101 (.agg #[.bool b1, .bool b2, .bool b3, .bool b4, .bool b5]) 3).run Tryz.prog X = .ok (.bool b4) X := by kernel_rfl
theorem lineL_no {v : Int} (h : isIns v = false) : lineL v = wordB.data.toList ++ sp (numB v) := by
  unfold lineL wordsL
  rw [if_neg (by simp [h]), join_sps, sps_one]
theorem lineL_yes {v : Int} (h : isIns v = true) : lineL v = (nameB (dOp v)).data.toList ++ sps (fl (hD (dOp v)) (hA (dOp v)) (hB (dOp v)) (dD v) (dA v) (dB v)) ++ sps (nL v) := by
  unfold lineL wordsL
  rw [if_pos h, join_sps, sps_app]
  simp [fl, fieldsL]
theorem bs_of_app (b : ByteArray) (l : List UInt8) : b ++ bs l = bs (b.data.toList ++ l) := by
  rw [← bs_app, bs_of]
set_option maxHeartbeats 2000000 in
set_option maxRecDepth 100000 in
theorem refins_no (v : Int) (h0 : 0 ≤ v) (h1 : v < 4294967296) (hI : isIns v = false) (w : World) (ht : Tab w) :
    Calls Tryz.prog 25 #[.int .u32 v] w fun e w' => e = .returned (.string (bs (lineL v))) ∧ Below w.heap.size w w' := by
  have CD := refdecode_any v h0 h1 w
  rw [dOp_no hI] at CD
  have HL : Hid _ := lineL_no hI
  have HT : Hid (Tab w) := ht
  have HI : Hid (In64 v) := ⟨by omega, by omega⟩
  have hs : (bs (sp (numB v))).size ≤ 22 := by rw [bs_size, sp_len]; have := numB_size HI.out; omega
  clear ht hI
  go_enter Tryz.func25, Tryz.ntmps25
  go_wp2_with fail
  refine CD.mono ?_
  rintro e w1 ⟨rfl, hb1⟩
  have HB2 : Hid (Below w.heap.size w (w1.alloc (.cells #[.int .i8 (-1), .int .i8 (dD v), .int .i8 (dA v), .int .i8 (dB v), .int .i64 (dN v)] 95))) := lb_alloc hb1 _
  have CN := refnum_any v HI.out _ (HT.out.below HB2.out)
  clear CD hb1
  go_wp2_with fail
  refine CN.mono ?_
  rintro e w2 ⟨rfl, hb2⟩
  have HB3 : Hid (Below w.heap.size w w2) := lb_trans HB2.out hb2
  clear CN hb2
  go_wp2
  go_ret
  exact ⟨retTx (by rw [HL.out]; exact bs_of_app _ _), HB3.out⟩
set_option maxHeartbeats 4000000 in
set_option maxRecDepth 100000 in
theorem refins_yes (v : Int) (h0 : 0 ≤ v) (h1 : v < 4294967296) (hI : isIns v = true) (w : World) (ht : Tab w) :
    Calls Tryz.prog 25 #[.int .u32 v] w fun e w' => e = .returned (.string (bs (lineL v))) ∧ Below w.heap.size w w' := by
  have CD := refdecode_any v h0 h1 w
  obtain ⟨hop0, hop1⟩ := dOp_yes hI h0
  obtain ⟨hd, ha, hb, hn0, hn1⟩ := d_in h0 h1
  have HL : Hid (lineL v = (nameB (dOp v)).data.toList ++ sps (fl (hD (dOp v)) (hA (dOp v)) (hB (dOp v)) (dD v) (dA v) (dB v)) ++ sps (if hN (dOp v) then [numB (dN v)] else [])) := lineL_yes hI
  have HT : Hid (Tab w) := ht
  have CF := fun wx (hx : Below w.heap.size w wx) => reffields_any (dOp v) (dD v) (dA v) (dB v) (dN v) hd ha hb wx (HT.out.below hx)
  have CNm := fun wx => refopname_any (dOp v) wx
  have CH := fun wx => refhas_any (dOp v) wx
  have HI : Hid (In64 (dN v)) := ⟨by omega, by omega⟩
  have hs : (bs (sp (numB (dN v)))).size ≤ 22 := by rw [bs_size, sp_len]; have := numB_size HI.out; omega
  have hnm : (nameB (dOp v)).size ≤ 8 := name_len
  have hsf : (bs (sps (fl (hD (dOp v)) (hA (dOp v)) (hB (dOp v)) (dD v) (dA v) (dB v)))).size ≤ 88 := by
    rw [bs_size]
    have a := sps_len (ws := fieldsL v) (fun x hx => fieldsL_size h0 h1 x (by simp [hx]))
    have b := fieldsL_len v
    rw [List.length_append] at b
    show (sps (fieldsL v)).length ≤ 88
    omega
  have hop : ¬ dOp v < 0 := by omega
  clear ht hI hop0 hop1 hd ha hb
  generalize fl (hD (dOp v)) (hA (dOp v)) (hB (dOp v)) (dD v) (dA v) (dB v) = FL at *
  generalize nameB (dOp v) = nm at *
  generalize hD (dOp v) = b1 at *
  generalize hA (dOp v) = b2 at *
  generalize hB (dOp v) = b3 at *
  generalize hN (dOp v) = b4 at *
  generalize hP (dOp v) = b5 at *
  generalize dOp v = op at *
  generalize dD v = fd at *
  generalize dA v = fa at *
  generalize dB v = fb at *
  generalize dN v = fn at *
  have hab : ¬ 9223372036854775807 < nm.size + (bs (sps FL)).size := by omega
  go_enter Tryz.func25, Tryz.ntmps25
  go_wp2_with fail
  refine CD.mono ?_
  rintro e w1 ⟨rfl, hb1⟩
  obtain ⟨W, hW⟩ : ∃ W, W = w1.alloc (.cells #[.int .i8 op, .int .i8 fd, .int .i8 fa, .int .i8 fb, .int .i64 fn] 95) := ⟨_, rfl⟩
  have hB2 : Below w.heap.size w W := by rw [hW]; exact lb_alloc hb1 _
  have hX : W.heap[w1.heap.size]? = some (.cells #[.int .i8 op, .int .i8 fd, .int .i8 fa, .int .i8 fb, .int .i64 fn] 95 (0, 0)) := by rw [hW]; exact heap_alloc_new _ _
  clear CD hb1
  obtain ⟨c0, c1, c2, c3, c4⟩ := box5_cell hX
  go_upto_region 4 with fail
  rw [← hW]
  have HX : Hid _ := hX
  have B1 : Below w.heap.size w W.drew := hB2.drew
  clear hW hX
  go_region_held3 (fun X => Below w.heap.size w X ∧ X.cell? ⟨w1.heap.size, 0, none⟩ = some (.int .i8 op) ∧ X.cell? ⟨w1.heap.size, 1, none⟩ = some (.int .i8 fd) ∧ X.cell? ⟨w1.heap.size, 2, none⟩ = some (.int .i8 fa) ∧ X.cell? ⟨w1.heap.size, 3, none⟩ = some (.int .i8 fb) ∧ X.cell? ⟨w1.heap.size, 4, none⟩ = some (.int .i64 fn)) (first | (refine ⟨lb_trans ?_ hb, lkeep hb ?_, lkeep hb ?_, lkeep hb ?_, lkeep hb ?_, lkeep hb ?_⟩ <;> (simp [*]; done)) | (simp [*]; done))
    (first
      | (go_at_call 61; refine (CNm _).mono ?_; rintro e w4 ⟨rfl, rfl⟩)
      | (go_at_call 62; refine (CF _ (by first | assumption | exact (‹Below _ _ _ ∧ _›).1)).mono ?_; rintro e w4 ⟨rfl, hb⟩))
  rename_i hS'
  obtain ⟨sB, e0, e1, e2, e3, e4⟩ := hS'
  have HB5 : Hid (Below w.heap.size w w4) := sB
  have HB6 : Hid (Below w.heap.size w (w4.alloc (.cells #[.bool b1, .bool b2, .bool b3, .bool b4, .bool b5] 101))) := lb_alloc sB _
  have e4' := lkeep (lb_alloc (Below.refl _ _) (.cells #[.bool b1, .bool b2, .bool b3, .bool b4, .bool b5] 101)) e4
  clear sB CNm CF c0 c1 c2 c3 c4 B1 hB2 HX
  have hF : ∀ X, (Instr.field 101 (.agg #[.bool b1, .bool b2, .bool b3, .bool b4, .bool b5]) 3).run Tryz.prog X = .ok (.bool b4) X := field_has3 b1 b2 b3 b4 b5
  have hadd : ∀ x : ByteArray, x.size = nm.size + (bs (sps FL)).size → True := fun _ _ => trivial
  have hsz : (nm ++ bs (sps FL)).size = nm.size + (bs (sps FL)).size := ByteArray.size_append
  have hab2 : ¬ 9223372036854775807 < (nm ++ bs (sps FL)).size + (bs (sp (numB fn))).size := by rw [hsz]; omega
  clear hsz hadd
  cases b4 with
  | false =>
    go_wp2_with fail
    refine (CH _).mono ?_
    rintro e w5 ⟨rfl, rfl⟩
    go_wp2
    go_ret
    exact ⟨retTx (by rw [HL.out]; simp only [Bool.false_eq_true, if_false]; rw [bs_of_app]; simp [sps]), HB6.out⟩
  | true =>
    go_wp2_with fail
    refine (CH _).mono ?_
    rintro e w5 ⟨rfl, rfl⟩
    have CN := refnum_any fn HI.out _ (HT.out.below HB6.out)
    go_wp2_with fail
    refine CN.mono ?_
    rintro e w6 ⟨rfl, hb6⟩
    have HB7 : Hid (Below w.heap.size w w6) := lb_trans HB6.out hb6
    clear CN hb6
    go_wp2
    go_ret
    exact ⟨retTx (by rw [HL.out, if_pos trivial, sps_one, ← bs_app, ← bs_of_app]), HB7.out⟩
theorem refins_any (v : Int) (h0 : 0 ≤ v) (h1 : v < 4294967296) (w : World) (ht : Tab w) :
    Calls Tryz.prog 25 #[.int .u32 v] w fun e w' => e = .returned (.string (bs (lineL v))) ∧ Below w.heap.size w w' := by
  cases h : isIns v with
  | true => exact refins_yes v h0 h1 h w ht
  | false => exact refins_no v h0 h1 h w ht

end Go.Proofs.YtbckolkgncajfaaGreatDoor
