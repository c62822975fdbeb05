/-
  Name and Of of the document's answer, for every op and every string; no condition. fields of the document: an instruction's but for N.
-/
import Derived.Test.YtbckolkgncajfaaGreatDoorProg
import Derived.Test.YtbckolkgncajfaaGreatDoorLo02
import Derived.WalkKit
import Derived.WalkSpells
import Derived.WalkLawsBesides
import Derived.RowKit3
import Derived.Below
import Derived.Deep.QuietTactic
import Derived.BigQuiet
import Derived.WalkSmall
import Derived.Laws.Rows
import Derived.Test.YtbckolkgncajfaaGreatDoorLo17
import Derived.Test.YtbckolkgncajfaaGreatDoorLo13
import Derived.Test.YtbckolkgncajfaaGreatDoorLo03
namespace Go.Proofs.YtbckolkgncajfaaGreatDoor
open Go.RowKit

theorem retS {a b : ByteArray} (h : a = b) : Ending.returned (.string a) = .returned (.string b) := by rw [h]

set_option maxRecDepth 100000 in
set_option maxHeartbeats 1000000 in
theorem refopname_any (op : Int) (w : World) : Calls Tryz.prog 61 #[.int .i8 op] w fun e w' => e = .returned (.string (nameB op)) ∧ w' = w := by
  by_cases ho1 : op < 0
  · have HN : Hid (nameB op = ⟨#[]⟩) := name_out (Or.inl ho1)
    go_enter Tryz.func61, Tryz.ntmps61
    go_wp2
    go_ret
    exact ⟨retS HN.out.symm, rfl⟩
  by_cases ho2 : 21 < op
  · have HN : Hid (nameB op = ⟨#[]⟩) := name_out (Or.inr ho2)
    go_enter Tryz.func61, Tryz.ntmps61
    go_wp2
    go_ret
    exact ⟨retS HN.out.symm, rfl⟩
  have HO : Hid (¬ (op < 0 ∨ 21 < op)) := fun h => by omega
  go_enter Tryz.func61, Tryz.ntmps61
  go_wp2
  go_loop [3, 4, 5] (fun fr k i => ∃ a b c : Nat, fr = .int .i64 a ∧ k = .int .i8 b ∧ i = .int .i64 c ∧ a ≤ c ∧ b ≤ c ∧ c ≤ 100 ∧ Hid (scan (nmL.drop c) c a b op = scan nmL 0 0 0 op)) (fun _ _ i => 100 - (intOf i).toNat)
  case atStart => exact ⟨0, 0, 0, rfl, rfl, rfl, by omega, by omega, by omega, by simp [Hid]⟩
  case round =>
    obtain ⟨a, b, c, rfl, rfl, rfl, hac, hbc, hc, HG⟩ := hrel
    by_cases hlt : c < 100
    · have hlt' : (c : Int) < 100 := by omega
      have HZ : Hid (c < nmB.size) := by rw [Hid, nmB_size]; exact hlt
      go_wp2
      · have e := scan_ne (a := a) (k := b) (op := op) HZ.out ‹_›
        go_round
        case rel => exact ⟨a, b, c + 1, rfl, rfl, by go_num, by omega, by omega, by omega, by have h := HG.out; rw [e] at h; exact h⟩
        case measure => simp [intOf]; omega
      · have e := scan_at (a := a) (k := b) (op := op) HZ.out ‹_› ‹_›
        have h := HG.out
        rw [e] at h
        go_ret
        exact ⟨retS (name_some HO.out h.symm).symm, rfl⟩
      · have e := scan_on (a := a) (k := b) (op := op) HZ.out ‹_› ‹_›
        go_round
        case rel => exact ⟨c + 1, b + 1, c + 1, by go_num, by go_num, by go_num, by omega, by omega, by omega, by have h := HG.out; rw [e] at h; exact h⟩
        case measure => simp [intOf]; omega
    · have HN : Hid (nameB op = ⟨#[]⟩) := by
        have h := HG.out
        rw [List.drop_eq_nil_of_le (by show nmB.size ≤ c; rw [nmB_size]; omega)] at h
        exact name_none h.symm
      go_wp2
      go_ret
      exact ⟨retS HN.out.symm, rfl⟩


end Go.Proofs.YtbckolkgncajfaaGreatDoor

namespace Go.Proofs.YtbckolkgncajfaaGreatDoor
open Go.RowKit

set_option maxRecDepth 10000 in
theorem sp_len (x : ByteArray) : (sp x).length = x.size + 1 := by
  unfold sp
  rw [List.length_cons]
  rfl
theorem sps_len {ws : List ByteArray} (h : ∀ x ∈ ws, x.size ≤ 21) : (sps ws).length ≤ 22 * ws.length := by
  induction ws with
  | nil => simp [sps]
  | cons x r ih =>
    have h1 := ih fun y hy => h y (List.mem_cons_of_mem _ hy)
    have h2 := h x (List.mem_cons_self ..)
    have e : (sps (x :: r)).length = x.size + 1 + (sps r).length := by
      unfold sps
      rw [List.flatMap_cons, List.length_append, sp_len]
    rw [e, List.length_cons]
    omega
theorem bs_nil : (⟨#[]⟩ : ByteArray) = bs [] := rfl
theorem sps_one (x : ByteArray) : sps [x] = sp x := by simp [sps]
/-- Fields, as bools and numbers. -/
def fl (b1 b2 b3 : Bool) (d a b : Int) : List ByteArray := (if b1 then [numB d] else []) ++ (if b2 then [numB a] else []) ++ (if b3 then [numB b] else [])
set_option maxHeartbeats 8000000 in
set_option maxRecDepth 100000 in
theorem reffields_any (op d a b n : Int) (hd : 0 ≤ d ∧ d ≤ 15) (ha : 0 ≤ a ∧ a ≤ 15) (hb : 0 ≤ b ∧ b ≤ 15) (w : World) (ht : Tab w) :
    Calls Tryz.prog 62 #[.agg #[.int .i8 op, .int .i8 d, .int .i8 a, .int .i8 b, .int .i64 n]] w fun e w' => e = .returned (.string (bs (sps (fl (hD op) (hA op) (hB op) d a b)))) ∧ Below w.heap.size w w' := by
  have HT : Hid (Tab w) := ht
  obtain ⟨d0, d1⟩ := hd
  obtain ⟨a0, a1⟩ := ha
  obtain ⟨b0, b1'⟩ := hb
  have HI1 : Hid (In64 d) := ⟨by omega, by omega⟩
  have HI2 : Hid (In64 a) := ⟨by omega, by omega⟩
  have HI3 : Hid (In64 b) := ⟨by omega, by omega⟩
  have s1 := numB_size HI1.out
  have s2 := numB_size HI2.out
  have s3 := numB_size HI3.out
  have l1 : (bs (sp (numB d))).size ≤ 22 := by rw [bs_size, sp_len]; omega
  have l2 : (bs (sp (numB a))).size ≤ 22 := by rw [bs_size, sp_len]; omega
  have l3 : (bs (sp (numB b))).size ≤ 22 := by rw [bs_size, sp_len]; omega
  have CH := fun wx => refhas_any op wx
  clear ht s1 s2 s3
  generalize hD op = b1 at *
  generalize hA op = b2 at *
  generalize hB op = b3 at *
  generalize hN op = b4 at *
  generalize hP op = b5 at *
  obtain ⟨W, hW⟩ : ∃ W, W = ((w.alloc (.cells #[.int .i8 op, .int .i8 d, .int .i8 a, .int .i8 b, .int .i64 n] 95)).alloc (.cells #[.bool b1, .bool b2, .bool b3, .bool b4, .bool b5] 101)).alloc (.cells #[.bool b1, .bool b2, .bool b3, .bool b4, .bool b5] 101) := ⟨_, rfl⟩
  have HB0 : Hid (Below w.heap.size w W) := by unfold Hid; rw [hW]; exact lb_alloc (lb_alloc (lb_alloc (Below.refl _ _) _) _) _
  have HX0 : Hid (W.heap[w.heap.size]? = some (.cells #[.int .i8 op, .int .i8 d, .int .i8 a, .int .i8 b, .int .i64 n] 95 (0, 0))) := by
    unfold Hid; rw [hW, (lb_alloc (lb_alloc (Below.refl _ _) _) _ : Below (w.alloc (.cells #[.int .i8 op, .int .i8 d, .int .i8 a, .int .i8 b, .int .i64 n] 95)).heap.size (w.alloc (.cells #[.int .i8 op, .int .i8 d, .int .i8 a, .int .i8 b, .int .i64 n] 95)) _).block w.heap.size (by simp)]
    exact heap_alloc_new _ _
  have HY0 : Hid (W.heap[w.heap.size + 2]? = some (.cells #[.bool b1, .bool b2, .bool b3, .bool b4, .bool b5] 101 (0, 0))) := by
    unfold Hid; rw [hW]
    have := heap_alloc_new ((w.alloc (.cells #[.int .i8 op, .int .i8 d, .int .i8 a, .int .i8 b, .int .i64 n] 95)).alloc (.cells #[.bool b1, .bool b2, .bool b3, .bool b4, .bool b5] 101)) (.cells #[.bool b1, .bool b2, .bool b3, .bool b4, .bool b5] 101)
    simpa using this
  have HWz : Hid (w.heap.size + 2 < W.heap.size) := by unfold Hid; rw [hW]; simp
  have HW : Hid _ := hW
  clear hW
  cases b1 <;> cases b2 <;> cases b3
  · obtain ⟨c0, c1, c2, c3, c4⟩ := box5_cell HX0.out
    obtain ⟨f0, f1, f2, f3, f4⟩ := box5_cell HY0.out
    go_enter Tryz.func62, Tryz.ntmps62
    go_wp2_with fail
    refine (CH _).mono ?_
    rintro e w0 ⟨rfl, rfl⟩
    go_upto_region 3 with fail
    rw [← HW.out]
    go_wp2
    go_ret
    exact ⟨retTx (by apply ByteArray.ext; simp [bs, fl, sps]), HB0.out⟩
  · obtain ⟨c0, c1, c2, c3, c4⟩ := box5_cell HX0.out
    obtain ⟨f0, f1, f2, f3, f4⟩ := box5_cell HY0.out
    go_enter Tryz.func62, Tryz.ntmps62
    go_wp2_with fail
    refine (CH _).mono ?_
    rintro e w0 ⟨rfl, rfl⟩
    go_upto_region 3 with fail
    rw [← HW.out]
    have CN1 := refnum_any b HI3.out W (HT.out.below HB0.out)
    go_wp2_with fail
    refine CN1.mono ?_
    rintro e w1 ⟨rfl, hb1⟩
    have HB1 : Hid (Below w.heap.size w w1) := lb_trans HB0.out hb1
    have HX1 : Hid _ := (hb1.block w.heap.size (by have := HWz.out; omega)).trans HX0.out
    have HY1 : Hid _ := (hb1.block (w.heap.size + 2) HWz.out).trans HY0.out
    have HZ1 : Hid (w.heap.size + 2 < w1.heap.size) := by have := hb1.size; have := HWz.out; unfold Hid; omega
    clear hb1 CN1 c0 c1 c2 c3 c4 f0 f1 f2 f3 f4
    obtain ⟨c0, c1, c2, c3, c4⟩ := box5_cell HX1.out
    obtain ⟨f0, f1, f2, f3, f4⟩ := box5_cell HY1.out
    go_wp2
    go_ret
    exact ⟨retTx (by apply ByteArray.ext; simp [bs, fl, sps]), HB1.out⟩
  · obtain ⟨c0, c1, c2, c3, c4⟩ := box5_cell HX0.out
    obtain ⟨f0, f1, f2, f3, f4⟩ := box5_cell HY0.out
    go_enter Tryz.func62, Tryz.ntmps62
    go_wp2_with fail
    refine (CH _).mono ?_
    rintro e w0 ⟨rfl, rfl⟩
    go_upto_region 3 with fail
    rw [← HW.out]
    have CN1 := refnum_any a HI2.out W (HT.out.below HB0.out)
    go_wp2_with fail
    refine CN1.mono ?_
    rintro e w1 ⟨rfl, hb1⟩
    have HB1 : Hid (Below w.heap.size w w1) := lb_trans HB0.out hb1
    have HX1 : Hid _ := (hb1.block w.heap.size (by have := HWz.out; omega)).trans HX0.out
    have HY1 : Hid _ := (hb1.block (w.heap.size + 2) HWz.out).trans HY0.out
    have HZ1 : Hid (w.heap.size + 2 < w1.heap.size) := by have := hb1.size; have := HWz.out; unfold Hid; omega
    clear hb1 CN1 c0 c1 c2 c3 c4 f0 f1 f2 f3 f4
    obtain ⟨c0, c1, c2, c3, c4⟩ := box5_cell HX1.out
    obtain ⟨f0, f1, f2, f3, f4⟩ := box5_cell HY1.out
    go_wp2
    go_ret
    exact ⟨retTx (by apply ByteArray.ext; simp [bs, fl, sps]), HB1.out⟩
  · obtain ⟨c0, c1, c2, c3, c4⟩ := box5_cell HX0.out
    obtain ⟨f0, f1, f2, f3, f4⟩ := box5_cell HY0.out
    go_enter Tryz.func62, Tryz.ntmps62
    go_wp2_with fail
    refine (CH _).mono ?_
    rintro e w0 ⟨rfl, rfl⟩
    go_upto_region 3 with fail
    rw [← HW.out]
    have CN1 := refnum_any a HI2.out W (HT.out.below HB0.out)
    go_wp2_with fail
    refine CN1.mono ?_
    rintro e w1 ⟨rfl, hb1⟩
    have HB1 : Hid (Below w.heap.size w w1) := lb_trans HB0.out hb1
    have HX1 : Hid _ := (hb1.block w.heap.size (by have := HWz.out; omega)).trans HX0.out
    have HY1 : Hid _ := (hb1.block (w.heap.size + 2) HWz.out).trans HY0.out
    have HZ1 : Hid (w.heap.size + 2 < w1.heap.size) := by have := hb1.size; have := HWz.out; unfold Hid; omega
    clear hb1 CN1 c0 c1 c2 c3 c4 f0 f1 f2 f3 f4
    obtain ⟨c0, c1, c2, c3, c4⟩ := box5_cell HX1.out
    obtain ⟨f0, f1, f2, f3, f4⟩ := box5_cell HY1.out
    have CN2 := refnum_any b HI3.out w1 (HT.out.below HB1.out)
    go_wp2_with fail
    refine CN2.mono ?_
    rintro e w2 ⟨rfl, hb2⟩
    have HB2 : Hid (Below w.heap.size w w2) := lb_trans HB1.out hb2
    have HX2 : Hid _ := (hb2.block w.heap.size (by have := HZ1.out; omega)).trans HX1.out
    have HY2 : Hid _ := (hb2.block (w.heap.size + 2) HZ1.out).trans HY1.out
    have HZ2 : Hid (w.heap.size + 2 < w2.heap.size) := by have := hb2.size; have := HZ1.out; unfold Hid; omega
    clear hb2 CN2 c0 c1 c2 c3 c4 f0 f1 f2 f3 f4
    obtain ⟨c0, c1, c2, c3, c4⟩ := box5_cell HX2.out
    obtain ⟨f0, f1, f2, f3, f4⟩ := box5_cell HY2.out
    go_wp2
    go_ret
    exact ⟨retTx (by apply ByteArray.ext; simp [bs, fl, sps]), HB2.out⟩
  · obtain ⟨c0, c1, c2, c3, c4⟩ := box5_cell HX0.out
    obtain ⟨f0, f1, f2, f3, f4⟩ := box5_cell HY0.out
    go_enter Tryz.func62, Tryz.ntmps62
    go_wp2_with fail
    refine (CH _).mono ?_
    rintro e w0 ⟨rfl, rfl⟩
    go_upto_region 3 with fail
    rw [← HW.out]
    have CN1 := refnum_any d HI1.out W (HT.out.below HB0.out)
    go_wp2_with fail
    refine CN1.mono ?_
    rintro e w1 ⟨rfl, hb1⟩
    have HB1 : Hid (Below w.heap.size w w1) := lb_trans HB0.out hb1
    have HX1 : Hid _ := (hb1.block w.heap.size (by have := HWz.out; omega)).trans HX0.out
    have HY1 : Hid _ := (hb1.block (w.heap.size + 2) HWz.out).trans HY0.out
    have HZ1 : Hid (w.heap.size + 2 < w1.heap.size) := by have := hb1.size; have := HWz.out; unfold Hid; omega
    clear hb1 CN1 c0 c1 c2 c3 c4 f0 f1 f2 f3 f4
    obtain ⟨c0, c1, c2, c3, c4⟩ := box5_cell HX1.out
    obtain ⟨f0, f1, f2, f3, f4⟩ := box5_cell HY1.out
    go_wp2
    go_ret
    exact ⟨retTx (by apply ByteArray.ext; simp [bs, fl, sps]), HB1.out⟩
  · obtain ⟨c0, c1, c2, c3, c4⟩ := box5_cell HX0.out
    obtain ⟨f0, f1, f2, f3, f4⟩ := box5_cell HY0.out
    go_enter Tryz.func62, Tryz.ntmps62
    go_wp2_with fail
    refine (CH _).mono ?_
    rintro e w0 ⟨rfl, rfl⟩
    go_upto_region 3 with fail
    rw [← HW.out]
    have CN1 := refnum_any d HI1.out W (HT.out.below HB0.out)
    go_wp2_with fail
    refine CN1.mono ?_
    rintro e w1 ⟨rfl, hb1⟩
    have HB1 : Hid (Below w.heap.size w w1) := lb_trans HB0.out hb1
    have HX1 : Hid _ := (hb1.block w.heap.size (by have := HWz.out; omega)).trans HX0.out
    have HY1 : Hid _ := (hb1.block (w.heap.size + 2) HWz.out).trans HY0.out
    have HZ1 : Hid (w.heap.size + 2 < w1.heap.size) := by have := hb1.size; have := HWz.out; unfold Hid; omega
    clear hb1 CN1 c0 c1 c2 c3 c4 f0 f1 f2 f3 f4
    obtain ⟨c0, c1, c2, c3, c4⟩ := box5_cell HX1.out
    obtain ⟨f0, f1, f2, f3, f4⟩ := box5_cell HY1.out
    have CN2 := refnum_any b HI3.out w1 (HT.out.below HB1.out)
    go_wp2_with fail
    refine CN2.mono ?_
    rintro e w2 ⟨rfl, hb2⟩
    have HB2 : Hid (Below w.heap.size w w2) := lb_trans HB1.out hb2
    have HX2 : Hid _ := (hb2.block w.heap.size (by have := HZ1.out; omega)).trans HX1.out
    have HY2 : Hid _ := (hb2.block (w.heap.size + 2) HZ1.out).trans HY1.out
    have HZ2 : Hid (w.heap.size + 2 < w2.heap.size) := by have := hb2.size; have := HZ1.out; unfold Hid; omega
    clear hb2 CN2 c0 c1 c2 c3 c4 f0 f1 f2 f3 f4
    obtain ⟨c0, c1, c2, c3, c4⟩ := box5_cell HX2.out
    obtain ⟨f0, f1, f2, f3, f4⟩ := box5_cell HY2.out
    go_wp2
    go_ret
    exact ⟨retTx (by apply ByteArray.ext; simp [bs, fl, sps]), HB2.out⟩
  · obtain ⟨c0, c1, c2, c3, c4⟩ := box5_cell HX0.out
    obtain ⟨f0, f1, f2, f3, f4⟩ := box5_cell HY0.out
    go_enter Tryz.func62, Tryz.ntmps62
    go_wp2_with fail
    refine (CH _).mono ?_
    rintro e w0 ⟨rfl, rfl⟩
    go_upto_region 3 with fail
    rw [← HW.out]
    have CN1 := refnum_any d HI1.out W (HT.out.below HB0.out)
    go_wp2_with fail
    refine CN1.mono ?_
    rintro e w1 ⟨rfl, hb1⟩
    have HB1 : Hid (Below w.heap.size w w1) := lb_trans HB0.out hb1
    have HX1 : Hid _ := (hb1.block w.heap.size (by have := HWz.out; omega)).trans HX0.out
    have HY1 : Hid _ := (hb1.block (w.heap.size + 2) HWz.out).trans HY0.out
    have HZ1 : Hid (w.heap.size + 2 < w1.heap.size) := by have := hb1.size; have := HWz.out; unfold Hid; omega
    clear hb1 CN1 c0 c1 c2 c3 c4 f0 f1 f2 f3 f4
    obtain ⟨c0, c1, c2, c3, c4⟩ := box5_cell HX1.out
    obtain ⟨f0, f1, f2, f3, f4⟩ := box5_cell HY1.out
    have CN2 := refnum_any a HI2.out w1 (HT.out.below HB1.out)
    go_wp2_with fail
    refine CN2.mono ?_
    rintro e w2 ⟨rfl, hb2⟩
    have HB2 : Hid (Below w.heap.size w w2) := lb_trans HB1.out hb2
    have HX2 : Hid _ := (hb2.block w.heap.size (by have := HZ1.out; omega)).trans HX1.out
    have HY2 : Hid _ := (hb2.block (w.heap.size + 2) HZ1.out).trans HY1.out
    have HZ2 : Hid (w.heap.size + 2 < w2.heap.size) := by have := hb2.size; have := HZ1.out; unfold Hid; omega
    clear hb2 CN2 c0 c1 c2 c3 c4 f0 f1 f2 f3 f4
    obtain ⟨c0, c1, c2, c3, c4⟩ := box5_cell HX2.out
    obtain ⟨f0, f1, f2, f3, f4⟩ := box5_cell HY2.out
    go_wp2
    go_ret
    exact ⟨retTx (by apply ByteArray.ext; simp [bs, fl, sps]), HB2.out⟩
  · obtain ⟨c0, c1, c2, c3, c4⟩ := box5_cell HX0.out
    obtain ⟨f0, f1, f2, f3, f4⟩ := box5_cell HY0.out
    go_enter Tryz.func62, Tryz.ntmps62
    go_wp2_with fail
    refine (CH _).mono ?_
    rintro e w0 ⟨rfl, rfl⟩
    go_upto_region 3 with fail
    rw [← HW.out]
    have CN1 := refnum_any d HI1.out W (HT.out.below HB0.out)
    go_wp2_with fail
    refine CN1.mono ?_
    rintro e w1 ⟨rfl, hb1⟩
    have HB1 : Hid (Below w.heap.size w w1) := lb_trans HB0.out hb1
    have HX1 : Hid _ := (hb1.block w.heap.size (by have := HWz.out; omega)).trans HX0.out
    have HY1 : Hid _ := (hb1.block (w.heap.size + 2) HWz.out).trans HY0.out
    have HZ1 : Hid (w.heap.size + 2 < w1.heap.size) := by have := hb1.size; have := HWz.out; unfold Hid; omega
    clear hb1 CN1 c0 c1 c2 c3 c4 f0 f1 f2 f3 f4
    obtain ⟨c0, c1, c2, c3, c4⟩ := box5_cell HX1.out
    obtain ⟨f0, f1, f2, f3, f4⟩ := box5_cell HY1.out
    have CN2 := refnum_any a HI2.out w1 (HT.out.below HB1.out)
    go_wp2_with fail
    refine CN2.mono ?_
    rintro e w2 ⟨rfl, hb2⟩
    have HB2 : Hid (Below w.heap.size w w2) := lb_trans HB1.out hb2
    have HX2 : Hid _ := (hb2.block w.heap.size (by have := HZ1.out; omega)).trans HX1.out
    have HY2 : Hid _ := (hb2.block (w.heap.size + 2) HZ1.out).trans HY1.out
    have HZ2 : Hid (w.heap.size + 2 < w2.heap.size) := by have := hb2.size; have := HZ1.out; unfold Hid; omega
    clear hb2 CN2 c0 c1 c2 c3 c4 f0 f1 f2 f3 f4
    obtain ⟨c0, c1, c2, c3, c4⟩ := box5_cell HX2.out
    obtain ⟨f0, f1, f2, f3, f4⟩ := box5_cell HY2.out
    have CN3 := refnum_any b HI3.out w2 (HT.out.below HB2.out)
    go_wp2_with fail
    refine CN3.mono ?_
    rintro e w3 ⟨rfl, hb3⟩
    have HB3 : Hid (Below w.heap.size w w3) := lb_trans HB2.out hb3
    have HX3 : Hid _ := (hb3.block w.heap.size (by have := HZ2.out; omega)).trans HX2.out
    have HY3 : Hid _ := (hb3.block (w.heap.size + 2) HZ2.out).trans HY2.out
    have HZ3 : Hid (w.heap.size + 2 < w3.heap.size) := by have := hb3.size; have := HZ2.out; unfold Hid; omega
    clear hb3 CN3 c0 c1 c2 c3 c4 f0 f1 f2 f3 f4
    obtain ⟨c0, c1, c2, c3, c4⟩ := box5_cell HX3.out
    obtain ⟨f0, f1, f2, f3, f4⟩ := box5_cell HY3.out
    go_wp2
    go_ret
    exact ⟨retTx (by apply ByteArray.ext; simp [bs, fl, sps]), HB3.out⟩

end Go.Proofs.YtbckolkgncajfaaGreatDoor
