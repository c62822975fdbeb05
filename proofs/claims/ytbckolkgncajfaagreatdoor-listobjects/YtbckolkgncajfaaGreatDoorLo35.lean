/-
  The calls of package object, each by what it returns; the lists are at most 2^20 long, names at most 2^47 bytes, words of 32 bits, DataAt a number of 64 bits. Object of package list: an object's text, or why there is none.
-/
import Derived.Test.YtbckolkgncajfaaGreatDoorProg
import Derived.WalkKit
import Derived.WalkSpells
import Derived.WalkLawsBesides
import Derived.RowKit3
import Derived.Below
import Derived.Deep.QuietTactic
import Derived.BigQuiet
import Derived.WalkSmall
import Derived.Test.YtbckolkgncajfaaGreatDoorLo34
import Derived.Test.YtbckolkgncajfaaGreatDoorLo33
import Derived.Laws.Rows
import Derived.Test.YtbckolkgncajfaaGreatDoorLo24
namespace Go.Proofs.YtbckolkgncajfaaGreatDoor
open Go.RowKit

set_option maxRecDepth 100000 in
theorem mid_start (nm : ByteArray) (dA : Int) (A1 A2 A3 A4 : Option Addr) (c1 nd c2 c3 c4 : Nat) (code : List Int) (ss : List Sym) (rs : List Rel) (cs : Array Value) (hz1 : ∀ i, i < 16384 → cs[i]? = some (.bool false)) (w : World) : Mid nm dA A1 A2 A3 A4 c1 nd c2 c3 c4 code ss rs w ((((w.alloc (.cells #[.string nm, .slice A1 code.length c1, .int .i64 dA, .slice A2 nd c2, .slice A3 ss.length c3, .slice A4 rs.length c4] 65)).alloc (.cells #[.string nm, .slice A1 code.length c1, .int .i64 dA, .slice A2 nd c2, .slice A3 ss.length c3, .slice A4 rs.length c4] 65)).alloc (.cells cs 160)).alloc (.cells #[.func (.func 99) #[] #[.pointer (some ⟨w.heap.size + 1, 0, none⟩)], .func (.func 102) #[] #[.pointer (some ⟨w.heap.size + 1, 0, none⟩)], .func (.func 103) #[] #[.pointer (some ⟨w.heap.size + 1, 0, none⟩)], .func (.func 104) #[] #[.pointer (some ⟨w.heap.size + 1, 0, none⟩)], .func (.func 105) #[] #[.pointer (some ⟨w.heap.size + 1, 0, none⟩)], .func (.func 107) #[] #[.pointer (some ⟨w.heap.size + 1, 0, none⟩)], .func (.func 109) #[] #[.pointer (some ⟨w.heap.size + 1, 0, none⟩), .pointer (some ⟨w.heap.size + 1 + 1, 0, none⟩)], .func (.func 111) #[] #[.pointer (some ⟨w.heap.size + 1, 0, none⟩), .pointer (some ⟨w.heap.size + 1 + 1, 0, none⟩)]] 142)) := by
  refine ⟨?_, ?_, ?_, ?_, ?_, ?_, ?_, ?_, ?_, ?_, ?_, ?_, ?_, ?_, ?_, fun _ => false, ⟨?_, ?_⟩, ?_⟩
  · exact lb_alloc (lb_alloc (lb_alloc (lb_alloc (Below.refl _ _) _) _) _) _
  all_goals first
    | (simp [go_sem]; done)
    | (intro i hi; simp [go_sem, hz1 i hi]; done)
    | (intro i; simp [go_sem]; done)
    | (intro i hi; cases hi)
set_option maxRecDepth 100000 in
set_option maxHeartbeats 4000000 in
theorem objcheck_any (nm : ByteArray) (dA : Int) (A1 A2 A3 A4 : Option Addr) (c1 nd c2 c3 c4 : Nat) (code : List Int) (ss : List Sym) (rs : List Rel) (w : World) (hC : IntsAt w A1 .u32 code) (hS : SymsAt w A3 ss) (hL : RelsAt w A4 rs) (hR : ∀ i, i < code.length → 0 ≤ nth code i ∧ nth code i < 4294967296) (hc : code.length ≤ 1048576) (hd : nd ≤ 1048576) (hs : ss.length ≤ 1048576) (hl : rs.length ≤ 1048576) (hN : ∀ i, (sName ss i).size ≤ 140737488355328) (hA : -9223372036854775808 ≤ dA ∧ dA ≤ 9223372036854775807) : Calls Tryz.prog 51 #[.agg #[.string nm, .slice A1 code.length c1, .int .i64 dA, .slice A2 nd c2, .slice A3 ss.length c3, .slice A4 rs.length c4]] w fun e w' => e = .returned (.tuple #[.int .i64 (checkC nm code dA nd ss rs).1, .int .i64 (checkC nm code dA nd ss rs).2]) ∧ Below w.heap.size w w' := by
  obtain ⟨cs, _, hz1, hz⟩ := zero73
  have HM0 : Hid (Mid nm dA A1 A2 A3 A4 c1 nd c2 c3 c4 code ss rs w ((((w.alloc (.cells #[.string nm, .slice A1 code.length c1, .int .i64 dA, .slice A2 nd c2, .slice A3 ss.length c3, .slice A4 rs.length c4] 65)).alloc (.cells #[.string nm, .slice A1 code.length c1, .int .i64 dA, .slice A2 nd c2, .slice A3 ss.length c3, .slice A4 rs.length c4] 65)).alloc (.cells cs 160)).alloc (.cells #[.func (.func 99) #[] #[.pointer (some ⟨w.heap.size + 1, 0, none⟩)], .func (.func 102) #[] #[.pointer (some ⟨w.heap.size + 1, 0, none⟩)], .func (.func 103) #[] #[.pointer (some ⟨w.heap.size + 1, 0, none⟩)], .func (.func 104) #[] #[.pointer (some ⟨w.heap.size + 1, 0, none⟩)], .func (.func 105) #[] #[.pointer (some ⟨w.heap.size + 1, 0, none⟩)], .func (.func 107) #[] #[.pointer (some ⟨w.heap.size + 1, 0, none⟩)], .func (.func 109) #[] #[.pointer (some ⟨w.heap.size + 1, 0, none⟩), .pointer (some ⟨w.heap.size + 1 + 1, 0, none⟩)], .func (.func 111) #[] #[.pointer (some ⟨w.heap.size + 1, 0, none⟩), .pointer (some ⟨w.heap.size + 1 + 1, 0, none⟩)]] 142))) := mid_start nm dA A1 A2 A3 A4 c1 nd c2 c3 c4 code ss rs cs hz1 w
  go_enter Tryz.func51, Tryz.ntmps51
  go_wp2_with fail
  refine (questions_raw nm dA A1 A2 A3 A4 code.length c1 nd c2 ss.length c3 rs.length c4 cs hz _).mono ?_
  rintro e w1 ⟨rfl, hw1⟩
  have HM : Hid (Mid nm dA A1 A2 A3 A4 c1 nd c2 c3 c4 code ss rs w w1) := by
    have e1 : (w.alloc (.cells #[.string nm, .slice A1 code.length c1, .int .i64 dA, .slice A2 nd c2, .slice A3 ss.length c3, .slice A4 rs.length c4] 65)).heap.size = w.heap.size + 1 := by simp
    rw [hw1, e1]
    exact HM0.out
  clear hw1 HM0 hz hz1
  go_wp2
  go_loopw [11] (fun i wr => ∃ k : Nat, i = .int .i64 k ∧ k ≤ 8 ∧ Hid (Mid nm dA A1 A2 A3 A4 c1 nd c2 c3 c4 code ss rs w wr) ∧ Hid (∀ j, j < k → (ansQ nm code dA nd ss rs j).1 = 0)) (fun i _ => 8 - (intOf i).toNat)
  case atStart => exact ⟨0, rfl, by omega, HM, fun j hj => by omega⟩
  case round =>
    obtain ⟨k, rfl, hk, HW, HT⟩ := hrel
    rename_i wr _
    have HH : Hid (k < 8 → ¬ (ansQ nm code dA nd ss rs k).1 = 0 → checkC nm code dA nd ss rs = ansQ nm code dA nd ss rs k) := fun h e => ans_hit k h HT.out e
    have HX : Hid ((ansQ nm code dA nd ss rs k).1 = 0 → ∀ j, j < k + 1 → (ansQ nm code dA nd ss rs j).1 = 0) := fun h j hj => by
      by_cases hjk : j = k
      · rw [hjk]; exact h
      · exact HT.out j (by omega)
    by_cases hk8 : k < 8
    · have hh := HW.out
      obtain ⟨_, _, _, _, _, _, _, f0, f1, f2, f3, f4, f5, f6, f7, _⟩ := hh
      rcases (show k = 0 ∨ k = 1 ∨ k = 2 ∨ k = 3 ∨ k = 4 ∨ k = 5 ∨ k = 6 ∨ k = 7 by omega) with rfl | rfl | rfl | rfl | rfl | rfl | rfl | rfl
      · clear f1 f2 f3 f4 f5 f6 f7
        have C := m0_any nm dA A1 A2 A3 A4 c1 nd c2 c3 c4 code ss rs w wr hC hS hL hR hc hd hs hl hN hA HW.out
        cases hz0 : ((ansQ nm code dA nd ss rs 0).1 == 0) with
        | true =>
          have hz1 : (ansQ nm code dA nd ss rs 0).1 = 0 := by simpa using hz0
          have HX1 : Hid _ := HX.out hz1
          rw [hz1] at C
          clear hz0 hz1 HH HX HT
          go_wp2_with (go_at_call 99; refine C.mono ?_; rintro e w2 ⟨rfl, hm2⟩)
          rename_i hm2
          go_roundw
          case rel => exact ⟨0 + 1, by go_num, by omega, hm2, HX1.out⟩
          case measure => simp [intOf]
        | false =>
          have HX1 : Hid _ := HH.out hk8 (by simpa using hz0)
          have hz1 : ((ansQ nm code dA nd ss rs 0).1 != 0) = true := by simpa using hz0
          clear HH HX HT
          generalize ansQ nm code dA nd ss rs 0 = Y at C hz0 hz1 HX1
          go_wp2_with (go_at_call 99; refine C.mono ?_; rintro e w2 ⟨rfl, hm2⟩)
          rename_i hm2
          go_ret2
          exact ⟨ret2I (by rw [HX1.out]), hm2.1⟩
      · clear f0 f2 f3 f4 f5 f6 f7
        have C := m1_any nm dA A1 A2 A3 A4 c1 nd c2 c3 c4 code ss rs w wr hC hS hL hR hc hd hs hl hN hA HW.out
        cases hz0 : ((ansQ nm code dA nd ss rs 1).1 == 0) with
        | true =>
          have hz1 : (ansQ nm code dA nd ss rs 1).1 = 0 := by simpa using hz0
          have HX1 : Hid _ := HX.out hz1
          rw [hz1] at C
          clear hz0 hz1 HH HX HT
          go_wp2_with (go_at_call 102; refine C.mono ?_; rintro e w2 ⟨rfl, hm2⟩)
          rename_i hm2
          go_roundw
          case rel => exact ⟨1 + 1, by go_num, by omega, hm2, HX1.out⟩
          case measure => simp [intOf]
        | false =>
          have HX1 : Hid _ := HH.out hk8 (by simpa using hz0)
          have hz1 : ((ansQ nm code dA nd ss rs 1).1 != 0) = true := by simpa using hz0
          clear HH HX HT
          generalize ansQ nm code dA nd ss rs 1 = Y at C hz0 hz1 HX1
          go_wp2_with (go_at_call 102; refine C.mono ?_; rintro e w2 ⟨rfl, hm2⟩)
          rename_i hm2
          go_ret2
          exact ⟨ret2I (by rw [HX1.out]), hm2.1⟩
      · clear f0 f1 f3 f4 f5 f6 f7
        have C := m2_any nm dA A1 A2 A3 A4 c1 nd c2 c3 c4 code ss rs w wr hC hS hL hR hc hd hs hl hN hA HW.out
        cases hz0 : ((ansQ nm code dA nd ss rs 2).1 == 0) with
        | true =>
          have hz1 : (ansQ nm code dA nd ss rs 2).1 = 0 := by simpa using hz0
          have HX1 : Hid _ := HX.out hz1
          rw [hz1] at C
          clear hz0 hz1 HH HX HT
          go_wp2_with (go_at_call 103; refine C.mono ?_; rintro e w2 ⟨rfl, hm2⟩)
          rename_i hm2
          go_roundw
          case rel => exact ⟨2 + 1, by go_num, by omega, hm2, HX1.out⟩
          case measure => simp [intOf]
        | false =>
          have HX1 : Hid _ := HH.out hk8 (by simpa using hz0)
          have hz1 : ((ansQ nm code dA nd ss rs 2).1 != 0) = true := by simpa using hz0
          clear HH HX HT
          generalize ansQ nm code dA nd ss rs 2 = Y at C hz0 hz1 HX1
          go_wp2_with (go_at_call 103; refine C.mono ?_; rintro e w2 ⟨rfl, hm2⟩)
          rename_i hm2
          go_ret2
          exact ⟨ret2I (by rw [HX1.out]), hm2.1⟩
      · clear f0 f1 f2 f4 f5 f6 f7
        have C := m3_any nm dA A1 A2 A3 A4 c1 nd c2 c3 c4 code ss rs w wr hC hS hL hR hc hd hs hl hN hA HW.out
        cases hz0 : ((ansQ nm code dA nd ss rs 3).1 == 0) with
        | true =>
          have hz1 : (ansQ nm code dA nd ss rs 3).1 = 0 := by simpa using hz0
          have HX1 : Hid _ := HX.out hz1
          rw [hz1] at C
          clear hz0 hz1 HH HX HT
          go_wp2_with (go_at_call 104; refine C.mono ?_; rintro e w2 ⟨rfl, hm2⟩)
          rename_i hm2
          go_roundw
          case rel => exact ⟨3 + 1, by go_num, by omega, hm2, HX1.out⟩
          case measure => simp [intOf]
        | false =>
          have HX1 : Hid _ := HH.out hk8 (by simpa using hz0)
          have hz1 : ((ansQ nm code dA nd ss rs 3).1 != 0) = true := by simpa using hz0
          clear HH HX HT
          generalize ansQ nm code dA nd ss rs 3 = Y at C hz0 hz1 HX1
          go_wp2_with (go_at_call 104; refine C.mono ?_; rintro e w2 ⟨rfl, hm2⟩)
          rename_i hm2
          go_ret2
          exact ⟨ret2I (by rw [HX1.out]), hm2.1⟩
      · clear f0 f1 f2 f3 f5 f6 f7
        have C := m4_any nm dA A1 A2 A3 A4 c1 nd c2 c3 c4 code ss rs w wr hC hS hL hR hc hd hs hl hN hA HW.out
        cases hz0 : ((ansQ nm code dA nd ss rs 4).1 == 0) with
        | true =>
          have hz1 : (ansQ nm code dA nd ss rs 4).1 = 0 := by simpa using hz0
          have HX1 : Hid _ := HX.out hz1
          rw [hz1] at C
          clear hz0 hz1 HH HX HT
          go_wp2_with (go_at_call 105; refine C.mono ?_; rintro e w2 ⟨rfl, hm2⟩)
          rename_i hm2
          go_roundw
          case rel => exact ⟨4 + 1, by go_num, by omega, hm2, HX1.out⟩
          case measure => simp [intOf]
        | false =>
          have HX1 : Hid _ := HH.out hk8 (by simpa using hz0)
          have hz1 : ((ansQ nm code dA nd ss rs 4).1 != 0) = true := by simpa using hz0
          clear HH HX HT
          generalize ansQ nm code dA nd ss rs 4 = Y at C hz0 hz1 HX1
          go_wp2_with (go_at_call 105; refine C.mono ?_; rintro e w2 ⟨rfl, hm2⟩)
          rename_i hm2
          go_ret2
          exact ⟨ret2I (by rw [HX1.out]), hm2.1⟩
      · clear f0 f1 f2 f3 f4 f6 f7
        have C := m5_any nm dA A1 A2 A3 A4 c1 nd c2 c3 c4 code ss rs w wr hC hS hL hR hc hd hs hl hN hA HW.out
        cases hz0 : ((ansQ nm code dA nd ss rs 5).1 == 0) with
        | true =>
          have hz1 : (ansQ nm code dA nd ss rs 5).1 = 0 := by simpa using hz0
          have HX1 : Hid _ := HX.out hz1
          rw [hz1] at C
          clear hz0 hz1 HH HX HT
          go_wp2_with (go_at_call 107; refine C.mono ?_; rintro e w2 ⟨rfl, hm2⟩)
          rename_i hm2
          go_roundw
          case rel => exact ⟨5 + 1, by go_num, by omega, hm2, HX1.out⟩
          case measure => simp [intOf]
        | false =>
          have HX1 : Hid _ := HH.out hk8 (by simpa using hz0)
          have hz1 : ((ansQ nm code dA nd ss rs 5).1 != 0) = true := by simpa using hz0
          clear HH HX HT
          generalize ansQ nm code dA nd ss rs 5 = Y at C hz0 hz1 HX1
          go_wp2_with (go_at_call 107; refine C.mono ?_; rintro e w2 ⟨rfl, hm2⟩)
          rename_i hm2
          go_ret2
          exact ⟨ret2I (by rw [HX1.out]), hm2.1⟩
      · clear f0 f1 f2 f3 f4 f5 f7
        have C := m6_any nm dA A1 A2 A3 A4 c1 nd c2 c3 c4 code ss rs w wr hC hS hL hR hc hd hs hl hN hA (by have := z1 (HT.out 1 (by omega)); omega) HW.out
        cases hz0 : ((ansQ nm code dA nd ss rs 6).1 == 0) with
        | true =>
          have hz1 : (ansQ nm code dA nd ss rs 6).1 = 0 := by simpa using hz0
          have HX1 : Hid _ := HX.out hz1
          rw [hz1] at C
          clear hz0 hz1 HH HX HT
          go_wp2_with (go_at_call 109; refine C.mono ?_; rintro e w2 ⟨rfl, hm2⟩)
          rename_i hm2
          go_roundw
          case rel => exact ⟨6 + 1, by go_num, by omega, hm2, HX1.out⟩
          case measure => simp [intOf]
        | false =>
          have HX1 : Hid _ := HH.out hk8 (by simpa using hz0)
          have hz1 : ((ansQ nm code dA nd ss rs 6).1 != 0) = true := by simpa using hz0
          clear HH HX HT
          generalize ansQ nm code dA nd ss rs 6 = Y at C hz0 hz1 HX1
          go_wp2_with (go_at_call 109; refine C.mono ?_; rintro e w2 ⟨rfl, hm2⟩)
          rename_i hm2
          go_ret2
          exact ⟨ret2I (by rw [HX1.out]), hm2.1⟩
      · clear f0 f1 f2 f3 f4 f5 f6
        have C := m7_any nm dA A1 A2 A3 A4 c1 nd c2 c3 c4 code ss rs w wr hC hS hL hR hc hd hs hl hN hA (by have := z1 (HT.out 1 (by omega)); omega) HW.out
        cases hz0 : ((ansQ nm code dA nd ss rs 7).1 == 0) with
        | true =>
          have hz1 : (ansQ nm code dA nd ss rs 7).1 = 0 := by simpa using hz0
          have HX1 : Hid _ := HX.out hz1
          rw [hz1] at C
          clear hz0 hz1 HH HX HT
          go_wp2_with (go_at_call 111; refine C.mono ?_; rintro e w2 ⟨rfl, hm2⟩)
          rename_i hm2
          go_roundw
          case rel => exact ⟨7 + 1, by go_num, by omega, hm2, HX1.out⟩
          case measure => simp [intOf]
        | false =>
          have HX1 : Hid _ := HH.out hk8 (by simpa using hz0)
          have hz1 : ((ansQ nm code dA nd ss rs 7).1 != 0) = true := by simpa using hz0
          clear HH HX HT
          generalize ansQ nm code dA nd ss rs 7 = Y at C hz0 hz1 HX1
          go_wp2_with (go_at_call 111; refine C.mono ?_; rintro e w2 ⟨rfl, hm2⟩)
          rename_i hm2
          go_ret2
          exact ⟨ret2I (by rw [HX1.out]), hm2.1⟩
    · have HC : Hid (checkC nm code dA nd ss rs = (0, 0)) := ans_none fun j hj => HT.out j (by omega)
      go_wp2
      go_ret2
      exact ⟨ret2I (by rw [HC.out]), HW.out.1⟩



end Go.Proofs.YtbckolkgncajfaaGreatDoor

namespace Go.Proofs.YtbckolkgncajfaaGreatDoor
open Go.RowKit

/-- An object in memory. -/
structure ObjIn (w : World) (A1 A2 A3 A4 : Option Addr) (c4 : Nat) (nm : ByteArray) (code : List Int) (dA : Int) (data : List Int) (ss : List Sym) (rs : List Rel) : Prop where
  cd : IntsAt w A1 .u32 code
  dt : IntsAt w A2 .i64 data
  sy : SymsAt w A3 ss
  rl : RelsAt w A4 rs
  cr : ∀ i, i < code.length → 0 ≤ nth code i ∧ nth code i < 4294967296
  dr : ∀ i, i < data.length → In64 (nth data i)
  da : In64 dA
  hc : code.length ≤ 1048576
  hd : data.length ≤ 1048576
  hs : ss.length ≤ 1048576
  hl : rs.length ≤ 1048576
  hN : ∀ i, (sName ss i).size ≤ 140737488355328
  r4 : rs.length ≤ c4
theorem ObjIn.keep {w w1 : World} {A1 A2 A3 A4 : Option Addr} {c4 : Nat} {nm : ByteArray} {code : List Int} {dA : Int} {data : List Int} {ss : List Sym} {rs : List Rel} (h : ObjIn w A1 A2 A3 A4 c4 nm code dA data ss rs) (hb : Below w.heap.size w w1) : ObjIn w1 A1 A2 A3 A4 c4 nm code dA data ss rs :=
  ⟨h.cd.keep hb, h.dt.keep hb, h.sy.keep hb, h.rl.keep hb, h.cr, h.dr, h.da, h.hc, h.hd, h.hs, h.hl, h.hN, h.r4⟩
theorem nameOK_size {s : ByteArray} (h : nameOK s = true) : s.size ≤ 24 := by
  by_cases h0 : 0 < s.size
  · rw [name_cons s h0] at h
    simp only [Bool.and_eq_true, decide_eq_true_eq] at h
    exact h.1.1
  · omega
theorem may_obj {w : World} {A1 A2 A3 A4 : Option Addr} {c4 : Nat} {nm : ByteArray} {code : List Int} {dA : Int} {data : List Int} {ss : List Sym} {rs : List Rel} (h : ObjIn w A1 A2 A3 A4 c4 nm code dA data ss rs) (hm : MayBe nm code dA data.length ss rs) : Obj4 w A1 A2 A3 A4 code dA data ss rs := by
  obtain ⟨⟨_, hc, _⟩, hS, hR, _⟩ := hm
  refine ⟨⟨h.cd, h.sy, h.rl, h.cr, fun r hr => ?_⟩, h.dt, h.dr, h.da, fun i hi => ?_, fun i hi => ?_⟩
  · have := rel_parts.1 (hR r hr)
    exact ⟨this.2.2.2.1, this.2.2.2.2.1⟩
  · have := sym_parts.1 (hS i hi)
    exact ⟨this.2.2.1, this.2.2.2.1⟩
  · have := sym_parts.1 (hS i hi)
    exact ⟨by omega, by omega⟩
theorem may_name {nm : ByteArray} {code : List Int} {dA : Int} {nd : Nat} {ss : List Sym} {rs : List Rel} (hm : MayBe nm code dA nd ss rs) (i : Nat) : (sName ss i).size ≤ 24 := by
  by_cases hi : i < ss.length
  · exact nameOK_size (sym_parts.1 (hm.2.1 i hi)).1
  · unfold sName
    rw [List.getD_eq_getElem?_getD, List.getElem?_eq_none (by omega)]
    decide
theorem may_bound {w : World} {A1 A2 A3 A4 : Option Addr} {c4 : Nat} {nm : ByteArray} {code : List Int} {dA : Int} {data : List Int} {ss : List Sym} {rs : List Rel} (h : ObjIn w A1 A2 A3 A4 c4 nm code dA data ss rs) (hm : MayBe nm code dA data.length ss rs) : (objT nm code dA data ss rs).length ≤ 4194304 := by
  have h4 := may_obj h hm
  obtain ⟨hok, hc, hs, hr, hd0, hd1, hd2⟩ := hm.1
  have hnm := nameOK_size hok
  have h1 := codeT_len (rs := rs) (may_name hm) code 0 0 fun v hv => by
    obtain ⟨i, hi, e⟩ := List.getElem_of_mem hv
    have := h.cr i hi
    rwa [show nth code i = v by simp [nth, hi, e]] at this
  have h2 := symT_len (ss := ss) fun s hs => by
    obtain ⟨i, hi, e⟩ := List.getElem_of_mem hs
    have e2 : ss.getD i symD = s := by simp [hi, e]
    have a := may_name hm i
    have b := h4.sa i hi
    unfold sName at a
    unfold sAt at b
    rw [e2] at a b
    exact ⟨a, b⟩
  have h3 := dataT_len (data := data) h.da fun x hx => by
    obtain ⟨i, hi, e⟩ := List.getElem_of_mem hx
    have := h.dr i hi
    rwa [show nth data i = x by simp [nth, hi, e]] at this
  have h5 := line_len (ws := [objB, nm]) (m := 24) fun x hx => by
    simp only [List.mem_cons, List.not_mem_nil, or_false] at hx
    rcases hx with rfl | rfl
    · decide
    · exact hnm
  simp only [List.length_cons, List.length_nil] at h5
  unfold objT
  simp only [List.length_append]
  omega
/-- What Object tells: the text, or none. -/
def ansT (nm : ByteArray) (code : List Int) (dA : Int) (data : List Int) (ss : List Sym) (rs : List Rel) : List UInt8 := if (checkC nm code dA data.length ss rs).1 = 0 then objT nm code dA data ss rs else []
/-- An answer of Object. -/
def TellP (nm : ByteArray) (code : List Int) (dA : Int) (data : List Int) (ss : List Sym) (rs : List Rel) (w : World) (e : Ending) (w' : World) : Prop :=
  e = .returned (.tuple #[.string (bs (ansT nm code dA data ss rs)), .int .i64 (checkC nm code dA data.length ss rs).1]) ∧ Below w.heap.size w w'
theorem ret2S {a b : ByteArray} {x y : Int} (h : a = b) (k : x = y) : Ending.returned (.tuple #[.string a, .int .i64 x]) = .returned (.tuple #[.string b, .int .i64 y]) := by rw [h, k]
set_option maxHeartbeats 4000000 in
set_option maxRecDepth 100000 in
theorem object_any (nm : ByteArray) (dA : Int) (A1 A2 A3 A4 : Option Addr) (c1 c2 c3 c4 : Nat) (code data : List Int) (ss : List Sym) (rs : List Rel) (w : World) (h : ObjIn w A1 A2 A3 A4 c4 nm code dA data ss rs) (ht : Tab w) (hN : Nm w) (hK : Kd w) :
    Calls Tryz.prog 21 #[.agg #[.string nm, .slice A1 code.length c1, .int .i64 dA, .slice A2 data.length c2, .slice A3 ss.length c3, .slice A4 rs.length c4]] w (TellP nm code dA data ss rs w) := by
  have HI : Hid (ObjIn w A1 A2 A3 A4 c4 nm code dA data ss rs) := h
  have HT : Hid (Tab w) := ht
  have HN : Hid (Nm w) := hN
  have HK : Hid (Kd w) := hK
  obtain ⟨W, hW⟩ : ∃ W, W = w.alloc (.cells #[.string nm, .slice A1 code.length c1, .int .i64 dA, .slice A2 data.length c2, .slice A3 ss.length c3, .slice A4 rs.length c4] 65) := ⟨_, rfl⟩
  have HBW : Hid (Below w.heap.size w W) := by unfold Hid; rw [hW]; exact lb_alloc (Below.refl _ _) _
  have HXW : Hid (W.heap[w.heap.size]? = some (.cells #[.string nm, .slice A1 code.length c1, .int .i64 dA, .slice A2 data.length c2, .slice A3 ss.length c3, .slice A4 rs.length c4] 65 (0, 0))) := by unfold Hid; rw [hW]; exact heap_alloc_new _ _
  have HZW : Hid (w.heap.size < W.heap.size) := by unfold Hid; rw [hW]; simp
  have HW : Hid _ := hW
  have hK2 := h.keep HBW.out
  have CC := objcheck_any nm dA A1 A2 A3 A4 c1 data.length c2 c3 c4 code ss rs W hK2.cd hK2.sy hK2.rl hK2.cr hK2.hc hK2.hd hK2.hs hK2.hl hK2.hN hK2.da
  clear h ht hN hK hW hK2
  obtain ⟨d0, d1, d2, d3, d4, d5⟩ := box6_cell HXW.out
  by_cases hE : (checkC nm code dA data.length ss rs).1 = 0
  · have HA : Hid (ansT nm code dA data ss rs = objT nm code dA data ss rs) := by unfold Hid ansT; rw [if_pos hE]
    have HM : Hid (MayBe nm code dA data.length ss rs) := check_may hE
    have HE : Hid ((checkC nm code dA data.length ss rs).1 = 0) := hE
    rw [hE] at CC
    clear hE
    generalize (checkC nm code dA data.length ss rs).2 = q at CC
    go_enter Tryz.func21, Tryz.ntmps21
    go_upto_region 1 with fail
    rw [← HW.out]
    go_wp2_with fail
    refine CC.mono ?_
    rintro e w1 ⟨rfl, hb1⟩
    have HB1 : Hid (Below w.heap.size w w1) := lb_trans HBW.out hb1
    have HX1 : Hid (w1.heap[w.heap.size]? = some (.cells #[.string nm, .slice A1 code.length c1, .int .i64 dA, .slice A2 data.length c2, .slice A3 ss.length c3, .slice A4 rs.length c4] 65 (0, 0))) := (hb1.block w.heap.size HZW.out).trans HXW.out
    have HBn : Hid (Below w1.heap.size w1 (w1.alloc (.cells #[.pointer none, .slice none 0 0] 79))) := lb_alloc (Below.refl _ _) _
    have HX2 : Hid ((w1.alloc (.cells #[.pointer none, .slice none 0 0] 79)).heap[w.heap.size]? = some (.cells #[.string nm, .slice A1 code.length c1, .int .i64 dA, .slice A2 data.length c2, .slice A3 ss.length c3, .slice A4 rs.length c4] 65 (0, 0))) := (HBn.out.block w.heap.size (Array.getElem?_eq_some_iff.1 HX1.out).1).trans HX1.out
    have hsz := HM.out.1
    have CO := objL_any w1.heap.size [] nm dA A1 A2 A3 A4 c1 c2 c3 c4 code data ss rs w (w1.alloc (.cells #[.pointer none, .slice none 0 0] 79)) (Bd.new w1) (lb_trans HB1.out HBn.out) HB1.out.size (may_obj HI.out HM.out) hsz.2.1 hsz.2.2.1 (by have := hsz.2.2.2.1; have := hsz.2.1; omega) (by have := hsz.2.2.2.2; omega) HI.out.r4 (by have := may_bound HI.out HM.out; simp only [List.length_nil]; omega) HT.out HN.out HK.out
    clear hb1 CC d0 d1 d2 d3 d4 d5 hsz HW
    obtain ⟨d0, d1, d2, d3, d4, d5⟩ := box6_cell HX2.out
    go_wp2_with fail
    refine CO.mono ?_
    rintro e w2 ⟨rfl, hq⟩
    have CS := str_any w1.heap.size _ w2 hq.1
    have HB2 : Hid (Below w.heap.size w w2) := (lb_trans HB1.out HBn.out).trans (hq.2.below HB1.out.size HB1.out.size (by have := HBn.out.size; have := HB1.out.size; omega))
    have HS2 : Hid (w1.heap.size ≤ w2.heap.size) := by have := hq.2.size; simp at this; unfold Hid; omega
    clear CO hq d0 d1 d2 d3 d4 d5
    go_wp2_with fail
    refine CS.mono ?_
    rintro e w3 ⟨rfl, hq⟩
    have HB3 : Hid (Below w.heap.size w w3) := HB2.out.trans (hq.below HB1.out.size HB1.out.size (by have := HS2.out; have := HB1.out.size; omega))
    clear CS hq
    go_wp2
    go_ret2
    exact ⟨ret2S (by rw [HA.out]) HE.out.symm, HB3.out⟩
  · have HA : Hid (ansT nm code dA data ss rs = []) := by unfold Hid ansT; rw [if_neg hE]
    have hE' : ((checkC nm code dA data.length ss rs).1 != 0) = true := by simpa using hE
    clear hE
    obtain ⟨E, HG⟩ : ∃ E, Hid ((checkC nm code dA data.length ss rs).1 = E) := ⟨_, rfl⟩
    rw [HG.out] at CC hE'
    generalize (checkC nm code dA data.length ss rs).2 = q at CC
    go_enter Tryz.func21, Tryz.ntmps21
    go_upto_region 1 with fail
    rw [← HW.out]
    go_wp2_with fail
    refine CC.mono ?_
    rintro e w1 ⟨rfl, hb1⟩
    have HB1 : Hid (Below w.heap.size w w1) := lb_trans HBW.out hb1
    clear hb1 CC d0 d1 d2 d3 d4 d5 HW
    go_wp2
    go_ret2
    exact ⟨ret2S (by rw [HA.out]; rfl) HG.out.symm, HB1.out⟩

end Go.Proofs.YtbckolkgncajfaaGreatDoor
