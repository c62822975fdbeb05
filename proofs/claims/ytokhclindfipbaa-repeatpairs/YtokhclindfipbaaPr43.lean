/-
  Contracts of the library, laid at this program. A row that is gathered: its places with room, rising. The places of a row.
-/
import Derived.Test.YtokhclindfipbaaProg
import Derived.Shelf.Sort.Plain
import Derived.Shelf.Slices.In.SortNone
import Derived.WalkKit
import Derived.WalkSpells
import Derived.WalkLawsBesides
import Derived.RowKit3
import Derived.Below
import Derived.Deep.QuietTactic
import Derived.BigQuiet
import Derived.WalkSmall
import Derived.Laws.Rows
import Derived.Test.YtokhclindfipbaaPr25
import Derived.Test.YtokhclindfipbaaPr23
import Derived.Test.YtokhclindfipbaaPr29
import Derived.Test.YtokhclindfipbaaPr28
import Derived.Test.YtokhclindfipbaaPr42
import Derived.OwnWalk
import Derived.Lib.OwnBridge
import Derived.Sort.OwnSortedInts
import Derived.Test.YtokhclindfipbaaPr41
import Derived.Deep.RegionHeld3
namespace Go.Proofs
open Go.Shelf
def Try.layS_ren : Go.Shelf.Ren := ⟨fun | 189 => 61 | 125 => 73 | 257 => 72 | 128 => 89 | 129 => 90 | 294 => 80 | 295 => 81 | 296 => 82 | 297 => 83 | 298 => 84 | 299 => 85 | 216 => 86 | 300 => 87 | 301 => 88 | 328 => 95 | 329 => 96 | 330 => 97 | 331 => 98 | 332 => 99 | 215 => 69 | 343 => 100 | n => n, fun | 28 => 34 | 3 => 3 | 46 => 76 | 0 => 0 | 51 => 48 | 53 => 135 | 4 => 4 | 183 => 140 | 182 => 139 | 131 => 40 | 5 => 5 | 9 => 9 | 218 => 151 | 222 => 155 | 228 => 157 | 229 => 158 | n => n, fun | n => n⟩
theorem Try.layS : Go.Proofs.Lays.n189 Try.prog Try.layS_ren := {
  mixed := by kernel_rfl
  f125 := Try.func73.trans (congrArg some (by kernel_rfl))
  f128 := Try.func89.trans (congrArg some (by kernel_rfl))
  f129 := Try.func90.trans (congrArg some (by kernel_rfl))
  f189 := Try.func61.trans (congrArg some (by kernel_rfl))
  f215 := Try.func69.trans (congrArg some (by kernel_rfl))
  f216 := Try.func86.trans (congrArg some (by kernel_rfl))
  f257 := Try.func72.trans (congrArg some (by kernel_rfl))
  f294 := Try.func80.trans (congrArg some (by kernel_rfl))
  f295 := Try.func81.trans (congrArg some (by kernel_rfl))
  f296 := Try.func82.trans (congrArg some (by kernel_rfl))
  f297 := Try.func83.trans (congrArg some (by kernel_rfl))
  f298 := Try.func84.trans (congrArg some (by kernel_rfl))
  f299 := Try.func85.trans (congrArg some (by kernel_rfl))
  f300 := Try.func87.trans (congrArg some (by kernel_rfl))
  f301 := Try.func88.trans (congrArg some (by kernel_rfl))
  f328 := Try.func95.trans (congrArg some (by kernel_rfl))
  f329 := Try.func96.trans (congrArg some (by kernel_rfl))
  f330 := Try.func97.trans (congrArg some (by kernel_rfl))
  f331 := Try.func98.trans (congrArg some (by kernel_rfl))
  f332 := Try.func99.trans (congrArg some (by kernel_rfl))
  f343 := Try.func100.trans (congrArg some (by kernel_rfl))
  t0 := Try.underlying0
  a0 := Try.isAgg0
  z0 := Try.sizeOf0
  v0 := Try.zeroValue0
  t3 := Try.underlying3
  a3 := Try.isAgg3
  z3 := Try.sizeOf3
  v3 := Try.zeroValue3
  t4 := Try.underlying4
  a4 := Try.isAgg4
  z4 := Try.sizeOf4
  v4 := Try.zeroValue4
  t5 := Try.underlying5
  a5 := Try.isAgg5
  z5 := Try.sizeOf5
  v5 := Try.zeroValue5
  t9 := Try.underlying9
  a9 := Try.isAgg9
  z9 := Try.sizeOf9
  v9 := Try.zeroValue9
  t28 := Try.underlying34
  a28 := Try.isAgg34
  z28 := Try.sizeOf34
  v28 := Try.zeroValue34
  t46 := Try.underlying76
  a46 := Try.isAgg76
  z46 := Try.sizeOf76
  v46 := Try.zeroValue76
  t51 := Try.underlying48
  a51 := Try.isAgg48
  z51 := Try.sizeOf48
  v51 := Try.zeroValue48
  t53 := Try.underlying135
  a53 := Try.isAgg135
  z53 := Try.sizeOf135
  v53 := Try.zeroValue135
  t131 := Try.underlying40
  a131 := Try.isAgg40
  z131 := Try.sizeOf40
  v131 := Try.zeroValue40
  t182 := Try.underlying139
  a182 := Try.isAgg139
  z182 := Try.sizeOf139
  v182 := Try.zeroValue139
  t183 := Try.underlying140
  a183 := Try.isAgg140
  z183 := Try.sizeOf140
  v183 := Try.zeroValue140
  t218 := Try.underlying151
  a218 := Try.isAgg151
  z218 := Try.sizeOf151
  v218 := Try.zeroValue151
  t222 := Try.underlying155
  a222 := Try.isAgg155
  z222 := Try.sizeOf155
  v222 := Try.zeroValue155
  t228 := Try.underlying157
  a228 := Try.isAgg157
  z228 := Try.sizeOf157
  v228 := Try.zeroValue157
  t229 := Try.underlying158
  a229 := Try.isAgg158
  z229 := Try.sizeOf158
  v229 := Try.zeroValue158
}
end Go.Proofs

namespace Go.Proofs.Ytokhclindfipbaa
open Go.RowKit

open Go.Sort
/-- What a list of places is answered as. -/
def GthP (T : List Nat) (w : World) (e : Ending) (w' : World) : Prop := ∃ (O : Option Addr) (c : Nat), e = .returned (.slice O T.length c) ∧ w'.ownsRow w.heap.size 3 1 (.slice O T.length c) T.length (iVals .i64 (nV64 T)) ∧ Below w.heap.size w w'
theorem make_cap (m : Nat) (hm : m ≤ 1048576) (w : World) : (Instr.makeSlice 34 (.int .i64 0) (.int .i64 (m : Int))).run Try.prog w = .ok (.slice (some ⟨w.heap.size, 0, none⟩) 0 m) (w.alloc (.cells (rowC m (fun _ => 0)).toArray 3)) := by
  obtain ⟨i, hi, hz, hs, hb⟩ := infoP3
  have h := run_makeSlice (P := Try.prog) w 34 3 i _ Try.underlying34 hi hz .i64 .i64 (0 : Int) (m : Int) (by omega) (by omega) (by rw [hs]; omega) (by rw [hb]; omega) (by omega)
  rw [hs, Nat.mul_one, show ((m : Int)).toNat = m by omega] at h
  rw [h, ← rowC_wcur, ← made_wcur (fun _ => .int .i64 0) (.int .i64 0) m]
  rfl
theorem own_cap (m : Nat) (hm : m ≤ 1048576) (w : World) : (w.alloc (.cells (rowC m (fun _ => 0)).toArray 3)).ownsRow w.heap.size 3 1 (.slice (some ⟨w.heap.size, 0, none⟩) 0 m) 0 [] :=
  ⟨rfl, .inr ⟨w.heap.size, m, _, rfl, Nat.le_refl _, heap_alloc_new _ _, Nat.zero_le _, by unfold maxLen; omega, by simp [rowC_len], by simp⟩⟩
theorem nV64_snoc (l : List Nat) (x : Nat) : nV64 (l ++ [x]) = nV64 l ++ [((x : Nat) : Int)] := by simp [nV64]
set_option maxHeartbeats 4000000 in
/-- The sort's end. -/
theorem sort_end {w w1 : World} {g cap n nn : Nat} {os : Array Obj} {l : List Int} (hown : w1.ownsRow w.heap.size 3 1 (.slice (some ⟨g, 0, none⟩) n cap) n (iVals .i64 l)) (hbel : Below w.heap.size w w1) (hlen : l.length = n) :
    (grow (putRow (Value.int .i64) (Sort.ahead w1 nn) g 0 (l.mergeSort fun x y => decide (x ≤ y)).toArray) os).ownsRow w.heap.size 3 1 (.slice (some ⟨g, 0, none⟩) n cap) n (iVals .i64 (l.mergeSort fun x y => decide (x ≤ y))) ∧ Below w.heap.size w (grow (putRow (Value.int .i64) (Sort.ahead w1 nn) g 0 (l.mergeSort fun x y => decide (x ≤ y)).toArray) os) := by
  have hl2 : (l.mergeSort fun x y => decide (x ≤ y)).length = l.length := List.length_mergeSort l
  subst hlen
  rcases hown.2 with ⟨h0, _⟩ | ⟨g', cap', cur, hv, hbase, hb, h1, h2, h3, h4⟩
  · cases h0
  cases hv
  exact ⟨ownsRow_sortedI (n := nn) (os := os) (ts := l.mergeSort fun x y => decide (x ≤ y)) hl2 hbase hb h1 h2 h3, hbel.grown (grownBy_sortedI _) hbel.size (fun j hj => by cases hj; exact hbase)⟩
set_option maxRecDepth 100000 in
set_option maxHeartbeats 8000000 in
theorem gath_any (Br Bn B : Nat) (X : Option Addr) (cx : Nat) (A1 A2 A3 A4 : Option Addr) (c1 c2 c3 c4 : Nat) (nm : List Int) (en : Nat → Nat) (a b n : Nat) (w : World) (h : RwS w B A1 A2 A3 A4 c1 c2 c3 c4 nm en) (he : EnP nm en) (hl : nm.length ≤ 16384) (hr : w.cell? ⟨Br, 0, none⟩ = some (.pointer (some ⟨B, 0, none⟩))) (hn : w.cell? ⟨Bn, 0, none⟩ = some (.int .i64 (n : Int)))
    (hab : a ≤ b) (hb : b ≤ nm.length) (hX : ∀ j, a + j < b → ∃ Y, X = some Y ∧ w.cell? (Y.add j) = some (.int .i64 ((snth (sufN nm) (a + j) : Nat) : Int))) (T : List Nat) (hT : ((nV64 (gatN nm en a b n)).mergeSort fun x y => decide (x ≤ y)) = nV64 T) :
    Calls Try.prog 44 #[.slice X (b - a) cx, .func (.func 45) #[] #[.pointer (some ⟨Br, 0, none⟩), .pointer (some ⟨Bn, 0, none⟩)]] w (GthP T w) := by
  have HW : Hid (∀ W, Below w.heap.size w W → RwS W B A1 A2 A3 A4 c1 c2 c3 c4 nm en ∧ W.cell? ⟨Br, 0, none⟩ = some (.pointer (some ⟨B, 0, none⟩)) ∧ W.cell? ⟨Bn, 0, none⟩ = some (.int .i64 (n : Int)) ∧ ∀ j, a + j < b → ∃ Y, X = some Y ∧ W.cell? (Y.add j) = some (.int .i64 ((snth (sufN nm) (a + j) : Nat) : Int))) := fun W hb => ⟨h.keep hb, lkeep hb hr, lkeep hb hn, fun j hj => by
    obtain ⟨Y, e, q⟩ := hX j hj
    exact ⟨Y, e, lkeep hb q⟩⟩
  have HE : Hid (EnP nm en) := he
  have HTT : Hid _ := hT
  obtain ⟨iI, hi, hz0, hz1, hz2⟩ := infoI3
  clear h he hr hn hX hT
  obtain ⟨m, hm⟩ : ∃ m, m = b - a := ⟨_, rfl⟩
  rw [← hm]
  have hm1 : m ≤ 16384 := by omega
  have HM : Hid (b = a + m) := by unfold Hid; omega
  have HMl : Hid (a + m ≤ nm.length) := by unfold Hid; omega
  have hmk := make_cap m (by omega) w
  have HO0 : Hid ((w.alloc (.cells (rowC m (fun _ => 0)).toArray 3)).ownsRow w.heap.size 3 1 (.slice (some ⟨w.heap.size, 0, none⟩) 0 m) 0 []) := own_cap m (by omega) w
  have HB0 : Hid (Below w.heap.size w (w.alloc (.cells (rowC m (fun _ => 0)).toArray 3))) := lb_alloc (Below.refl _ _) _
  clear hm hab hb
  go_enter Try.func44, Try.ntmps44
  go_wp2
  go_loopw [5, 13] (fun v i wr => ∃ (j k c : Nat) (O : Option Addr), i = .int .i64 (j : Int) ∧ v = .slice O k c ∧ j ≤ m ∧ k ≤ j ∧ Hid (k = (gatN nm en a (a + j) n).length) ∧ Hid (wr.ownsRow w.heap.size 3 1 (.slice O k c) k (iVals .i64 (nV64 (gatN nm en a (a + j) n)))) ∧ Hid (Below w.heap.size w wr)) (fun _ i _ => m - (intOf i).toNat)
  case atStart => exact ⟨0, 0, m, some ⟨w.heap.size, 0, none⟩, rfl, rfl, Nat.zero_le _, Nat.le_refl _, by unfold Hid; rw [Nat.add_zero, gatN_zero]; rfl, by unfold Hid; rw [Nat.add_zero, gatN_zero]; exact HO0.out, HB0⟩
  case round =>
    clear HO0 HB0 hmk
    obtain ⟨j, k, c, O, rfl, rfl, hj, hkj, HKl, HRw, HBr⟩ := hrel
    by_cases hlt : j < m
    · obtain ⟨HRS, hcr, hcn, hcx⟩ := HW.out wr HBr.out
      obtain ⟨Y, rfl, hcy⟩ := hcx j (by have := HM.out; omega)
      have hlt' : (j : Int) < (m : Int) := by omega
      have hj0 : (0 : Int) ≤ (j : Int) := by omega
      have C := asks_any Br Bn B A1 A2 A3 A4 c1 c2 c3 c4 nm en (snth (sufN nm) (a + j)) n wr HRS HE.out hl hcr hcn (sufN_lt (by have := HMl.out; omega))
      have hgs := gatN_succ (nm := nm) (en := en) (a := a) (b := a + j) (n := n) (by omega)
      clear hcx HRS hcr hcn
      generalize snth (sufN nm) (a + j) = x at *
      by_cases hx : x + n ≤ en x
      · rw [if_pos hx] at hgs
        rw [decide_eq_true hx] at C
        have HG : Hid (gatN nm en a (a + (j + 1)) n = gatN nm en a (a + j) n ++ [x]) := hgs
        clear hgs hx
        have HBa : Hid (Below w.heap.size w (wr.alloc (.cells #[.int .i64 (x : Int)] 3))) := lb_alloc HBr.out _
        have HRa : Hid ((wr.alloc (.cells #[.int .i64 (x : Int)] 3)).ownsRow w.heap.size 3 1 (.slice O k c) k (iVals .i64 (nV64 (gatN nm en a (a + j) n)))) := row_keep HRw.out (lb_alloc (Below.refl _ _) _)
        go_upto_region 6 with (go_at_call 45; refine C.mono ?_; rintro e w1 ⟨rfl, e1⟩; have e2 := e1.symm; clear e1; subst e2)
        go_upto_region 7 with ((at_builtin; go_loud (refine wpList_append_own _ rfl (.tmp 20) (.tmp 22) 34 rfl w.heap.size 3 iI (.int .i64 0) 1 8 Try.underlying34 hi hz0 hz1 hz2 rfl (by decide) (.slice O k c) k (iVals .i64 (nV64 (gatN nm en a (a + j) n))) rfl HRa.out ⟨wr.heap.size, 0, none⟩ 1 1 [.int .i64 (x : Int)] rfl rfl (fun j u hu => World.news_of_block (newAtK (by simp)) j u hu) one_oneI (by unfold maxLen; omega) (by omega) HBa.out.size ?_; intro v3 w4 hown hgrow _; have HR3 : Hid (w4.ownsRow w.heap.size 3 1 v3 (k + 1) (iVals .i64 (nV64 (gatN nm en a (a + (j + 1)) n)))) := (by rw [Hid, HG.out, nV64_snoc, iVals_snoc]; exact hown); have HB3 : Hid (Below w.heap.size w w4) := HBa.out.grown hgrow HBa.out.size (fun b hb => (HRa.out.lt b hb).1); clear hown hgrow)))
        obtain ⟨A5, c5, e5⟩ := own_sl HR3.out
        subst e5
        have HK3 : Hid (k + 1 = (gatN nm en a (a + (j + 1)) n).length) := by unfold Hid; rw [HG.out, List.length_append, ← HKl.out]; rfl
        go_wp2
        go_roundw
        case rel => exact ⟨j + 1, k + 1, c5, A5, by go_num, rfl, by omega, by omega, HK3, HR3, HB3⟩
        case measure => simp [intOf]; omega
      · rw [if_neg hx, List.append_nil] at hgs
        rw [decide_eq_false hx] at C
        have HG : Hid (gatN nm en a (a + (j + 1)) n = gatN nm en a (a + j) n) := hgs
        clear hgs hx
        go_wp2_with (go_at_call 45; refine C.mono ?_; rintro e w1 ⟨rfl, e1⟩; have e2 := e1.symm; clear e1; subst e2)
        go_roundw
        case rel => exact ⟨j + 1, k, c, O, by go_num, rfl, by omega, by omega, by rw [HG.out]; exact HKl, by rw [HG.out]; exact HRw, HBr⟩
        case measure => simp [intOf]; omega
    · obtain rfl : j = m := by omega
      have hlt' : ¬ (j : Int) < (j : Int) := by omega
      rw [← HM.out] at HKl HRw
      have HTT2 : Hid (((nV64 (gatN nm en a b n)).mergeSort fun x y => decide (x ≤ y)) = nV64 T) := HTT
      have HTl : Hid (T.length = k) := by
        have := congrArg List.length HTT.out
        rw [List.length_mergeSort, nV64_len, nV64_len] at this
        unfold Hid
        rw [← this, ← HKl.out]
      have HLn : Hid ((nV64 (gatN nm en a b n)).length = k) := by unfold Hid; rw [nV64_len]; exact HKl.out.symm
      clear HTT HM HMl HKl
      generalize nV64 (gatN nm en a b n) = L at *
      by_cases h0 : k = 0
      · subst h0
        have hg : ∀ (p : Option Addr) (k : Nat) (wx : World), Calls Try.prog 61 #[.slice p 0 k] wx fun e w' => e = .returned (.tuple #[]) ∧ w' = wx := fun p k wx => Any.slices_Sort_int_none Try.layS p k wx
        have HL0 : Hid ((L.mergeSort fun x y => decide (x ≤ y)) = L) := by
          unfold Hid
          rw [List.length_eq_zero_iff.1 HLn.out, List.mergeSort_nil]
        go_wp2_with (go_at_call 61; refine (hg _ _ _).mono ?_; rintro e w2 ⟨rfl, e1⟩; have e2 := e1.symm; clear e1; subst e2)
        go_ret
        refine ⟨O, c, by rw [HTl.out]; rfl, ?_, HBr.out⟩
        rw [HTl.out, ← HTT2.out, HL0.out]
        exact HRw.out
      · have HN : Hid (0 < k) := by unfold Hid; omega
        have hmz : ∀ (g cc : Nat) (wx : World), Sort.Holds (Value.int .i64) wx g 0 L.toArray → g < wx.heap.size → Calls Try.prog 61 #[.slice (some ⟨g, 0, none⟩) k cc] wx fun e w' => e = .returned (.tuple #[]) ∧ ∃ n os, w' = grow (putRow (Value.int .i64) (Sort.ahead wx n) g 0 (L.mergeSort fun x y => decide (x ≤ y)).toArray) os := fun g cc wx hH hgl => by
          have := Any.slices_Sort_int Try.layS g 0 cc L wx hH hgl (by rw [HLn.out]; omega)
          rw [HLn.out] at this
          exact this
        obtain ⟨g, cap, ev, hbg, hgl, hnc, hcm, hzl, hH⟩ := Lib.holds_of_ownsRow (enc := Value.int .i64) (zs := L) (show wr.ownsRow w.heap.size 3 1 (.slice O k c) k (L.map (Value.int .i64)) from HRw.out) (fun e => by injection e with _ e2 _; have := HN.out; omega)
        injection ev with e1 _ e3
        subst e1
        subst e3
        have C2 := hmz g c wr hH hgl
        have HSE : Hid (∀ nn os, (grow (putRow (Value.int .i64) (Sort.ahead wr nn) g 0 (L.mergeSort fun x y => decide (x ≤ y)).toArray) os).ownsRow w.heap.size 3 1 (.slice (some ⟨g, 0, none⟩) k c) k (iVals .i64 (L.mergeSort fun x y => decide (x ≤ y))) ∧ Below w.heap.size w (grow (putRow (Value.int .i64) (Sort.ahead wr nn) g 0 (L.mergeSort fun x y => decide (x ≤ y)).toArray) os)) := fun nn os => sort_end HRw.out HBr.out HLn.out
        clear hmz hH hbg hgl hnc hcm hzl h0
        go_wp2_with (go_at_call 61; refine C2.mono ?_; rintro e w2 ⟨rfl, nn, os, hw2⟩; have h5 := HSE.out nn os; rw [← hw2] at h5; have H5 : Hid _ := h5; clear h5 hw2)
        go_ret
        refine ⟨some ⟨g, 0, none⟩, c, by rw [HTl.out]; rfl, ?_, H5.out.2⟩
        rw [HTl.out, ← HTT2.out]
        exact H5.out.1

end Go.Proofs.Ytokhclindfipbaa

namespace Go.Proofs.Ytokhclindfipbaa
open Go.RowKit

theorem GthP.up {T : List Nat} {w w1 w2 : World} {e : Ending} (h : GthP T w1 e w2) (hb : Below w.heap.size w w1) : GthP T w e w2 := by
  obtain ⟨O, c, h1, h2, h3⟩ := h
  exact ⟨O, c, h1, ownsRow_mono h2 hb.size, lb_trans hb h3⟩
set_option maxRecDepth 100000 in
set_option maxHeartbeats 8000000 in
theorem places_any (B : Nat) (A1 A2 A3 A4 : Option Addr) (c1 c2 c3 c4 : Nat) (nm : List Int) (en : Nat → Nat) (f n : Nat) (w : World) (h : RwS w B A1 A2 A3 A4 c1 c2 c3 c4 nm en) (he : EnP nm en) (hl : nm.length ≤ 2048) (hf : f < nm.length) (hn : n ≤ 1048576) :
    Calls Try.prog 30 #[.pointer (some ⟨B, 0, none⟩), .int .i64 (f : Int), .int .i64 (n : Int)] w (GthP (plcR nm en (snth (sufN nm) f) n) w) := by
  obtain ⟨X, hX⟩ : ∃ X, (w.alloc (.cells #[.pointer (some ⟨B, 0, none⟩)] 79)).alloc (.cells #[.int .i64 (n : Int)] 3) = X := ⟨_, rfl⟩
  have HB : Hid (Below w.heap.size w X) := by unfold Hid; rw [← hX]; exact lb_alloc (lb_alloc (Below.refl _ _) _) _
  have i0 : X.cell? ⟨w.heap.size, 0, none⟩ = some (.pointer (some ⟨B, 0, none⟩)) := by rw [← hX]; simp [go_sem]
  have i1 : X.cell? ⟨w.heap.size + 1, 0, none⟩ = some (.int .i64 (n : Int)) := by rw [← hX]; simp [go_sem]
  have HX : Hid _ := hX
  have hX1 := h.keep HB.out
  have HI : Hid (∀ W, Below X.heap.size X W → RwS W B A1 A2 A3 A4 c1 c2 c3 c4 nm en ∧ W.cell? ⟨w.heap.size, 0, none⟩ = some (.pointer (some ⟨B, 0, none⟩)) ∧ W.cell? ⟨w.heap.size + 1, 0, none⟩ = some (.int .i64 (n : Int)) ∧ W.cell? ⟨B, 0, none⟩ = some (.slice A1 nm.length c1) ∧ W.cell? ⟨B, 2, none⟩ = some (.slice A3 nm.length c3)) := fun W hb => ⟨hX1.keep hb, lkeep hb i0, lkeep hb i1, lkeep hb hX1.f1, lkeep hb hX1.f3⟩
  obtain ⟨g1, g2, g3⟩ := gp_ok (p := cpA nm) (i := f) (L := (n : Int)) (by rw [cpA_len]; exact hf) (by omega)
  obtain ⟨e1, e2, e3⟩ := frto nm (n := n) hf
  obtain ⟨fr, hfr⟩ : ∃ fr, fr = frN nm f n := ⟨_, rfl⟩
  obtain ⟨tt, hto⟩ : ∃ tt, tt = toN nm f n := ⟨_, rfl⟩
  have HCG : Hid (∀ W, Below X.heap.size X W → Calls Try.prog 43 #[.slice A3 nm.length c3, .int .i64 (f : Int), .int .i64 (n : Int)] W (GrR (fr : Int) (tt : Int) 0 W)) := fun W hb => by
    have CG := groupOK A3 c3 (cpA nm) (f : Int) (n : Int) W (hX1.keep hb).r3 (by rw [cpA_len]; omega) (by unfold Rng; omega) (by unfold Rng; omega)
    rw [g1, g2, g3, cpA_len] at CG
    rw [show grF (cpA nm) (n : Int) f = fr from hfr.symm, show grT (cpA nm) (n : Int) (nm.length - (f + 1)) (f + 1) = tt from hto.symm] at CG
    exact CG
  rw [← hto] at e2 e3
  rw [← hfr] at e1
  have hT := gatN_sort he (n := n) hf
  rw [← hfr, ← hto] at hT
  have HT : Hid _ := hT
  obtain ⟨Y, hY, -⟩ := hX1.r1 f (by rw [sufL_len]; exact hf)
  subst hY
  have hcut := fun W => cut_runM Y nm.length c1 fr tt (by omega) e3 h.le W
  have HGA : Hid (∀ W, Below X.heap.size X W → Calls Try.prog 44 #[.slice (some (Y.add fr)) (tt - fr) (c1 - fr), .func (.func 45) #[] #[.pointer (some ⟨w.heap.size, 0, none⟩), .pointer (some ⟨w.heap.size + 1, 0, none⟩)]] W (GthP (plcR nm en (snth (sufN nm) f) n) W)) := fun W hb => by
    obtain ⟨q1, q2, q3, -, -⟩ := HI.out W hb
    refine gath_any w.heap.size (w.heap.size + 1) B (some (Y.add fr)) (c1 - fr) (some Y) A2 A3 A4 c1 c2 c3 c4 nm en fr tt n W q1 he (by omega) q2 q3 (by omega) e3 (fun j hj => ⟨_, rfl, ?_⟩) _ HT.out
    obtain ⟨Z, ez, hz⟩ := q1.r1 (fr + j) (by rw [sufL_len]; omega)
    cases ez
    rw [add_addM, hz, sufL_nth (by omega)]
  have b1 : (fr : Int) ≤ (tt : Int) := by omega
  have b2 : (tt : Int) ≤ (nm.length : Int) := by omega
  obtain ⟨-, -, -, j0, j2⟩ := HI.out X (Below.refl _ _)
  clear h he hX hX1 g1 g2 g3 hT HT hfr hto hf hn
  generalize plcR nm en (snth (sufN nm) f) n = T at *
  go_enter Try.func30, Try.ntmps30
  go_upto_region 1 with fail
  rw [HX.out]
  clear HX
  have BX : Below X.heap.size X X.drew := (Below.refl _ _).drew
  go_region_held3 (fun W => Below X.heap.size X W ∧ W.cell? ⟨w.heap.size, 0, none⟩ = some (.pointer (some ⟨B, 0, none⟩)) ∧ W.cell? ⟨w.heap.size + 1, 0, none⟩ = some (.int .i64 (n : Int)) ∧ W.cell? ⟨B, 2, none⟩ = some (.slice A3 nm.length c3)) (first | exact ⟨Below.refl _ _, i0, i1, j2⟩ | exact ⟨lb_trans BX hb2, (HI.out _ (lb_trans BX hb2)).2.1, (HI.out _ (lb_trans BX hb2)).2.2.1, (HI.out _ (lb_trans BX hb2)).2.2.2.2⟩ | exact ⟨BX, (HI.out _ BX).2.1, (HI.out _ BX).2.2.1, (HI.out _ BX).2.2.2.2⟩) (first | (go_at_call 43; refine (HCG.out _ BX).mono ?_; rintro e w1 ⟨rfl, hb2⟩))
  have HB1 : Hid (Below X.heap.size X w1) := lb_trans BX hb2
  obtain ⟨-, k0, k1, kB, -⟩ := HI.out w1 HB1.out
  have CT := HGA.out w1 HB1.out
  have HBw : Hid (Below w.heap.size w w1) := lb_trans HB.out HB1.out
  clear hb2 i0 i1 j0 j2 BX HI HGA HCG HB
  go_wp2_with (go_at_call 44; refine CT.mono ?_; rintro e w2 ⟨O, c, rfl, hr2, hb2⟩; have HR2 : Hid _ := hr2; have HB2 : Hid (Below w1.heap.size w1 w2) := hb2; clear hr2 hb2)
  go_ret
  exact ⟨O, c, rfl, ownsRow_mono HR2.out HBw.out.size, lb_trans HBw.out HB2.out⟩

end Go.Proofs.Ytokhclindfipbaa
