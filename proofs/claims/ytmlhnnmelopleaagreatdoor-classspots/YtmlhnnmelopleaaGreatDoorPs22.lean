/-
  Contracts of the library, laid at this program. slices.Clone and rising of package edge, by what they answer; at most 1048576 numbers. The flow of an image in memory. A list of numbers copied into memory of its own, with marks behind it, by the document's helpers; it is at most 2^20 long.
-/
import Derived.Test.YtmlhnnmelopleaaGreatDoorProg
import Derived.Shelf.Sort.Plain
import Derived.Shelf.Slices.Clone
import Derived.Shelf.Slices.CompactI
import Derived.Shelf.Slices.In.SortNone
import Derived.WalkKit
import Derived.WalkSpells
import Derived.WalkLawsBesides
import Derived.RowKit3
import Derived.Below
import Derived.Deep.QuietTactic
import Derived.BigQuiet
import Derived.WalkSmall
import Derived.Laws.Rows
import Derived.Lib.OwnBridge
import Derived.Sort.OwnSortedInts
import Derived.Test.YtmlhnnmelopleaaGreatDoorPs11
import Derived.Test.YtmlhnnmelopleaaGreatDoorPs21
import Derived.Test.YtmlhnnmelopleaaGreatDoorPs20
import Derived.Laws.MakeOwn
import Derived.Test.YtmlhnnmelopleaaGreatDoorPs01
namespace Go.Proofs
open Go.Shelf
def Tryz.layC_ren : Go.Shelf.Ren := ⟨fun | 15 => 111 | n => n, fun | 22 => 32 | 3 => 3 | 4 => 4 | n => n, fun | n => n⟩
theorem Tryz.layC : Go.Proofs.Lays2.n15 Tryz.prog Tryz.layC_ren := {
  mixed := by kernel_rfl
  f15 := Tryz.func111.trans (congrArg some (by kernel_rfl))
  t3 := Tryz.underlying3
  a3 := Tryz.isAgg3
  z3 := Tryz.sizeOf3
  v3 := Tryz.zeroValue3
  t4 := Tryz.underlying4
  a4 := Tryz.isAgg4
  z4 := Tryz.sizeOf4
  v4 := Tryz.zeroValue4
  t22 := Tryz.underlying32
  a22 := Tryz.isAgg32
  z22 := Tryz.sizeOf32
  v22 := Tryz.zeroValue32
  i3 := by kernel_rfl
}
def Tryz.layS_ren : Go.Shelf.Ren := ⟨fun | 189 => 123 | 125 => 126 | 257 => 125 | 128 => 136 | 129 => 137 | 294 => 127 | 295 => 128 | 296 => 129 | 297 => 130 | 298 => 131 | 299 => 132 | 216 => 133 | 300 => 134 | 301 => 135 | 328 => 138 | 329 => 139 | 330 => 140 | 331 => 141 | 332 => 142 | 215 => 143 | 343 => 144 | n => n, fun | 28 => 32 | 3 => 3 | 46 => 86 | 0 => 0 | 51 => 63 | 53 => 184 | 4 => 4 | 183 => 177 | 182 => 176 | 131 => 69 | 5 => 5 | 9 => 9 | 218 => 185 | 222 => 189 | 228 => 191 | 229 => 192 | n => n, fun | n => n⟩
theorem Tryz.layS : Go.Proofs.Lays.n189 Tryz.prog Tryz.layS_ren := {
  mixed := by kernel_rfl
  f125 := Tryz.func126.trans (congrArg some (by kernel_rfl))
  f128 := Tryz.func136.trans (congrArg some (by kernel_rfl))
  f129 := Tryz.func137.trans (congrArg some (by kernel_rfl))
  f189 := Tryz.func123.trans (congrArg some (by kernel_rfl))
  f215 := Tryz.func143.trans (congrArg some (by kernel_rfl))
  f216 := Tryz.func133.trans (congrArg some (by kernel_rfl))
  f257 := Tryz.func125.trans (congrArg some (by kernel_rfl))
  f294 := Tryz.func127.trans (congrArg some (by kernel_rfl))
  f295 := Tryz.func128.trans (congrArg some (by kernel_rfl))
  f296 := Tryz.func129.trans (congrArg some (by kernel_rfl))
  f297 := Tryz.func130.trans (congrArg some (by kernel_rfl))
  f298 := Tryz.func131.trans (congrArg some (by kernel_rfl))
  f299 := Tryz.func132.trans (congrArg some (by kernel_rfl))
  f300 := Tryz.func134.trans (congrArg some (by kernel_rfl))
  f301 := Tryz.func135.trans (congrArg some (by kernel_rfl))
  f328 := Tryz.func138.trans (congrArg some (by kernel_rfl))
  f329 := Tryz.func139.trans (congrArg some (by kernel_rfl))
  f330 := Tryz.func140.trans (congrArg some (by kernel_rfl))
  f331 := Tryz.func141.trans (congrArg some (by kernel_rfl))
  f332 := Tryz.func142.trans (congrArg some (by kernel_rfl))
  f343 := Tryz.func144.trans (congrArg some (by kernel_rfl))
  t0 := Tryz.underlying0
  a0 := Tryz.isAgg0
  z0 := Tryz.sizeOf0
  v0 := Tryz.zeroValue0
  t3 := Tryz.underlying3
  a3 := Tryz.isAgg3
  z3 := Tryz.sizeOf3
  v3 := Tryz.zeroValue3
  t4 := Tryz.underlying4
  a4 := Tryz.isAgg4
  z4 := Tryz.sizeOf4
  v4 := Tryz.zeroValue4
  t5 := Tryz.underlying5
  a5 := Tryz.isAgg5
  z5 := Tryz.sizeOf5
  v5 := Tryz.zeroValue5
  t9 := Tryz.underlying9
  a9 := Tryz.isAgg9
  z9 := Tryz.sizeOf9
  v9 := Tryz.zeroValue9
  t28 := Tryz.underlying32
  a28 := Tryz.isAgg32
  z28 := Tryz.sizeOf32
  v28 := Tryz.zeroValue32
  t46 := Tryz.underlying86
  a46 := Tryz.isAgg86
  z46 := Tryz.sizeOf86
  v46 := Tryz.zeroValue86
  t51 := Tryz.underlying63
  a51 := Tryz.isAgg63
  z51 := Tryz.sizeOf63
  v51 := Tryz.zeroValue63
  t53 := Tryz.underlying184
  a53 := Tryz.isAgg184
  z53 := Tryz.sizeOf184
  v53 := Tryz.zeroValue184
  t131 := Tryz.underlying69
  a131 := Tryz.isAgg69
  z131 := Tryz.sizeOf69
  v131 := Tryz.zeroValue69
  t182 := Tryz.underlying176
  a182 := Tryz.isAgg176
  z182 := Tryz.sizeOf176
  v182 := Tryz.zeroValue176
  t183 := Tryz.underlying177
  a183 := Tryz.isAgg177
  z183 := Tryz.sizeOf177
  v183 := Tryz.zeroValue177
  t218 := Tryz.underlying185
  a218 := Tryz.isAgg185
  z218 := Tryz.sizeOf185
  v218 := Tryz.zeroValue185
  t222 := Tryz.underlying189
  a222 := Tryz.isAgg189
  z222 := Tryz.sizeOf189
  v222 := Tryz.zeroValue189
  t228 := Tryz.underlying191
  a228 := Tryz.isAgg191
  z228 := Tryz.sizeOf191
  v228 := Tryz.zeroValue191
  t229 := Tryz.underlying192
  a229 := Tryz.isAgg192
  z229 := Tryz.sizeOf192
  v229 := Tryz.zeroValue192
}
def Tryz.layK_ren : Go.Shelf.Ren := ⟨fun | 20 => 124 | n => n, fun | 22 => 32 | 3 => 3 | 4 => 4 | 0 => 0 | n => n, fun | n => n⟩
theorem Tryz.layK : Go.Proofs.Lays2.n20 Tryz.prog Tryz.layK_ren := {
  mixed := by kernel_rfl
  f20 := Tryz.func124.trans (congrArg some (by kernel_rfl))
  t0 := Tryz.underlying0
  a0 := Tryz.isAgg0
  z0 := Tryz.sizeOf0
  v0 := Tryz.zeroValue0
  t3 := Tryz.underlying3
  a3 := Tryz.isAgg3
  z3 := Tryz.sizeOf3
  v3 := Tryz.zeroValue3
  t4 := Tryz.underlying4
  a4 := Tryz.isAgg4
  z4 := Tryz.sizeOf4
  v4 := Tryz.zeroValue4
  t22 := Tryz.underlying32
  a22 := Tryz.isAgg32
  z22 := Tryz.sizeOf32
  v22 := Tryz.zeroValue32
  i3 := by kernel_rfl
}
end Go.Proofs

namespace Go.Proofs.YtmlhnnmelopleaaGreatDoor
open Go.RowKit

open Go.Sort
/-- An answer that is a list of its own memory. -/
def RowP (l : List Int) (w : World) (e : Ending) (w' : World) : Prop := ∃ (A : Option Addr) (c : Nat), e = .returned (.slice A l.length c) ∧ w'.ownsRow w.heap.size 3 1 (.slice A l.length c) l.length (iVals .i64 l) ∧ Below w.heap.size w w'
theorem clone_any (base : Nat) (A : Option Addr) (c : Nat) (l : List Int) (w : World) (h : w.ownsRow base 3 1 (.slice A l.length c) l.length (iVals .i64 l)) (hl : l.length ≤ 1048576) :
    Calls Tryz.prog 111 #[.slice A l.length c] w (RowP l w) := by
  have hi := row_ints h
  rcases h.2 with ⟨e, h0⟩ | ⟨g, cap, cur, e, hb, hg, hn, hm, hs, ht⟩
  · injection e with e1 e2 e3
    subst e1
    rw [h0]
    obtain rfl : l = [] := List.length_eq_zero_iff.1 h0
    refine (Any.slices_Clone_int_nil Tryz.layC 0 c w).mono fun e w' he => ?_
    obtain ⟨rfl, rfl⟩ := he
    exact ⟨none, 0, rfl, World.ownsRow_nil _ _ _ _, Below.refl _ _⟩
  · injection e with e1 e2 e3
    subst e1
    refine (Any.slices_Clone_int Tryz.layC g 0 l.length c l w (Nat.le_refl _) (by omega) (fun j hj => ?_)).mono fun e w' he => ?_
    · obtain ⟨a, ea, q⟩ := hi j hj
      obtain rfl := Option.some.inj ea
      rw [add0] at q
      rw [Nat.zero_add]
      exact q
    · obtain ⟨v, rfl, hown, _, hbl⟩ := he
      rw [List.take_of_length_le (Nat.le_refl _)] at hown
      obtain ⟨A2, c2, rfl⟩ := own_form hown
      exact ⟨A2, c2, rfl, hown, hbl⟩
/-- What the three leave. -/
theorem ris_end {w w1 : World} {g cap n nn q : Nat} {os : Array Obj} {l : List Int} (hown : w1.ownsRow w.heap.size 3 1 (.slice (some ⟨g, 0, none⟩) n cap) n (l.map (Value.int .i64))) (hbel : Below w.heap.size w w1) (hlen : l.length = n) :
    (putRow (Value.int .i64) (Sort.ahead (grow (putRow (Value.int .i64) (Sort.ahead w1 nn) g 0 (l.mergeSort fun x y => decide (x ≤ y)).toArray) os) q) g 0 (risZ l ++ List.replicate (n - (risZ l).length) 0).toArray).ownsRow w.heap.size 3 1 (.slice (some ⟨g, 0, none⟩) (risZ l).length cap) (risZ l).length (iVals .i64 (risZ l)) ∧ Below w.heap.size w (putRow (Value.int .i64) (Sort.ahead (grow (putRow (Value.int .i64) (Sort.ahead w1 nn) g 0 (l.mergeSort fun x y => decide (x ≤ y)).toArray) os) q) g 0 (risZ l ++ List.replicate (n - (risZ l).length) 0).toArray) := by
  have hl2 : (l.mergeSort fun x y => decide (x ≤ y)).length = l.length := List.length_mergeSort l
  have hle := ris_len l
  subst hlen
  rcases hown.2 with ⟨h0, _⟩ | ⟨g', cap', cur, hv, hbase, hb, h1, h2, h3, h4⟩
  · cases h0
  cases hv
  have hs := ownsRow_sortedI (n := nn) (os := os) (ts := l.mergeSort fun x y => decide (x ≤ y)) hl2 hbase hb h1 h2 h3
  have hc := Lib.ownsRow_putRow (q := q) (k := (risZ l).length) (ys := risZ l ++ List.replicate (l.length - (risZ l).length) 0) hs (by simp; omega) (by omega)
  rw [List.take_left] at hc
  exact ⟨hc, Lib.below_putRow (hbel.grown (grownBy_sortedI _) hbel.size (fun j hj => by cases hj; exact hbase)) hbase⟩
set_option maxHeartbeats 1000000 in
theorem rising_any (base : Nat) (A : Option Addr) (c : Nat) (l : List Int) (w : World) (h : w.ownsRow base 3 1 (.slice A l.length c) l.length (iVals .i64 l)) (hl : l.length ≤ 1048576) :
    Calls Tryz.prog 118 #[.slice A l.length c] w (RowP (risZ l) w) := by
  have C := clone_any base A c l w h hl
  clear h
  by_cases h0 : l.length = 0
  · obtain rfl : l = [] := List.length_eq_zero_iff.1 h0
    have C : Calls Tryz.prog 111 #[.slice A 0 c] w (RowP [] w) := C
    have HR : Hid (risZ [] = []) := by unfold Hid; exact List.length_eq_zero_iff.1 (by have := ris_len []; simpa using this)
    have hg : ∀ (p : Option Addr) (k : Nat) (wx : World), Calls Tryz.prog 123 #[.slice p 0 k] wx fun e w' => e = .returned (.tuple #[]) ∧ w' = wx := fun p k wx => Any.slices_Sort_int_none Tryz.layS p k wx
    have hc : ∀ (p : Option Addr) (k : Nat) (wx : World), Calls Tryz.prog 124 #[.slice p 0 k] wx fun e w' => e = .returned (.slice p 0 k) ∧ w' = wx := fun p k wx => Any.slices_Compact_int_empty Tryz.layK p k wx
    clear hl h0
    show Calls Tryz.prog 118 #[.slice A 0 c] w (RowP (risZ []) w)
    go_enter Tryz.func118, Tryz.ntmps118
    go_wp2_with (first
      | (go_at_call 111; refine C.mono ?_; rintro e w1 ⟨A1, c1, rfl, hown, hb1⟩)
      | (go_at_call 123; refine (hg _ _ _).mono ?_; rintro e w2 ⟨rfl, rfl⟩)
      | (go_at_call 124; refine (hc _ _ _).mono ?_; rintro e w3 ⟨rfl, rfl⟩))
    go_ret
    rw [HR.out]
    exact ⟨A1, c1, rfl, hown, hb1⟩
  · have hln : l ≠ [] := fun e => h0 (by rw [e]; rfl)
    have hmz : ∀ (g k : Nat) (wx : World), Sort.Holds (Value.int .i64) wx g 0 l.toArray → g < wx.heap.size → Calls Tryz.prog 123 #[.slice (some ⟨g, 0, none⟩) l.length k] wx fun e w' => e = .returned (.tuple #[]) ∧ ∃ n os, w' = grow (putRow (Value.int .i64) (Sort.ahead wx n) g 0 (l.mergeSort fun x y => decide (x ≤ y)).toArray) os := fun g k wx hH hgl => Any.slices_Sort_int Tryz.layS g 0 k l wx hH hgl (by omega)
    have hcz : ∀ (g k : Nat) (wx : World), Sort.Holds (Value.int .i64) wx g 0 (l.mergeSort fun x y => decide (x ≤ y)).toArray → l.length ≤ k → Calls Tryz.prog 124 #[.slice (some ⟨g, 0, none⟩) l.length k] wx fun e w' => e = .returned (.slice (some ⟨g, 0, none⟩) (risZ l).length k) ∧ ∃ q, w' = putRow (Value.int .i64) (Sort.ahead wx q) g 0 (risZ l ++ List.replicate (l.length - (risZ l).length) 0).toArray := fun g k wx hH hk => by
      have hl2 : (l.mergeSort fun x y => decide (x ≤ y)).length = l.length := List.length_mergeSort l
      have := Any.slices_Compact_int Tryz.layK g 0 k (l.mergeSort fun x y => decide (x ≤ y)) wx hH (by omega) (by omega)
      rw [hl2] at this
      exact this
    have HN : Hid (0 < l.length) := by unfold Hid; omega
    clear h0 hln
    go_enter Tryz.func118, Tryz.ntmps118
    go_upto_region 2 with (go_at_call 111; refine C.mono ?_; rintro e w1 ⟨A1, c1, rfl, hown, hb1⟩)
    obtain ⟨g, cap, ev, hbg, hgl, hnc, hcm, hzl, hH⟩ := Lib.holds_of_ownsRow (enc := Value.int .i64) (zs := l) hown (fun e => by injection e with _ e2 _; have := HN.out; omega)
    injection ev with e1 _ e3
    subst e1
    subst e3
    have HO : Hid (w1.ownsRow w.heap.size 3 1 (.slice (some ⟨g, 0, none⟩) l.length c1) l.length (l.map (Value.int .i64))) := hown
    have HB : Hid (Below w.heap.size w w1) := hb1
    clear hown hb1 C hbg hcm hzl
    have C2 := hmz g c1 w1 hH hgl
    clear hmz hH
    go_upto_region 3 with (go_at_call 123; refine C2.mono ?_; rintro e w2 ⟨rfl, nn, os, hw2⟩; have HW2 : Hid (w2 = grow (putRow (Value.int .i64) (Sort.ahead w1 nn) g 0 (l.mergeSort fun x y => decide (x ≤ y)).toArray) os) := hw2; clear hw2)
    have hl2 : (l.mergeSort fun x y => decide (x ≤ y)).length = l.length := List.length_mergeSort l
    have hH2 : Sort.Holds (Value.int .i64) w2 g 0 (l.mergeSort fun x y => decide (x ≤ y)).toArray := by
      rcases HO.out.2 with ⟨h0, _⟩ | ⟨g', cap', cur, hv, hbase, hb, h1, h2, h3, h4⟩
      · cases h0
      cases hv
      have hs := ownsRow_sortedI (n := nn) (os := os) (ts := l.mergeSort fun x y => decide (x ≤ y)) hl2 hbase hb h1 h2 h3
      rw [← HW2.out] at hs
      obtain ⟨g4, cap4, ev4, _, _, _, _, _, hH4⟩ := Lib.holds_of_ownsRow (enc := Value.int .i64) hs (fun e => by cases e)
      injection ev4 with e1 _ _
      injection e1 with e1
      injection e1 with e1
      subst e1
      exact hH4
    have C3 := hcz g c1 w2 hH2 hnc
    have HE2 : Hid (∀ q, (putRow (Value.int .i64) (Sort.ahead w2 q) g 0 (risZ l ++ List.replicate (l.length - (risZ l).length) 0).toArray).ownsRow w.heap.size 3 1 (.slice (some ⟨g, 0, none⟩) (risZ l).length c1) (risZ l).length (iVals .i64 (risZ l)) ∧ Below w.heap.size w (putRow (Value.int .i64) (Sort.ahead w2 q) g 0 (risZ l ++ List.replicate (l.length - (risZ l).length) 0).toArray)) := fun q => by
      rw [HW2.out]
      exact ris_end HO.out HB.out rfl
    clear hcz hH2 HW2 hl2 C2 HO HB
    go_wp2_with (go_at_call 124; go_loud (refine C3.mono ?_; rintro e w3 ⟨rfl, q, hw3⟩; have h5 := HE2.out q; rw [← hw3] at h5; clear hw3))
    go_ret
    exact ⟨_, _, rfl, h5.1, h5.2⟩



end Go.Proofs.YtmlhnnmelopleaaGreatDoor

namespace Go.Proofs.YtmlhnnmelopleaaGreatDoor
open Go.RowKit

/-- A row of numbers, each as a function tells. -/
def NumsAt (w : World) (g n : Nat) (F : Int → Int) : Prop := ∃ cs : Array Value, w.heap[g]? = some (.cells cs 3 (0, 0)) ∧ cs.size = n ∧ ∀ i : Nat, i < n → cs[i]? = some (.int .i64 (F (i : Int)))
theorem NumsAt.lt {w : World} {g n : Nat} {F : Int → Int} (h : NumsAt w g n F) : g < w.heap.size := by
  obtain ⟨cs, h1, _⟩ := h
  exact (Array.getElem?_eq_some_iff.1 h1).1
theorem NumsAt.keep {w w1 : World} {g n : Nat} {F : Int → Int} (h : NumsAt w g n F) (hb : Below w.heap.size w w1) : NumsAt w1 g n F := by
  obtain ⟨cs, h1, h2⟩ := h
  exact ⟨cs, by rw [hb.block g (Array.getElem?_eq_some_iff.1 h1).1]; exact h1, h2⟩
theorem NumsAt.kept {w w1 : World} {g n : Nat} {F : Int → Int} {row : Option Nat} (h : NumsAt w g n F) (hg : w.grownBy w1 row) (hne : row ≠ some g) : NumsAt w1 g n F := by
  obtain ⟨cs, h1, h2⟩ := h
  exact ⟨cs, by rw [hg.block g (Array.getElem?_eq_some_iff.1 h1).1 (fun e => hne e.symm)]; exact h1, h2⟩
theorem NumsAt.cell {w : World} {g n : Nat} {F : Int → Int} (h : NumsAt w g n F) {x : Int} (h0 : 0 ≤ x) (h1 : x < n) : w.cell? ⟨g, x.toNat, none⟩ = some (.int .i64 (F x)) := by
  obtain ⟨cs, hb, hs, hc⟩ := h
  have := hc x.toNat (by omega)
  rw [show ((x.toNat : Nat) : Int) = x by omega] at this
  simp [World.cell?, hb, this]
theorem NumsAt.fro {w : World} {g n : Nat} {F : Int → Int} (h : NumsAt w g n F) (x : Nat) : w.frozen? ⟨g, x, none⟩ = false := by
  obtain ⟨cs, hb, _⟩ := h
  simp [World.frozen?, hb]
theorem NumsAt.set {w : World} {g n : Nat} {F : Int → Int} (h : NumsAt w g n F) {x : Int} (h0 : 0 ≤ x) (_h1 : x < n) (v : Int) : NumsAt (w.setCell ⟨g, x.toNat, none⟩ (.int .i64 v)) g n (fun y => if y = x then v else F y) := by
  obtain ⟨cs, hb, hs, hc⟩ := h
  refine ⟨cs.setIfInBounds x.toNat (.int .i64 v), box_set hb _ _, by simpa using hs, fun i hi => ?_⟩
  rw [Array.getElem?_setIfInBounds]
  by_cases e : x.toNat = i
  · rw [if_pos e, if_pos (by omega)]
    show _ = some (Value.int .i64 (if _ then _ else _))
    rw [if_pos (by omega)]
  · rw [if_neg e, hc i hi]
    show _ = some (Value.int .i64 (if _ then _ else _))
    rw [if_neg (by omega)]
theorem NumsAt.made (w : World) (n : Nat) : NumsAt (w.alloc (.cells (madeCells #[.int .i64 0] n) 3)) w.heap.size n (fun _ => 0) :=
  ⟨_, heap_alloc_new _ _, by simp [madeCells], fun i hi => by simp [madeCells, hi, Nat.mod_one]⟩
theorem make_nums (n : Nat) (hn : n ≤ 1048576) (w : World) : (Instr.makeSlice 32 (.int .i64 (n : Int)) (.int .i64 (n : Int))).run Tryz.prog w = .ok (.slice (some ⟨w.heap.size, 0, none⟩) n n) (w.alloc (.cells (madeCells #[.int .i64 0] n) 3)) := by
  obtain ⟨i, hi, hz, hs, hb⟩ := infoI
  have h := run_makeSlice (P := Tryz.prog) w 32 3 i _ Tryz.underlying32 hi hz .i64 .i64 (n : Int) (n : Int) (by omega) (by omega) (by rw [hs]; omega) (by rw [hb]; omega) (by omega)
  rw [hs, show ((n : Int)).toNat = n by omega, Nat.mul_one] at h
  exact h
/-- The blocks at whose beginnings a leap can end. -/
def knL (text : List Int) (ent : Int) : List Int := plcT (knK text ent) (blkL text ent).length
/-- The flow of an image, in the block gf. -/
structure Flw (w : World) (gf : Nat) (text : List Int) (ent : Int) (A1 A3 : Option Addr) (c1 gN c3 : Nat) (F : Int → Int) : Prop where
  box : w.heap[gf]? = some (.cells #[.slice A1 (blkL text ent).length c1, .slice (some ⟨gN, 0, none⟩) text.length text.length, .slice A3 (knL text ent).length c3] 165 (0, 0))
  lasts : w.ownsRow 0 67 5 (.slice A1 (blkL text ent).length c1) (blkL text ent).length (lstV (lastL text ent (blkL text ent).length))
  nums : NumsAt w gN text.length F
  num : NumF text ent (blkL text ent).length F
  known : w.ownsRow 0 3 1 (.slice A3 (knL text ent).length c3) (knL text ent).length (iVals .i64 (knL text ent))
def FlowAt (w : World) (gf : Nat) (text : List Int) (ent : Int) : Prop := ∃ (A1 A3 : Option Addr) (c1 gN c3 : Nat) (F : Int → Int), Flw w gf text ent A1 A3 c1 gN c3 F
theorem FlowAt.keep {w w1 : World} {gf : Nat} {text : List Int} {ent : Int} (h : FlowAt w gf text ent) (hb : Below w.heap.size w w1) : FlowAt w1 gf text ent := by
  obtain ⟨A1, A3, c1, gN, c3, F, h⟩ := h
  exact ⟨A1, A3, c1, gN, c3, F, lb_box h.box hb, row_keep h.lasts hb, h.nums.keep hb, h.num, row_keep h.known hb⟩
theorem Flw.last {w : World} {gf : Nat} {text : List Int} {ent : Int} {A1 A3 : Option Addr} {c1 gN c3 : Nat} {F : Int → Int} (h : Flw w gf text ent A1 A3 c1 gN c3 F) {k : Nat} (hk : k < (blkL text ent).length) : ∃ g1, A1 = some ⟨g1, 0, none⟩ ∧ ∀ j u, (insC (lastW text ent k))[j]? = some u → w.cell? ⟨g1, k * 5 + j, none⟩ = some u := by
  rcases h.lasts.2 with ⟨_, h0⟩ | ⟨g, cap, cur, e, _⟩
  · omega
  · injection e with e1 _ _
    refine ⟨g, e1, fun j u hu => ?_⟩
    have hj : j < 5 := by have := (List.getElem?_eq_some_iff.1 hu).1; simpa [insC] using this
    have h2 := lstV_get (l := lastL text ent (blkL text ent).length) (i := k) (j := j) (by rw [lastL_len]; exact hk) hj
    rw [lastL_nth hk, hu] at h2
    have h4 := h.lasts
    rw [e1] at h4
    have h3 := h4.cells (g := g) rfl (k * 5 + j) u h2
    rw [add0] at h3
    exact h3
theorem Flw.cells {w : World} {gf : Nat} {text : List Int} {ent : Int} {A1 A3 : Option Addr} {c1 gN c3 : Nat} {F : Int → Int} (h : Flw w gf text ent A1 A3 c1 gN c3 F) : w.cell? ⟨gf, 0, none⟩ = some (.slice A1 (blkL text ent).length c1) ∧ w.cell? ⟨gf, 1, none⟩ = some (.slice (some ⟨gN, 0, none⟩) text.length text.length) ∧ w.cell? ⟨gf, 2, none⟩ = some (.slice A3 (knL text ent).length c3) :=
  ⟨by simp [World.cell?, h.box], by simp [World.cell?, h.box], by simp [World.cell?, h.box]⟩
/-- A list to be read: of new memory, or the flow's own. -/
def RowR (gf : Nat) (l : List Int) (w : World) (e : Ending) (w' : World) : Prop := ∃ (A : Option Addr) (c : Nat), e = .returned (.slice A l.length c) ∧ w'.ownsRow 0 3 1 (.slice A l.length c) l.length (iVals .i64 l) ∧ Below w.heap.size w w' ∧ ((∀ q, (Value.slice A l.length c).ownBlock = some q → w.heap.size ≤ q) ∨ w.cell? ⟨gf, 2, none⟩ = some (.slice A l.length c))
theorem own_new {A : Option Addr} {n c g m : Nat} (hA : A = some ⟨g, 0, none⟩) (h : m ≤ g) : ∀ q, (Value.slice A n c).ownBlock = some q → m ≤ q := fun q hq => by
  subst hA
  cases hq
  exact h
theorem new_one {w : World} {g : Nat} {x : Int} (hg : g = w.heap.size) : (w.alloc (.cells #[.int .i64 x] 3)).ownsRow 0 3 1 (.slice (some ⟨g, 0, none⟩) 1 1) 1 (iVals .i64 [x]) := by
  subst hg
  exact ⟨rfl, .inr ⟨w.heap.size, 1, _, rfl, Nat.zero_le _, heap_alloc_new _ _, Nat.le_refl _, by unfold maxLen; omega, rfl, rfl⟩⟩
theorem new_pair {w : World} {g : Nat} {x y : Int} (hg : g = w.heap.size) : (w.alloc (.cells #[.int .i64 x, .int .i64 y] 3)).ownsRow 0 3 1 (.slice (some ⟨g, 0, none⟩) 2 2) 2 (iVals .i64 [x, y]) := by
  subst hg
  exact ⟨rfl, .inr ⟨w.heap.size, 2, _, rfl, Nat.zero_le _, heap_alloc_new _ _, Nat.le_refl _, by unfold maxLen; omega, rfl, rfl⟩⟩
def leapB (op : Int) : Bool := op == 18 || op == 19



end Go.Proofs.YtmlhnnmelopleaaGreatDoor

namespace Go.Proofs.YtmlhnnmelopleaaGreatDoor
open Go.RowKit

theorem made_wcur (f : Nat → Value) (z : Value) (N : Nat) : madeCells #[z] N = wcur f (fun _ => z) N 0 := by
  apply Array.ext_getElem?
  intro i
  by_cases hi : i < N
  · rw [wcur_get _ _ _ _ _ hi]; simp [madeCells, hi, Nat.mod_one]
  · rw [Array.getElem?_eq_none (by simp [madeCells]; omega), Array.getElem?_eq_none (by simp [wcur_size]; omega)]
theorem info45 : ∃ i, Tryz.prog.info? 63 = some i ∧ i.zero = some (.int .u32 0) ∧ i.size = 1 ∧ i.bytes = 4 :=
  ⟨(Tryz.prog.info? 63).get (by kernel_rfl), by kernel_rfl, by kernel_rfl, by kernel_rfl, by kernel_rfl⟩
theorem make22 (f : Nat → Value) (n : Nat) (hn : n ≤ 1048576) (w : World) : (Instr.makeSlice 22 (.int .i64 ((n : Int) + 64)) (.int .i64 ((n : Int) + 64))).run Tryz.prog w = .ok (.slice (some ⟨w.heap.size, 0, none⟩) (n + 64) (n + 64)) (w.alloc (.cells (wcur f (fun _ => .int .u32 0) (n + 64) 0) 63)) := by
  obtain ⟨i, hi, hz, hs, hb⟩ := info45
  have h := run_makeSlice (P := Tryz.prog) w 22 63 i _ Tryz.underlying22 hi hz .i64 .i64 ((n : Int) + 64) ((n : Int) + 64) (by omega) (by omega) (by rw [hs]; omega) (by rw [hb]; omega) (by omega)
  rw [hs, Nat.mul_one, show ((n : Int) + 64).toNat = n + 64 by omega] at h
  rw [h, ← made_wcur f (.int .u32 0) (n + 64)]
  rfl
theorem info2 : ∃ i, Tryz.prog.info? 2 = some i ∧ i.zero = some (.int .i64 0) ∧ i.size = 1 ∧ i.bytes = 8 :=
  ⟨(Tryz.prog.info? 2).get (by kernel_rfl), by kernel_rfl, by kernel_rfl, by kernel_rfl, by kernel_rfl⟩
theorem make23 (f : Nat → Value) (n : Nat) (hn : n ≤ 1048576) (w : World) : (Instr.makeSlice 29 (.int .i64 ((n : Int) + 64)) (.int .i64 ((n : Int) + 64))).run Tryz.prog w = .ok (.slice (some ⟨w.heap.size, 0, none⟩) (n + 64) (n + 64)) (w.alloc (.cells (wcur f (fun _ => .int .i64 0) (n + 64) 0) 2)) := by
  obtain ⟨i, hi, hz, hs, hb⟩ := info2
  have h := run_makeSlice (P := Tryz.prog) w 29 2 i _ Tryz.underlying29 hi hz .i64 .i64 ((n : Int) + 64) ((n : Int) + 64) (by omega) (by omega) (by rw [hs]; omega) (by rw [hb]; omega) (by omega)
  rw [hs, Nat.mul_one, show ((n : Int) + 64).toNat = n + 64 by omega] at h
  rw [h, ← made_wcur f (.int .i64 0) (n + 64)]
  rfl





end Go.Proofs.YtmlhnnmelopleaaGreatDoor
