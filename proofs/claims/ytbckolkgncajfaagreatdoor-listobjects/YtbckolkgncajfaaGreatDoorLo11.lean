/-
  The closure of wordsOf: one more field is told, or none. The small functions of package isa, each by what it returns; conditions: an op is an int8's number.
-/
import Derived.Test.YtbckolkgncajfaaGreatDoorProg
import Derived.WalkKit
import Derived.WalkSpells
import Derived.WalkLawsBesides
import Derived.RowKit3
import Derived.Below
import Derived.Deep.QuietTactic
import Derived.BigQuiet
import Derived.WalkSmall
import Derived.Laws.Rows
import Derived.Test.YtbckolkgncajfaaGreatDoorLo08
import Derived.Test.YtbckolkgncajfaaGreatDoorLo10
import Derived.Deep.AppendLies
import Derived.Deep.DeepCutAuto
import Derived.Deep.RegionWith
import Derived.Laws.OwnMore
import Derived.Test.YtbckolkgncajfaaGreatDoorLo04
import Derived.Laws.BitsAllLaws
namespace Go.Proofs.YtbckolkgncajfaaGreatDoor
open Go.RowKit

theorem info9 : ∃ i, Tryz.prog.info? 9 = some i ∧ i.zero = some (.string ⟨#[]⟩) ∧ i.size = 1 ∧ i.bytes = 16 :=
  ⟨(Tryz.prog.info? 9).get (by kernel_rfl), by kernel_rfl, by kernel_rfl, by kernel_rfl, by kernel_rfl⟩
/-- A variable's box that holds a row of texts of its own. -/
def Tl (w : World) (B c : Nat) (ws : List ByteArray) : Prop := ∃ v, w.heap[c]? = some (.cells #[v] 25 (0, 0)) ∧ w.ownsRow B 9 1 v ws.length (ws.map Value.string)
theorem Tl.keep {w w1 : World} {B c : Nat} {ws : List ByteArray} (h : Tl w B c ws) (hb : Below w.heap.size w w1) : Tl w1 B c ws := by
  obtain ⟨v, hv, ho⟩ := h
  exact ⟨v, by rw [hb.block c (Array.getElem?_eq_some_iff.1 hv).1]; exact hv, own_keep ho hb⟩
theorem box1 {w : World} {c : Nat} {v : Value} {t : TypeId} (h : w.heap[c]? = some (.cells #[v] t (0, 0))) : w.cell? ⟨c, 0, none⟩ = some v ∧ w.frozen? ⟨c, 0, none⟩ = false := by
  constructor
  · simp [World.cell?, h]
  · simp [World.frozen?, h]
/-- The row grown, and put into the box. -/
theorem Tl.put {w w1 : World} {B c : Nat} {v v' : Value} {ws ws' : List ByteArray} (hv : w.heap[c]? = some (.cells #[v] 25 (0, 0))) (ho : w.ownsRow B 9 1 v ws.length (ws.map Value.string)) (hs : w.grownBy w1 v.ownBlock) (ho' : w1.ownsRow B 9 1 v' ws'.length (ws'.map Value.string)) :
    w1.heap[c]? = some (.cells #[v] 25 (0, 0)) ∧ Tl (w1.setCell ⟨c, 0, none⟩ v') B c ws' ∧ To 9 B c w (w1.setCell ⟨c, 0, none⟩ v') := by
  have hne : v.ownBlock ≠ some c := Lib.ownBlock_ne ho hv (by decide)
  have h1 : w1.heap[c]? = some (.cells #[v] 25 (0, 0)) := by
    rw [hs.block c (Array.getElem?_eq_some_iff.1 hv).1 (fun e => hne e.symm)]; exact hv
  refine ⟨h1, ⟨v', ?_, ownsRow_set ho' (Lib.ownBlock_ne ho' h1 (by decide)) _⟩, ⟨hs.os, hs.tape, hs.output, by simpa [go_sem] using hs.size, fun k hk hg hr => (Below.heap_setCell _ _ _ _ hg).trans (hs.block k hk fun e => ?_)⟩⟩
  · simp [World.setCell, Array.getElem?_modify, h1]
  · have hl := ho.lt k e.symm
    rcases hr with hr | hr
    · omega
    · obtain ⟨cur, hc⟩ := own_block ho e.symm
      exact hr _ _ hc
theorem tell_no (f : Int) (c : Nat) (w : World) : Calls Tryz.prog 68 #[.bool false, .int .i64 f, .pointer (some ⟨c, 0, none⟩)] w fun e w' => e = .returned (.tuple #[]) ∧ w' = w := by
  go_enter Tryz.func68, Tryz.ntmps68
  go_wp2
  go_end0
  exact ⟨rfl, rfl⟩
set_option maxHeartbeats 2000000 in
set_option maxRecDepth 100000 in
theorem tell_yes (B c : Nat) (ws : List ByteArray) (f : Int) (hf : In64 f) (w : World) (ht : Tab w) (h : Tl w B c ws) (hB : B ≤ w.heap.size) (hn : ws.length ≤ 10) :
    Calls Tryz.prog 68 #[.bool true, .int .i64 f, .pointer (some ⟨c, 0, none⟩)] w fun e w' => e = .returned (.tuple #[]) ∧ Tl w' B c (ws ++ [numB f]) ∧ To 9 B c w w' := by
  obtain ⟨i0, hi, hz0, hz1, hz2⟩ := info9
  obtain ⟨v, hv, ho⟩ := h
  obtain ⟨A0, n0, k0, rfl⟩ := slice_form ho
  have HV : Hid (w.heap[c]? = some (.cells #[.slice A0 n0 k0] 25 (0, 0))) := hv
  have HO : Hid (w.ownsRow B 9 1 (.slice A0 n0 k0) ws.length (ws.map Value.string)) := ho
  have hcw : c < w.heap.size := (Array.getElem?_eq_some_iff.1 hv).1
  have cA := (box1 hv).1
  have C := lnum_any f hf w.drew (Tab.below ht (Below.drew (Below.refl _ _)))
  clear hv ho ht hf
  go_enter Tryz.func68, Tryz.ntmps68
  go_upto_region 1 with fail
  go_region_law
    (first
      | (revert HO2; intro HO2; refine step_append_lies _ rfl (.tmp 6) (.tmp 9) 25 rfl B 9 i0 (.string ⟨#[]⟩) 1 16 Tryz.underlying25 hi hz0 hz1 hz2 rfl (by decide) (.slice A0 n0 k0) ws.length (ws.map Value.string) rfl HO2.out ⟨wd.heap.size, 0, none⟩ 1 1 [.string (numB f)] rfl rfl (fun j u hu => World.news_of_block HNw.out j u hu) (by simp [Value.oneCell']) (by omega) (by unfold maxLen; omega) (by omega) (by have := HSz.out; simp; omega) (wd.heap.size + 1) (by simp) ?_; intro g3 cap3 we hown hgrow hlie hlt3; have HP : Hid (we.heap[c]? = some (.cells #[.slice A0 n0 k0] 25 (0, 0)) ∧ Tl (we.setCell ⟨c, 0, none⟩ (.slice (some ⟨g3, 0, none⟩) (ws.length + 1) cap3)) B c (ws ++ [numB f]) ∧ To 9 B c (wd.alloc (.cells #[.string (numB f)] 9)) (we.setCell ⟨c, 0, none⟩ (.slice (some ⟨g3, 0, none⟩) (ws.length + 1) cap3))) := Tl.put HV2.out HO2.out hgrow (by rw [List.length_append, List.map_append]; exact hown); obtain ⟨cE, fE⟩ := box1 HP.out.1; clear hown hgrow hlie hlt3)
      | (go_simp; go_at_call 67; refine C.mono ?_; rintro r wd ⟨rfl, hb⟩; have HBd : Hid (Below w.heap.size w (wd.alloc (.cells #[.string (numB f)] 9))) := lb_alloc (lb_trans (Below.drew (Below.refl _ _)) hb) _; have HV2 : Hid ((wd.alloc (.cells #[.string (numB f)] 9)).heap[c]? = some (.cells #[.slice A0 n0 k0] 25 (0, 0))) := (HBd.out.block c hcw).trans HV.out; have HO2 : Hid ((wd.alloc (.cells #[.string (numB f)] 9)).ownsRow B 9 1 (.slice A0 n0 k0) ws.length (ws.map Value.string)) := own_keep HO.out HBd.out; have HSz : Hid (w.heap.size ≤ wd.heap.size) := hb.size; have HNw : Hid ((wd.alloc (.cells #[.string (numB f)] 9)).heap[wd.heap.size]? = some (.cells #[.string (numB f)] 9 (0, 0))) := heap_alloc_new _ _; have cD := (box1 ((hb.block c hcw).trans HV.out)).1; have cE0 := (box1 HV2.out).1; clear hb))
  all_goals (
    go_wp2
    go_end0
    exact ⟨rfl, HP.out.2.1, (To.of HBd.out).trans HP.out.2.2⟩)

end Go.Proofs.YtbckolkgncajfaaGreatDoor

namespace Go.Proofs.YtbckolkgncajfaaGreatDoor
open Go.RowKit

theorem known_any (op : Int) (h8 : op ≤ 127) (w : World) : Calls Tryz.prog 95 #[.int .i8 op] w fun e w' => e = .returned (.bool (decide (0 ≤ op ∧ op ≤ 21))) ∧ w' = w := by
  by_cases h : op < 0
  · rw [show decide (0 ≤ op ∧ op ≤ 21) = false from decide_eq_false (by omega)]
    go_enter Tryz.func95, Tryz.ntmps95
    go_wp2
    go_ret
    exact ⟨rfl, rfl⟩
  by_cases h2 : op < 22
  · rw [show decide (0 ≤ op ∧ op ≤ 21) = true from decide_eq_true (by omega)]
    go_enter Tryz.func95, Tryz.ntmps95
    go_wp2
    go_ret
    exact ⟨by first | rfl | (simp [h2]; done), rfl⟩
  · rw [show decide (0 ≤ op ∧ op ≤ 21) = false from decide_eq_false (by omega)]
    go_enter Tryz.func95, Tryz.ntmps95
    go_wp2
    go_ret
    exact ⟨by first | rfl | (simp [h2]; done), rfl⟩

/-- The fields of the ops, as bits. -/
def shL : List Int := [0, 9, 3, 7, 7, 7, 7, 7, 7, 7, 7, 11, 14, 1, 10, 24, 26, 24, 2, 2, 25, 0]
def sh (op : Int) : Int := shL.getD op.toNat 0

theorem fhas_any (f o : Int) (w : World) : Calls Tryz.prog 97 #[.int .u8 f, .int .u8 o] w fun e w' => e = .returned (.bool (bits .and .u8 f o != 0)) ∧ w' = w := by
  go_enter Tryz.func97, Tryz.ntmps97
  go_wp2
  go_ret
  exact ⟨rfl, rfl⟩

theorem signed_any (n : Int) (h0 : 0 ≤ n) (h1 : n < 4294967296) (w : World) : Calls Tryz.prog 93 #[.int .u32 n] w fun e w' => e = .returned (.int .i64 (if 16383 < n then n - 32768 else n)) ∧ w' = w := by
  by_cases h : 16383 < n
  · rw [if_pos h]
    go_enter Tryz.func93, Tryz.ntmps93
    go_wp2
    go_ret
    exact ⟨rfl, rfl⟩
  · rw [if_neg h]
    go_enter Tryz.func93, Tryz.ntmps93
    go_wp2
    go_ret
    exact ⟨rfl, rfl⟩

theorem fregister_any (f o r : Int) (h : Bool) (hh : (bits .and .u8 f o != 0) = h) (w : World) : Calls Tryz.prog 132 #[.int .u8 f, .int .u8 o, .int .i8 r] w fun e w' => e = .returned (.bool (regOK h r)) ∧ w' = w := by
  have C : ∀ wx : World, Calls Tryz.prog 97 #[.int .u8 f, .int .u8 o] wx fun e w' => e = .returned (.bool h) ∧ w' = wx := fun wx => by
    have k := fhas_any f o wx
    rw [hh] at k; exact k
  clear hh
  unfold regOK
  cases h
  · go_enter Tryz.func132, Tryz.ntmps132
    go_wp2_with (go_at_call 97; refine (C _).mono ?_; rintro e w1 ⟨rfl, rfl⟩)
    go_ret
    exact ⟨by first | rfl | (simp; done) | (simp; omega), rfl⟩
  · by_cases h1 : 0 ≤ r
    · go_enter Tryz.func132, Tryz.ntmps132
      go_wp2_with (go_at_call 97; refine (C _).mono ?_; rintro e w1 ⟨rfl, rfl⟩)
      go_ret
      exact ⟨by first | rfl | (simp; done) | (simp; omega), rfl⟩
    · go_enter Tryz.func132, Tryz.ntmps132
      go_wp2_with (go_at_call 97; refine (C _).mono ?_; rintro e w1 ⟨rfl, rfl⟩)
      go_ret
      exact ⟨by first | rfl | (simp; done) | (simp; omega), rfl⟩

def loN (n p : Bool) : Int := if p then 0 else if n then -16384 else 0
def hiN (n p : Bool) : Int := if p then 16383 else if n then 16383 else 0

theorem frange_any (f : Int) (n p : Bool) (hn : (bits .and .u8 f 8 != 0) = n) (hp : (bits .and .u8 f 16 != 0) = p) (w : World) : Calls Tryz.prog 131 #[.int .u8 f] w fun e w' => e = .returned (.tuple #[.int .i64 (loN n p), .int .i64 (hiN n p)]) ∧ w' = w := by
  have C1 : ∀ wx : World, Calls Tryz.prog 97 #[.int .u8 f, .int .u8 8] wx fun e w' => e = .returned (.bool n) ∧ w' = wx := fun wx => by
    have k := fhas_any f 8 wx
    rw [hn] at k; exact k
  have C2 : ∀ wx : World, Calls Tryz.prog 97 #[.int .u8 f, .int .u8 16] wx fun e w' => e = .returned (.bool p) ∧ w' = wx := fun wx => by
    have k := fhas_any f 16 wx
    rw [hp] at k; exact k
  clear hn hp
  unfold loN hiN
  cases p
  · cases n
    · go_enter Tryz.func131, Tryz.ntmps131
      go_wp2_with fail
      refine (C2 _).mono ?_
      rintro e w1 ⟨rfl, rfl⟩
      go_wp2_with fail
      refine (C1 _).mono ?_
      rintro e w1 ⟨rfl, rfl⟩
      go_wp2
      go_ret2
      exact ⟨rfl, rfl⟩
    · go_enter Tryz.func131, Tryz.ntmps131
      go_wp2_with fail
      refine (C2 _).mono ?_
      rintro e w1 ⟨rfl, rfl⟩
      go_wp2_with fail
      refine (C1 _).mono ?_
      rintro e w1 ⟨rfl, rfl⟩
      go_wp2
      go_ret2
      exact ⟨rfl, rfl⟩
  · go_enter Tryz.func131, Tryz.ntmps131
    go_wp2_with fail
    refine (C2 _).mono ?_
    rintro e w1 ⟨rfl, rfl⟩
    go_wp2
    go_ret2
    exact ⟨rfl, rfl⟩

theorem sh_bits (op : Int) (h0 : 0 ≤ op) (h1 : op ≤ 21) : (bits .and .u8 (sh op) 1 != 0) = hD op ∧ (bits .and .u8 (sh op) 2 != 0) = hA op ∧ (bits .and .u8 (sh op) 4 != 0) = hB op ∧ (bits .and .u8 (sh op) 8 != 0) = hN op ∧ (bits .and .u8 (sh op) 16 != 0) = hP op := by
  have h : ∀ k : Fin 22, (bits .and .u8 (sh (k.val : Int)) 1 != 0) = hD k.val ∧ (bits .and .u8 (sh (k.val : Int)) 2 != 0) = hA k.val ∧ (bits .and .u8 (sh (k.val : Int)) 4 != 0) = hB k.val ∧ (bits .and .u8 (sh (k.val : Int)) 8 != 0) = hN k.val ∧ (bits .and .u8 (sh (k.val : Int)) 16 != 0) = hP k.val := by decide +kernel
  have k := h ⟨op.toNat, by omega⟩
  simp only [Int.toNat_of_nonneg h0] at k
  exact k

theorem num_lohi (n p : Bool) (hpn : p = true → n = true) (x : Int) : (decide (loN n p ≤ x) && decide (x ≤ hiN n p)) = numOK n p x := by
  unfold loN hiN numOK
  cases n <;> cases p <;> simp at hpn ⊢ <;> (rw [Bool.eq_iff_iff]; simp; omega)

theorem hP_hN (op : Int) : hP op = true → hN op = true := by
  unfold hP hN; simp; omega




end Go.Proofs.YtbckolkgncajfaaGreatDoor
