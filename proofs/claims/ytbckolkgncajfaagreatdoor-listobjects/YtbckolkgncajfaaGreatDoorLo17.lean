/-
  Name of package isa, for every op that is an int8's number, where the names lie as listed. wordsOf of package list: what stands on the line of a word.
-/
import Derived.Test.YtbckolkgncajfaaGreatDoorLo05
import Derived.Test.YtbckolkgncajfaaGreatDoorLo11
import Derived.Test.YtbckolkgncajfaaGreatDoorProg
import Derived.WalkKit
import Derived.WalkSpells
import Derived.WalkLawsBesides
import Derived.RowKit3
import Derived.Below
import Derived.Deep.QuietTactic
import Derived.BigQuiet
import Derived.WalkSmall
import Derived.Laws.Rows
import Derived.Test.YtbckolkgncajfaaGreatDoorLo16
import Derived.Test.YtbckolkgncajfaaGreatDoorLo10
namespace Go.Proofs.YtbckolkgncajfaaGreatDoor
open Go.RowKit


set_option maxRecDepth 100000 in
theorem isaname_any (op : Int) (h8 : op ≤ 127) (w : World) (hn : Nm w) : Calls Tryz.prog 66 #[.int .i8 op] w fun e w' => e = .returned (.string (nameB op)) ∧ Below w.heap.size w w' := by
  have CK := known_any op h8
  by_cases hr : 0 ≤ op ∧ op ≤ 21
  · rw [decide_eq_true hr] at CK
    have hc := hn.cell op hr.1 hr.2
    obtain ⟨h0, h1⟩ := hr
    clear hn
    go_enter Tryz.func66, Tryz.ntmps66
    go_wp2_with fail
    refine (CK _).mono ?_
    rintro e w1 ⟨rfl, rfl⟩
    go_wp2
    go_ret
    exact ⟨rfl, Below.refl _ _⟩
  · rw [decide_eq_false hr] at CK
    have HN : Hid (nameB op = ⟨#[]⟩) := name_out (by omega)
    clear hn
    go_enter Tryz.func66, Tryz.ntmps66
    go_wp2_with fail
    refine (CK _).mono ?_
    rintro e w1 ⟨rfl, rfl⟩
    go_wp2
    go_ret
    exact ⟨by rw [HN.out]; rfl, Below.refl _ _⟩


end Go.Proofs.YtbckolkgncajfaaGreatDoor

namespace Go.Proofs.YtbckolkgncajfaaGreatDoor
open Go.RowKit

theorem tell_any (h : Bool) (B c : Nat) (ws : List ByteArray) (f : Int) (hf : In64 f) (w : World) (ht : Tab w) (hw : Tl w B c ws) (hB : B ≤ w.heap.size) (hn : ws.length ≤ 10) :
    Calls Tryz.prog 68 #[.bool h, .int .i64 f, .pointer (some ⟨c, 0, none⟩)] w fun e w' => e = .returned (.tuple #[]) ∧ Tl w' B c (ws ++ (if h then [numB f] else [])) ∧ To 9 B c w w' := by
  cases h with
  | false =>
    refine (tell_no f c w).mono ?_
    rintro e w' ⟨rfl, rfl⟩
    exact ⟨rfl, by simpa using hw, To.refl⟩
  | true => exact tell_yes B c ws f hf w ht hw hB hn
/-- Texts laid out anew. -/
theorem new_strs (w : World) (ps : List ByteArray) (h : ps.length ≤ 1048576) : (w.alloc (.cells (ps.map Value.string).toArray 9)).ownsRow w.heap.size 9 1 (.slice (some ⟨w.heap.size, 0, none⟩) ps.length ps.length) ps.length (ps.map Value.string) := by
  refine ⟨by simp, Or.inr ⟨w.heap.size, ps.length, (ps.map Value.string).toArray, rfl, Nat.le_refl _, heap_alloc_new _ _, Nat.le_refl _, by unfold maxLen; omega, by simp, ?_⟩⟩
  simp only [Nat.mul_one]
  rw [show ps.length = (ps.map Value.string).length by simp]
  exact List.take_length
/-- Texts that were made. -/
def WrP (B : Nat) (ps : List ByteArray) (w : World) (e : Ending) (w' : World) : Prop := ∃ A c, e = .returned (.slice A ps.length c) ∧ w'.ownsRow B 9 1 (.slice A ps.length c) ps.length (ps.map Value.string) ∧ Below B w w'
theorem own_base {w : World} {b b' t n size : Nat} {v : Value} {xs : List Value} (h : w.ownsRow b t size v n xs) (hb : b' ≤ b) : w.ownsRow b' t size v n xs := by
  rcases h.2 with ⟨rfl, h0⟩ | ⟨j, cap, cur, rfl, h1, h2⟩
  · exact ⟨h.1, .inl ⟨rfl, h0⟩⟩
  · exact ⟨h.1, .inr ⟨j, cap, cur, rfl, Nat.le_trans hb h1, h2⟩⟩
theorem box5_cell {w : World} {B : Nat} {x y z u v : Value} {t : TypeId} (h : w.heap[B]? = some (.cells #[x, y, z, u, v] t (0, 0))) : w.cell? ⟨B, 0, none⟩ = some x ∧ w.cell? ⟨B, 1, none⟩ = some y ∧ w.cell? ⟨B, 2, none⟩ = some z ∧ w.cell? ⟨B, 3, none⟩ = some u ∧ w.cell? ⟨B, 4, none⟩ = some v := by
  refine ⟨?_, ?_, ?_, ?_, ?_⟩ <;> simp [World.cell?, h]
theorem Nm.below' {w w1 : World} (h : Nm w) (hb : Below w.heap.size w w1) : Nm w1 := h.below hb
set_option maxHeartbeats 2000000 in
set_option maxRecDepth 100000 in
theorem words_no (v : Int) (h0 : 0 ≤ v) (h1 : v < 4294967296) (hI : isIns v = false) (w : World) (ht : Tab w) (hn : Nm w) : Calls Tryz.prog 27 #[.int .u32 v] w (WrP w.heap.size (wordsL v) w) := by
  have HW : Hid (wordsL v = [wordB, numB v]) := by unfold Hid wordsL; rw [if_neg (by simp [hI])]
  have CD := isadecode_any v h0 h1 w
  rw [dOp_no hI, dN_no hI] at CD
  have HT : Hid (Tab w) := ht
  have HN : Hid (Nm w) := hn
  clear ht hn hI
  go_enter Tryz.func27, Tryz.ntmps27
  go_wp2_with fail
  refine CD.mono ?_
  rintro e w1 ⟨rfl, hb1⟩
  have HB2 : Hid (Below w.heap.size w (w1.alloc (.cells #[.int .i8 (-1), .int .i8 (dD v), .int .i8 (dA v), .int .i8 (dB v), .int .i64 v] 95))) := lb_alloc hb1 _
  have hx : (w1.alloc (.cells #[.int .i8 (-1), .int .i8 (dD v), .int .i8 (dA v), .int .i8 (dB v), .int .i64 v] 95)).heap[w1.heap.size]? = some (.cells #[.int .i8 (-1), .int .i8 (dD v), .int .i8 (dA v), .int .i8 (dB v), .int .i64 v] 95 (0, 0)) := heap_alloc_new _ _
  have CN := isaname_any (-1) (by omega) _ (HN.out.below HB2.out)
  rw [name_out (Or.inl (by omega))] at CN
  have HX : Hid _ := hx
  clear CD hx hb1
  go_wp2_with fail
  refine CN.mono ?_
  rintro e w2 ⟨rfl, hb2⟩
  have HX2 : Hid _ := (hb2.block w1.heap.size (by simp)).trans HX.out
  have HB3 : Hid (Below w.heap.size w w2) := lb_trans HB2.out hb2
  obtain ⟨d0, d1, d2, d3, d4⟩ := box5_cell HX2.out
  have CM := lnum_any v ⟨by omega, by omega⟩ w2 (HT.out.below HB3.out)
  clear CN hb2
  go_wp2_with fail
  refine CM.mono ?_
  rintro e w3 ⟨rfl, hb3⟩
  have HB4 : Hid (Below w.heap.size w w3) := lb_trans HB3.out hb3
  clear hb3 CM d0 d1 d2 d3 d4
  go_wp2
  go_ret
  refine ⟨some ⟨w3.heap.size, 0, none⟩, 2, ?_, ?_, lb_alloc HB4.out _⟩
  · rw [HW.out]; rfl
  · rw [HW.out]
    exact own_base (new_strs w3 [wordB, numB v] (by simp)) HB4.out.size

theorem Tl.bx {w w1 : World} {B c b : Nat} {xs : Array Value} (k : To 9 B c w w1) (h : w.heap[b]? = some (.cells xs 95 (0, 0))) (hne : b ≠ c) : w1.heap[b]? = some (.cells xs 95 (0, 0)) := k.box h (by decide) hne
theorem name_ne {op : Int} (h0 : 0 ≤ op) (h1 : op ≤ 21) : (nameB op).data.toList ≠ [] := by
  have : ∀ i : Fin 22, (nameB (i.val : Int)).data.toList ≠ [] := by decide +kernel
  have h := this ⟨op.toNat, by omega⟩
  rwa [show ((⟨op.toNat, by omega⟩ : Fin 22).val : Int) = op by simp; omega] at h
theorem name_len {op : Int} : (nameB op).size ≤ 8 := by
  by_cases h : op < 0 ∨ 21 < op
  · rw [name_out h]; decide
  · have : ∀ i : Fin 22, (nameB (i.val : Int)).size ≤ 8 := by decide +kernel
    have h2 := this ⟨op.toNat, by omega⟩
    rwa [show ((⟨op.toNat, by omega⟩ : Fin 22).val : Int) = op by simp; omega] at h2
set_option maxHeartbeats 4000000 in
set_option maxRecDepth 100000 in
theorem words_yes (v : Int) (h0 : 0 ≤ v) (h1 : v < 4294967296) (hI : isIns v = true) (w : World) (ht : Tab w) (hn : Nm w) : Calls Tryz.prog 27 #[.int .u32 v] w (WrP w.heap.size (wordsL v) w) := by
  obtain ⟨hop0, hop1⟩ := dOp_yes hI h0
  obtain ⟨⟨hd0, hd1⟩, ⟨ha0, ha1⟩, ⟨hb0, hb1'⟩, hn0, hn1⟩ := d_in h0 h1
  have HW : Hid (wordsL v = [nameB (dOp v)] ++ (if hD (dOp v) then [numB (dD v)] else []) ++ (if hA (dOp v) then [numB (dA v)] else []) ++ (if hB (dOp v) then [numB (dB v)] else []) ++ (if hN (dOp v) then [numB (dN v)] else [])) := by
    unfold Hid wordsL fieldsL nL; rw [if_pos hI]; simp
  have CD := isadecode_any v h0 h1 w
  have HT : Hid (Tab w) := ht
  have HN : Hid (Nm w) := hn
  have CNm := fun wx (hb : Below w.heap.size w wx) => isaname_any (dOp v) (by omega) wx (HN.out.below hb)
  have CH := fun wx => isahas_any (dOp v) (by omega) wx
  have hq : ((nameB (dOp v)).toList == []) = false := by
    rw [ByteArray.toList_eq]; simpa using name_ne hop0 hop1
  have HI1 : Hid (In64 (dD v)) := ⟨by omega, by omega⟩
  have HI2 : Hid (In64 (dA v)) := ⟨by omega, by omega⟩
  have HI3 : Hid (In64 (dB v)) := ⟨by omega, by omega⟩
  have HI4 : Hid (In64 (dN v)) := ⟨by omega, by omega⟩
  clear ht hn hI hop0 hop1
  generalize nameB (dOp v) = nm at *
  generalize hD (dOp v) = b1 at *
  generalize hA (dOp v) = b2 at *
  generalize hB (dOp v) = b3 at *
  generalize hN (dOp v) = b4 at *
  generalize hP (dOp v) = b5 at *
  generalize dOp v = op at *
  generalize dD v = fd at *
  generalize dA v = fa at *
  generalize dB v = fb at *
  generalize dN v = fn at *
  go_enter Tryz.func27, Tryz.ntmps27
  go_wp2_with fail
  refine CD.mono ?_
  rintro e w1 ⟨rfl, hb1⟩
  have HB2 : Hid (Below w.heap.size w (w1.alloc (.cells #[.int .i8 op, .int .i8 fd, .int .i8 fa, .int .i8 fb, .int .i64 fn] 95))) := lb_alloc hb1 _
  have HS1 : Hid (w.heap.size ≤ w1.heap.size) := hb1.size
  have HX : Hid ((w1.alloc (.cells #[.int .i8 op, .int .i8 fd, .int .i8 fa, .int .i8 fb, .int .i64 fn] 95)).heap[w1.heap.size]? = some (.cells #[.int .i8 op, .int .i8 fd, .int .i8 fa, .int .i8 fb, .int .i64 fn] 95 (0, 0))) := heap_alloc_new _ _
  clear CD hb1
  go_wp2_with fail
  refine (CNm _ HB2.out).mono ?_
  rintro e w2 ⟨rfl, hb2⟩
  have HX2 : Hid _ := (hb2.block w1.heap.size (by simp)).trans HX.out
  have HB3 : Hid (Below w.heap.size w w2) := lb_trans HB2.out hb2
  have HS2 : Hid (w1.heap.size < w2.heap.size) := by have := hb2.size; simp at this; unfold Hid; omega
  obtain ⟨d0, d1, d2, d3, d4⟩ := box5_cell HX2.out
  clear hb2
  go_wp2_with fail
  refine (CNm _ HB3.out).mono ?_
  rintro e w3 ⟨rfl, hb3⟩
  have HX3 : Hid _ := (hb3.block w1.heap.size HS2.out).trans HX2.out
  have HB4 : Hid (Below w.heap.size w w3) := lb_trans HB3.out hb3
  have HS3 : Hid (w1.heap.size < w3.heap.size) := by have := hb3.size; have := HS2.out; unfold Hid; omega
  clear hb3 d0 d1 d2 d3 d4
  have HB5 : Hid (Below w.heap.size w ((w3.alloc (.cells #[.string nm] 9)).alloc (.cells #[.slice (some ⟨w3.heap.size, 0, none⟩) 1 1] 25))) := lb_alloc (lb_alloc HB4.out _) _
  have HB45 : Hid (Below w3.heap.size w3 ((w3.alloc (.cells #[.string nm] 9)).alloc (.cells #[.slice (some ⟨w3.heap.size, 0, none⟩) 1 1] 25))) := lb_alloc (lb_alloc (Below.refl _ _) _) _
  have HX5 : Hid _ := (HB45.out.block w1.heap.size HS3.out).trans HX3.out
  have HT5 : Hid (Tl ((w3.alloc (.cells #[.string nm] 9)).alloc (.cells #[.slice (some ⟨w3.heap.size, 0, none⟩) 1 1] 25)) w.heap.size (w3.heap.size + 1) [nm]) :=
    ⟨_, by have := heap_alloc_new (w3.alloc (.cells #[.string nm] 9)) (.cells #[.slice (some ⟨w3.heap.size, 0, none⟩) 1 1] 25); simpa using this, own_keep (own_base (new_strs w3 [nm] (by simp)) HB4.out.size) (lb_alloc (Below.refl _ _) _)⟩
  obtain ⟨d0, d1, d2, d3, d4⟩ := box5_cell HX5.out
  go_wp2_with fail
  refine (CH _).mono ?_
  rintro e w4 ⟨rfl, hb4⟩
  have HB6 : Hid (Below w.heap.size w w4) := lb_trans HB5.out hb4
  have HX6 : Hid _ := (hb4.block w1.heap.size (by have := HS3.out; simp; omega)).trans HX5.out
  have HT6 : Hid (Tl w4 w.heap.size (w3.heap.size + 1) [nm]) := HT5.out.keep hb4
  have HS6 : Hid (w3.heap.size + 1 < w4.heap.size) := by have := hb4.size; simp at this; unfold Hid; omega
  clear hb4 d0 d1 d2 d3 d4 CNm CH HX HX2 HX3 HX5 HT5 HB5 HB45
  obtain ⟨d0, d1, d2, d3, d4⟩ := box5_cell HX6.out
  have hL0 : [nm].length ≤ 1 := by simp
  have CT := tell_any b1 w.heap.size (w3.heap.size + 1) [nm] fd HI1.out w4 (HT.out.below HB6.out) HT6.out HB6.out.size (by omega)
  clear hL0
  go_wp2_with fail
  refine CT.mono ?_
  rintro e w5 ⟨rfl, t0, k0⟩
  have HBt0 : Hid (Below w.heap.size w w5) := HB6.out.trans (k0.below (Nat.le_refl _) (by have := HB4.out.size; omega) HB6.out.size)
  have HXt0 : Hid _ := Tl.bx k0 HX6.out (by have := HS3.out; omega)
  have HTt0 : Hid (Tl w5 w.heap.size (w3.heap.size + 1) ([nm] ++ (if b1 then [numB fd] else []))) := t0
  clear t0 k0 CT d0 d1 d2 d3 d4 HX6 HT6
  obtain ⟨d0, d1, d2, d3, d4⟩ := box5_cell HXt0.out
  have hL1 : ([nm] ++ (if b1 then [numB fd] else [])).length ≤ 2 := by cases b1 <;> simp
  have CT := tell_any b2 w.heap.size (w3.heap.size + 1) ([nm] ++ (if b1 then [numB fd] else [])) fa HI2.out w5 (HT.out.below HBt0.out) HTt0.out HBt0.out.size (by omega)
  clear hL1
  go_wp2_with fail
  refine CT.mono ?_
  rintro e w6 ⟨rfl, t1, k1⟩
  have HBt1 : Hid (Below w.heap.size w w6) := HBt0.out.trans (k1.below (Nat.le_refl _) (by have := HB4.out.size; omega) HBt0.out.size)
  have HXt1 : Hid _ := Tl.bx k1 HXt0.out (by have := HS3.out; omega)
  have HTt1 : Hid (Tl w6 w.heap.size (w3.heap.size + 1) (([nm] ++ (if b1 then [numB fd] else [])) ++ (if b2 then [numB fa] else []))) := t1
  clear t1 k1 CT d0 d1 d2 d3 d4 HXt0 HTt0
  obtain ⟨d0, d1, d2, d3, d4⟩ := box5_cell HXt1.out
  have hL2 : (([nm] ++ (if b1 then [numB fd] else [])) ++ (if b2 then [numB fa] else [])).length ≤ 3 := by cases b1 <;> cases b2 <;> simp
  have CT := tell_any b3 w.heap.size (w3.heap.size + 1) (([nm] ++ (if b1 then [numB fd] else [])) ++ (if b2 then [numB fa] else [])) fb HI3.out w6 (HT.out.below HBt1.out) HTt1.out HBt1.out.size (by omega)
  clear hL2
  go_wp2_with fail
  refine CT.mono ?_
  rintro e w7 ⟨rfl, t2, k2⟩
  have HBt2 : Hid (Below w.heap.size w w7) := HBt1.out.trans (k2.below (Nat.le_refl _) (by have := HB4.out.size; omega) HBt1.out.size)
  have HXt2 : Hid _ := Tl.bx k2 HXt1.out (by have := HS3.out; omega)
  have HTt2 : Hid (Tl w7 w.heap.size (w3.heap.size + 1) ((([nm] ++ (if b1 then [numB fd] else [])) ++ (if b2 then [numB fa] else [])) ++ (if b3 then [numB fb] else []))) := t2
  clear t2 k2 CT d0 d1 d2 d3 d4 HXt1 HTt1
  obtain ⟨d0, d1, d2, d3, d4⟩ := box5_cell HXt2.out
  have hL3 : ((([nm] ++ (if b1 then [numB fd] else [])) ++ (if b2 then [numB fa] else [])) ++ (if b3 then [numB fb] else [])).length ≤ 4 := by cases b1 <;> cases b2 <;> cases b3 <;> simp
  have CT := tell_any b4 w.heap.size (w3.heap.size + 1) ((([nm] ++ (if b1 then [numB fd] else [])) ++ (if b2 then [numB fa] else [])) ++ (if b3 then [numB fb] else [])) fn HI4.out w7 (HT.out.below HBt2.out) HTt2.out HBt2.out.size (by omega)
  clear hL3
  go_wp2_with fail
  refine CT.mono ?_
  rintro e w8 ⟨rfl, t3, k3⟩
  have HBt3 : Hid (Below w.heap.size w w8) := HBt2.out.trans (k3.below (Nat.le_refl _) (by have := HB4.out.size; omega) HBt2.out.size)
  have HXt3 : Hid _ := Tl.bx k3 HXt2.out (by have := HS3.out; omega)
  have HTt3 : Hid (Tl w8 w.heap.size (w3.heap.size + 1) (((([nm] ++ (if b1 then [numB fd] else [])) ++ (if b2 then [numB fa] else [])) ++ (if b3 then [numB fb] else [])) ++ (if b4 then [numB fn] else []))) := t3
  clear t3 k3 CT d0 d1 d2 d3 d4 HXt2 HTt2
  obtain ⟨d0, d1, d2, d3, d4⟩ := box5_cell HXt3.out
  have HTw : Hid (Tl w8 w.heap.size (w3.heap.size + 1) (wordsL v)) := by unfold Hid; rw [HW.out]; exact HTt3.out
  clear d0 d1 d2 d3 d4 HXt3 HTt3 HW HI1 HI2 HI3 HI4
  obtain ⟨V, hV, hO⟩ := HTw.out
  have HO : Hid _ := hO
  obtain ⟨A, c, rfl, -⟩ := own_any hO
  obtain ⟨cv, -⟩ := box1 hV
  clear hO hV HTw
  go_wp2
  go_ret
  exact ⟨A, c, rfl, HO.out, HBt3.out⟩
theorem words_any (v : Int) (h0 : 0 ≤ v) (h1 : v < 4294967296) (w : World) (ht : Tab w) (hn : Nm w) : Calls Tryz.prog 27 #[.int .u32 v] w (WrP w.heap.size (wordsL v) w) := by
  cases h : isIns v with
  | true => exact words_yes v h0 h1 h w ht hn
  | false => exact words_no v h0 h1 h w ht hn

end Go.Proofs.YtbckolkgncajfaaGreatDoor
