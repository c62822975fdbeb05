/-
  The program writes a whole object into an output; what is written is at most 2^20 bytes. The document adds bytes up; they are at most 2^20. Which bytes a name of package object may hold: no condition. Package object: Name answers as the plain function does; no condition. The small functions of package object; no condition.
-/
import Derived.Test.YthfcimmfkibmjaaGreatDoorProg
import Derived.WalkKit
import Derived.WalkSpells
import Derived.WalkLawsBesides
import Derived.RowKit3
import Derived.Below
import Derived.Deep.QuietTactic
import Derived.BigQuiet
import Derived.WalkSmall
import Derived.Laws.Rows
import Derived.Test.YthfcimmfkibmjaaGreatDoorWd07
import Derived.Deep.DeepCutAuto
import Derived.Test.YthfcimmfkibmjaaGreatDoorWd02
import Derived.Test.YthfcimmfkibmjaaGreatDoorWd01
namespace Go.Proofs.YthfcimmfkibmjaaGreatDoor
open Go.RowKit


theorem box6_cell {w : World} {B : Nat} {x0 x1 x2 x3 x4 x5 : Value} {t : TypeId} (h : w.heap[B]? = some (.cells #[x0, x1, x2, x3, x4, x5] t (0, 0))) : w.cell? ⟨B, 0, none⟩ = some x0 ∧ w.cell? ⟨B, 1, none⟩ = some x1 ∧ w.cell? ⟨B, 2, none⟩ = some x2 ∧ w.cell? ⟨B, 3, none⟩ = some x3 ∧ w.cell? ⟨B, 4, none⟩ = some x4 ∧ w.cell? ⟨B, 5, none⟩ = some x5 := by
  refine ⟨?_, ?_, ?_, ?_, ?_, ?_⟩ <;> simp [World.cell?, h]
theorem be4_le (n : Int) : (be4 n).length = 4 := rfl
/-- An object's parts as bytes, one behind the other. -/
def part1 (nm : ByteArray) : List Int := [80, 76, 79, 49] ++ textB nm
def part2 (nm : ByteArray) (code : List Int) : List Int := part1 nm ++ (be4 code.length ++ code.flatMap be4)
def part3 (nm : ByteArray) (code : List Int) (dA : Int) : List Int := part2 nm code ++ be4 dA
def part4 (nm : ByteArray) (code : List Int) (dA : Int) (data : List Int) : List Int := part3 nm code dA ++ (be4 data.length ++ data.flatMap be8)
def part5 (nm : ByteArray) (code : List Int) (dA : Int) (data : List Int) (ss : List Sym) : List Int := part4 nm code dA data ++ (be4 ss.length ++ ss.flatMap symB)
def part6 (nm : ByteArray) (code : List Int) (dA : Int) (data : List Int) (ss : List Sym) (rs : List Rel) : List Int := part5 nm code dA data ss ++ (be4 rs.length ++ rs.flatMap relB)
theorem part6_body (nm : ByteArray) (code : List Int) (dA : Int) (data : List Int) (ss : List Sym) (rs : List Rel) : part6 nm code dA data ss rs = bodyB nm code dA data ss rs := by
  unfold part6 part5 part4 part3 part2 part1 bodyB
  simp only [List.append_assoc]
theorem part_lens (nm : ByteArray) (code : List Int) (dA : Int) (data : List Int) (ss : List Sym) (rs : List Rel) :
    (part1 nm).length = 8 + nm.size ∧ (part2 nm code).length = 12 + nm.size + code.length * 4 ∧ (part3 nm code dA).length = 16 + nm.size + code.length * 4 ∧ (part4 nm code dA data).length = 20 + nm.size + code.length * 4 + data.length * 8 ∧
    (part5 nm code dA data ss).length = 24 + nm.size + code.length * 4 + data.length * 8 + (ss.flatMap symB).length ∧ (bodyB nm code dA data ss rs).length = 28 + nm.size + code.length * 4 + data.length * 8 + (ss.flatMap symB).length + rs.length * 8 := by
  have h1 : (part1 nm).length = 8 + nm.size := by unfold part1 textB; simp [be4_len, strB_size]; omega
  have h2 : (part2 nm code).length = 12 + nm.size + code.length * 4 := by unfold part2; rw [List.length_append, List.length_append, h1, be4_le, flat_len be4 4 (fun _ => rfl)]; omega
  have h3 : (part3 nm code dA).length = 16 + nm.size + code.length * 4 := by unfold part3; rw [List.length_append, h2, be4_le]; omega
  have h4 : (part4 nm code dA data).length = 20 + nm.size + code.length * 4 + data.length * 8 := by unfold part4; rw [List.length_append, List.length_append, h3, be4_le, flat_len be8 8 (fun _ => rfl)]; omega
  have h5 : (part5 nm code dA data ss).length = 24 + nm.size + code.length * 4 + data.length * 8 + (ss.flatMap symB).length := by unfold part5; rw [List.length_append, List.length_append, h4, be4_le]; omega
  refine ⟨h1, h2, h3, h4, h5, ?_⟩
  rw [← part6_body]
  unfold part6
  rw [List.length_append, List.length_append, h5, be4_le, flat_len relB 8 (fun _ => rfl)]
  omega
set_option maxRecDepth 100000 in
set_option maxHeartbeats 2000000 in
theorem wObject (g : Nat) (nm : ByteArray) (dA : Int) (A1 A2 A3 A4 : Option Addr) (c1 c2 c3 c4 : Nat) (code data : List Int) (ss : List Sym) (rs : List Rel) (w0 w : World)
    (hC : IntsAt w0 A1 .u32 code) (hD : IntsAt w0 A2 .i64 data) (hS : SymsAt w0 A3 ss) (hL : RelsAt w0 A4 rs) (hR : ∀ i, i < code.length → 0 ≤ nth code i ∧ nth code i < 4294967296) (hK : ∀ i, i < ss.length → 0 ≤ sKind ss i ∧ sKind ss i < 128)
    (hb0 : Below w0.heap.size w0 w) (hg0 : w0.heap.size ≤ g) (hl : (bodyB nm code dA data ss rs).length ≤ 1048576) (hn3 : ss.length ≤ 1048576) (hv : w.heap[g]? = some (.cells #[.slice none 0 0] 76 (0, 0))) :
    Calls Tryz.prog 29 #[.pointer (some ⟨g, 0, none⟩), .agg #[.string nm, .slice A1 code.length c1, .int .i64 dA, .slice A2 data.length c2, .slice A3 ss.length c3, .slice A4 rs.length c4]] w (Puts g [] (bodyB nm code dA data ss rs) w) := by
  obtain ⟨i0, hi, hz0, hz1, hz2⟩ := info5
  obtain ⟨p1, p2, p3, p4, p5, p6⟩ := part_lens nm code dA data ss rs
  have hg : g < w.heap.size := (Array.getElem?_eq_some_iff.1 hv).1
  have hB := lb_alloc (Below.refl w.heap.size w) (.cells #[.string nm, .slice A1 code.length c1, .int .i64 dA, .slice A2 data.length c2, .slice A3 ss.length c3, .slice A4 rs.length c4] 27)
  have hv1 : Hid ((w.alloc (.cells #[.string nm, .slice A1 code.length c1, .int .i64 dA, .slice A2 data.length c2, .slice A3 ss.length c3, .slice A4 rs.length c4] 27)).heap[g]? = some (.cells #[.slice none 0 0] 76 (0, 0))) := by
    show _ = _
    rw [hB.block g hg]; exact hv
  have hbx : Hid ((w.alloc (.cells #[.string nm, .slice A1 code.length c1, .int .i64 dA, .slice A2 data.length c2, .slice A3 ss.length c3, .slice A4 rs.length c4] 27)).heap[w.heap.size]? = some (.cells #[.string nm, .slice A1 code.length c1, .int .i64 dA, .slice A2 data.length c2, .slice A3 ss.length c3, .slice A4 rs.length c4] 27 (0, 0))) := heap_alloc_new _ _
  have HB : Hid _ := hB
  clear hB
  have hcell := (box_cell hv).1
  have hfro := (box_cell hv).2
  have hr := World.ownsRow_nil (w.alloc (.cells #[.string nm, .slice A1 code.length c1, .int .i64 dA, .slice A2 data.length c2, .slice A3 ss.length c3, .slice A4 rs.length c4] 27)) (g + 1) 5 1
  have HS4 : Hid ([] ++ Lib.strCells ⟨#[80, 76, 79, 49]⟩ = bNews [80, 76, 79, 49]) := rfl
  clear hv
  go_enter Tryz.func29, Tryz.ntmps29
  go_upto_region 2 with (at_builtin; refine Lib.wpList_append_own_string _ rfl (.tmp 8) _ 31 9 rfl (g + 1) 5 i0 Tryz.underlying31 Tryz.underlying9 hi hz0 hz1 hz2 (.slice none 0 0) 0 [] rfl hr ⟨#[80, 76, 79, 49]⟩ rfl (by unfold maxLen; decide) (by decide) (by simp; omega) ?_; intro v' w' hown hgrow hnil; obtain ⟨hcell', hfro'⟩ := box_grown hv1.out hr hgrow; have HO : Hid _ := hown; have HG : Hid _ := hgrow; obtain ⟨A', n', c', rfl⟩ := slice_form hown; clear hown hgrow hnil)
  have hq : w'.ownsRow (g + 1) 5 1 (.slice A' n' c') 4 (bNews [80, 76, 79, 49]) := by rw [← HS4.out]; exact HO.out
  obtain ⟨h1, q2⟩ := out_grown hv1.out hr HG.out hq rfl
  have b1 : Hid _ := OutTo.box q2 hbx.out (by decide) (by omega)
  have T1 : Hid _ := (OutTo.of (g := g) HB.out).trans q2
  have x1 : Hid _ := hb0.trans ((OutTo.below hg T1.out).mono hg0)
  clear q2 hq HO HG hcell' hfro' hcell hfro hr HS4 HB
  generalize w'.setCell ⟨g, 0, none⟩ (.slice A' n' c') = w1 at *
  obtain ⟨d0, d1, d2, d3, d4, d5⟩ := box6_cell b1.out
  go_wp2_with fail
  refine (wText g [80, 76, 79, 49] nm (by simp; omega) _ h1).mono ?_
  rintro r w2 ⟨rfl, h2, t2⟩
  have h2 : OutAt w2 g (part1 nm) := h2
  have b2 : Hid _ := OutTo.box t2 b1.out (by decide) (by omega)
  have T2 : Hid _ := T1.out.trans t2
  have x2 : Hid _ := hb0.trans ((OutTo.below hg T2.out).mono hg0)
  obtain ⟨d0, d1, d2, d3, d4, d5⟩ := box6_cell b2.out
  clear t2 h1
  go_wp2_with fail
  refine (wWords g (part1 nm) A1 c1 code w0 _ hC x2.out hg0 hR (by omega) h2).mono ?_
  rintro r w3 ⟨rfl, h3, t3⟩
  have h3 : OutAt w3 g (part2 nm code) := h3
  have b3 : Hid _ := OutTo.box t3 b2.out (by decide) (by omega)
  have T3 : Hid _ := T2.out.trans t3
  have x3 : Hid _ := hb0.trans ((OutTo.below hg T3.out).mono hg0)
  obtain ⟨d0, d1, d2, d3, d4, d5⟩ := box6_cell b3.out
  clear t3 h2
  go_wp2_with fail
  refine (wCount g (part2 nm code) dA (by omega) _ h3).mono ?_
  rintro r w4 ⟨rfl, h4, t4⟩
  have h4 : OutAt w4 g (part3 nm code dA) := h4
  have b4 : Hid _ := OutTo.box t4 b3.out (by decide) (by omega)
  have T4 : Hid _ := T3.out.trans t4
  have x4 : Hid _ := hb0.trans ((OutTo.below hg T4.out).mono hg0)
  obtain ⟨d0, d1, d2, d3, d4, d5⟩ := box6_cell b4.out
  clear t4 h3
  go_wp2_with fail
  refine (wLongs g (part3 nm code dA) A2 c2 data w0 _ hD x4.out hg0 (by omega) h4).mono ?_
  rintro r w5 ⟨rfl, h5, t5⟩
  have h5 : OutAt w5 g (part4 nm code dA data) := h5
  have b5 : Hid _ := OutTo.box t5 b4.out (by decide) (by omega)
  have T5 : Hid _ := T4.out.trans t5
  have x5 : Hid _ := hb0.trans ((OutTo.below hg T5.out).mono hg0)
  obtain ⟨d0, d1, d2, d3, d4, d5⟩ := box6_cell b5.out
  clear t5 h4
  go_wp2_with fail
  refine (wSyms g (part4 nm code dA data) A3 c3 ss w0 _ hS x5.out hg0 hK hn3 (by omega) h5).mono ?_
  rintro r w6 ⟨rfl, h6, t6⟩
  have h6 : OutAt w6 g (part5 nm code dA data ss) := h6
  have b6 : Hid _ := OutTo.box t6 b5.out (by decide) (by omega)
  have T6 : Hid _ := T5.out.trans t6
  have x6 : Hid _ := hb0.trans ((OutTo.below hg T6.out).mono hg0)
  obtain ⟨d0, d1, d2, d3, d4, d5⟩ := box6_cell b6.out
  clear t6 h5
  go_wp2_with fail
  refine (wRels g (part5 nm code dA data ss) A4 c4 rs w0 _ hL x6.out hg0 (by omega) (by rw [flat_len relB 8 (fun _ => rfl)]; omega) h6).mono ?_
  rintro r w7 ⟨rfl, h7, t7⟩
  have h7 : OutAt w7 g (part6 nm code dA data ss rs) := h7
  have b7 : Hid _ := OutTo.box t7 b6.out (by decide) (by omega)
  have T7 : Hid _ := T6.out.trans t7
  have x7 : Hid _ := hb0.trans ((OutTo.below hg T7.out).mono hg0)
  obtain ⟨d0, d1, d2, d3, d4, d5⟩ := box6_cell b7.out
  clear t7 h6
  go_wp2
  go_end0
  rw [part6_body] at h7
  exact ⟨rfl, h7, T7.out⟩

end Go.Proofs.YthfcimmfkibmjaaGreatDoor

namespace Go.Proofs.YthfcimmfkibmjaaGreatDoor
open Go.RowKit

theorem sum_step (b : List Int) (k : Nat) (h : k < b.length) : sumB (b.take (k + 1)) = (31 * sumB (b.take k) + nth b k) % 4294967296 := by
  rw [List.take_succ_eq_append_getElem h]
  unfold sumB
  rw [List.foldl_append]
  simp [nth, List.getD, h]
set_option maxRecDepth 100000 in
theorem refsum_any (A : Option Addr) (cap : Nat) (b : List Int) (w : World) (hB : IntsAt w A .u8 b) (hA : AreB b) (hN : b.length ≤ 1048576) : Calls Tryz.prog 95 #[.slice A b.length cap] w fun r w' => r = .returned (.int .u32 (sumB b)) ∧ w' = w := by
  go_enter Tryz.func95, Tryz.ntmps95
  go_wp2
  go_loop [4, 3] (fun i s => ∃ k : Nat, i = .int .i64 k ∧ k ≤ b.length ∧ s = .int .u32 (sumB (b.take k))) (fun i _ => b.length - (intOf i).toNat)
  case atStart => exact ⟨0, rfl, by omega, rfl⟩
  case round =>
    obtain ⟨k, rfl, hk, rfl⟩ := hrel
    by_cases hlt : k < b.length
    · obtain ⟨a, rfl, q⟩ := hB k hlt
      have HS : Hid _ := sum_step b k hlt
      have hx : 0 ≤ nth b k ∧ nth b k < 256 := hA _ (by simp [nth, List.getD, hlt])
      generalize nth b k = x at q HS hx
      generalize sumB (b.take k) = s at HS
      go_wp2
      go_round
      case rel => exact ⟨k + 1, by go_num, by omega, by rw [HS.out]; congr 1; omega⟩
      case measure => simp [intOf]; omega
    · obtain rfl : k = b.length := by omega
      go_wp2
      go_ret
      exact ⟨by simp, rfl⟩


end Go.Proofs.YthfcimmfkibmjaaGreatDoor

namespace Go.Proofs.YthfcimmfkibmjaaGreatDoor
open Go.RowKit

theorem begins_any (b : Int) (h0 : 0 ≤ b) (h1 : b ≤ 255) (w : World) : Calls Tryz.prog 143 #[.int .u8 b] w fun e w' => e = .returned (.bool (ltrI b)) ∧ w' = w := by
  by_cases h1 : 97 ≤ b
  · by_cases h2 : b ≤ 122
    · rw [show ltrI b = true from decide_eq_true (by omega)]
      go_enter Tryz.func143, Tryz.ntmps143
      go_wp2
      go_ret
      exact ⟨by first | rfl | (simp [*]; done), rfl⟩
    · rw [show ltrI b = false from decide_eq_false (by omega)]
      have h3 : 65 ≤ b := by omega
      have h4 : ¬ b ≤ 90 := by omega
      have h5 : (b == 95) = false := by simp; omega
      go_enter Tryz.func143, Tryz.ntmps143
      go_wp2
      go_ret
      exact ⟨by first | rfl | (simp [*]; done), rfl⟩
  · by_cases h3 : 65 ≤ b
    · by_cases h4 : b ≤ 90
      · rw [show ltrI b = true from decide_eq_true (by omega)]
        go_enter Tryz.func143, Tryz.ntmps143
        go_wp2
        go_ret
        exact ⟨by first | rfl | (simp [*]; done), rfl⟩
      · by_cases h5 : b = 95
        · rw [show ltrI b = true from decide_eq_true (by omega)]
          have h6 : (b == 95) = true := by simpa using h5
          clear h5
          go_enter Tryz.func143, Tryz.ntmps143
          go_wp2
          go_ret
          exact ⟨by first | rfl | (simp [*]; done), rfl⟩
        · rw [show ltrI b = false from decide_eq_false (by omega)]
          have h6 : (b == 95) = false := by simpa using h5
          go_enter Tryz.func143, Tryz.ntmps143
          go_wp2
          go_ret
          exact ⟨by first | rfl | (simp [*]; done), rfl⟩
    · rw [show ltrI b = false from decide_eq_false (by omega)]
      have h6 : (b == 95) = false := by simp; omega
      go_enter Tryz.func143, Tryz.ntmps143
      go_wp2
      go_ret
      exact ⟨by first | rfl | (simp [*]; done), rfl⟩



def conI (b : Int) : Bool := dgtI b || b == 46
theorem continues_any (b : Int) (h0 : 0 ≤ b) (h1 : b ≤ 255) (w : World) : Calls Tryz.prog 144 #[.int .u8 b] w fun e w' => e = .returned (.bool (conI b)) ∧ w' = w := by
  by_cases h2 : 48 ≤ b
  · by_cases h3 : b ≤ 57
    · rw [show conI b = true by unfold conI; rw [show dgtI b = true from decide_eq_true (by omega)]; rfl]
      go_enter Tryz.func144, Tryz.ntmps144
      go_wp2
      go_ret
      exact ⟨by first | rfl | (simp [*]; done), rfl⟩
    · rw [show conI b = false by unfold conI; rw [show dgtI b = false from decide_eq_false (by omega)]; simp; omega]
      have h4 : (b == 46) = false := by simp; omega
      go_enter Tryz.func144, Tryz.ntmps144
      go_wp2
      go_ret
      exact ⟨by first | rfl | (simp [*]; done), rfl⟩
  · by_cases h3 : b = 46
    · rw [show conI b = true by unfold conI; simp [h3]]
      have h4 : (b == 46) = true := by simpa using h3
      clear h3
      go_enter Tryz.func144, Tryz.ntmps144
      go_wp2
      go_ret
      exact ⟨by first | rfl | (simp [*]; done), rfl⟩
    · rw [show conI b = false by unfold conI; rw [show dgtI b = false from decide_eq_false (by omega)]; simp; omega]
      have h4 : (b == 46) = false := by simpa using h3
      go_enter Tryz.func144, Tryz.ntmps144
      go_wp2
      go_ret
      exact ⟨by first | rfl | (simp [*]; done), rfl⟩
theorem beg_at (s : ByteArray) (k : Nat) (h : k < s.size) (x : Bool) (e : ltrI s[k].toNat = x) (w : World) : Calls Tryz.prog 143 #[.int .u8 s[k].toNat] w fun e w' => e = .returned (.bool x) ∧ w' = w := by
  have := begins_any s[k].toNat (by omega) (by have := s[k].toNat_lt; omega) w
  rw [e] at this; exact this
theorem con_at (s : ByteArray) (k : Nat) (h : k < s.size) (x : Bool) (e : conI s[k].toNat = x) (w : World) : Calls Tryz.prog 144 #[.int .u8 s[k].toNat] w fun e w' => e = .returned (.bool x) ∧ w' = w := by
  have := continues_any s[k].toNat (by omega) (by have := s[k].toNat_lt; omega) w
  rw [e] at this; exact this
set_option maxRecDepth 100000 in
set_option maxHeartbeats 1000000 in
theorem objname_raw (s : ByteArray) (w : World) : Calls Tryz.prog 117 #[.string s] w fun e w' => e = .returned (.bool (nameOK s)) ∧ w' = w := by
  by_cases h0 : s.size < 1
  · have HN : Hid (nameOK s = false) := name_nil s (by omega)
    go_enter Tryz.func117, Tryz.ntmps117
    go_wp2
    go_ret
    exact ⟨retB HN.out.symm, rfl⟩
  have hp : 0 < s.size := by omega
  have hN := name_cons s hp
  by_cases h1 : 24 < s.size
  · rw [decide_eq_false (by omega)] at hN
    have HN : Hid _ := hN
    clear hN
    go_enter Tryz.func117, Tryz.ntmps117
    go_wp2
    go_ret
    exact ⟨retB HN.out.symm, rfl⟩
  rw [decide_eq_true (by omega)] at hN
  have HN : Hid _ := hN
  clear hN
  go_enter Tryz.func117, Tryz.ntmps117
  go_wp2
  go_loop [3] (fun i => ∃ k : Nat, i = .int .i64 k ∧ k ≤ s.size ∧ Hid (1 ≤ k → goodL (s.data.toList.drop k) = nameOK s)) (fun i => s.size - (intOf i).toNat)
  case atStart => exact ⟨0, rfl, by omega, fun h => by omega⟩
  case round =>
    obtain ⟨k, rfl, hk, HT⟩ := hrel
    by_cases hlt : k < s.size
    · cases h3 : ltrI s[k].toNat with
      | true =>
        have C := beg_at s k hlt true h3
        have HG : Hid (goodL (s.data.toList.drop (k + 1)) = nameOK s) := by
          by_cases hk0 : k = 0
          · subst hk0
            rw [Hid, HN.out, h3]; simp
          · rw [Hid, ← good_on hlt (show goodI s[k].toNat = true by unfold goodI; rw [h3]; rfl)]; exact HT.out (by omega)
        clear h3
        go_wp2_with fail
        refine (C _).mono ?_
        rintro e w1 ⟨rfl, rfl⟩
        clear C
        go_wp2
        go_round
        case rel => exact ⟨k + 1, by go_num, by omega, fun _ => HG.out⟩
        case measure => simp [intOf]; omega
      | false =>
        have C := beg_at s k hlt false h3
        by_cases hk0 : k = 0
        · subst hk0
          have HF : Hid (nameOK s = false) := by rw [Hid, HN.out, h3]; rfl
          clear h3
          go_wp2_with fail
          refine (C _).mono ?_
          rintro e w1 ⟨rfl, rfl⟩
          clear C
          go_wp2
          go_ret
          exact ⟨retB HF.out.symm, rfl⟩
        have hk1 : ((k : Int) == 0) = false := by simpa using hk0
        cases h4 : conI s[k].toNat with
        | true =>
          have C2 := con_at s k hlt true h4
          have HG : Hid (goodL (s.data.toList.drop (k + 1)) = nameOK s) := by
            rw [Hid, ← good_on hlt (show goodI s[k].toNat = true by unfold goodI; rw [h3, Bool.false_or]; exact h4)]; exact HT.out (by omega)
          clear h3 h4 hk0
          go_wp2_with fail
          refine (C _).mono ?_
          rintro e w1 ⟨rfl, rfl⟩
          clear C
          go_wp2_with fail
          refine (C2 _).mono ?_
          rintro e w1 ⟨rfl, rfl⟩
          clear C2
          go_wp2
          go_round
          case rel => exact ⟨k + 1, by go_num, by omega, fun _ => HG.out⟩
          case measure => simp [intOf]; omega
        | false =>
          have C2 := con_at s k hlt false h4
          have HF : Hid (nameOK s = false) := by
            rw [Hid, ← HT.out (by omega)]; exact good_no hlt (show goodI s[k].toNat = false by unfold goodI; rw [h3, Bool.false_or]; exact h4)
          clear h3 h4 hk0
          go_wp2_with fail
          refine (C _).mono ?_
          rintro e w1 ⟨rfl, rfl⟩
          clear C
          go_wp2_with fail
          refine (C2 _).mono ?_
          rintro e w1 ⟨rfl, rfl⟩
          clear C2
          go_wp2
          go_ret
          exact ⟨retB HF.out.symm, rfl⟩
    · have HG : Hid (nameOK s = true) := by rw [Hid, ← HT.out (by omega)]; exact good_end (by omega)
      go_wp2
      go_ret
      exact ⟨retB HG.out.symm, rfl⟩
theorem objname_any (s : ByteArray) (w : World) : Calls Tryz.prog 117 #[.string s] w fun e w' => e = .returned (.bool (nameOK s)) ∧ Below w.heap.size w w' := by
  refine (objname_raw s w).mono ?_
  rintro e w1 ⟨rfl, rfl⟩
  exact ⟨rfl, Below.refl _ _⟩


end Go.Proofs.YthfcimmfkibmjaaGreatDoor

namespace Go.Proofs.YthfcimmfkibmjaaGreatDoor
open Go.RowKit

/-- A number, or 0. -/
def rfs (b : Bool) (e : Int) : Int := match b with
  | true => e
  | false => 0
theorem refuse_yes (e n : Int) (w : World) : Calls Tryz.prog 116 #[.bool true, .int .i64 e, .int .i64 n] w fun r w' => r = .returned (.tuple #[.int .i64 (rfs true e), .int .i64 (rfs true n)]) ∧ w' = w := by
  go_enter Tryz.func116, Tryz.ntmps116
  go_wp2
  go_ret2
  exact ⟨rfl, rfl⟩
theorem refuse_no (e n : Int) (w : World) : Calls Tryz.prog 116 #[.bool false, .int .i64 e, .int .i64 n] w fun r w' => r = .returned (.tuple #[.int .i64 (rfs false e), .int .i64 (rfs false n)]) ∧ w' = w := by
  go_enter Tryz.func116, Tryz.ntmps116
  go_wp2
  go_ret2
  exact ⟨rfl, rfl⟩
theorem fits_any (a n : Int) (ha : -9223372036854775808 ≤ a) (ha2 : a ≤ 9223372036854775807) (w : World) : Calls Tryz.prog 122 #[.int .i64 a, .int .i64 n] w fun r w' => r = .returned (.bool (decide (0 ≤ a ∧ n ≤ 4096 - a))) ∧ w' = w := by
  by_cases h0 : 0 ≤ a
  · by_cases h1 : n ≤ 4096 - a
    · rw [decide_eq_true ⟨h0, h1⟩]
      go_enter Tryz.func122, Tryz.ntmps122
      go_wp2
      go_ret
      exact ⟨by first | rfl | (simp [*]; done), rfl⟩
    · rw [decide_eq_false (by omega)]
      go_enter Tryz.func122, Tryz.ntmps122
      go_wp2
      go_ret
      exact ⟨by first | rfl | (simp [*]; done), rfl⟩
  · rw [decide_eq_false (by omega)]
    go_enter Tryz.func122, Tryz.ntmps122
    go_wp2
    go_ret
    exact ⟨by first | rfl | (simp [*]; done), rfl⟩
def lastP (kd : Int) (nc : Nat) : Int := if kd = 3 then 0 else nc
theorem last_any (nm : ByteArray) (dA kd : Int) (A1 A2 A3 A4 : Option Addr) (nc c1 nd c2 ns c3 nr c4 : Nat) (w : World) : Calls Tryz.prog 145 #[.agg #[.string nm, .slice A1 nc c1, .int .i64 dA, .slice A2 nd c2, .slice A3 ns c3, .slice A4 nr c4], .int .i8 kd] w fun r w' => r = .returned (.int .i64 (lastP kd nc)) ∧ Below w.heap.size w w' := by
  cases h : (kd == 3) with
  | true =>
    rw [show lastP kd nc = 0 by unfold lastP; rw [if_pos (by simpa using h)]]
    go_enter Tryz.func145, Tryz.ntmps145
    go_wp2
    go_ret
    exact ⟨rfl, lb_alloc (Below.refl _ _) _⟩
  | false =>
    rw [show lastP kd nc = nc by unfold lastP; rw [if_neg (by simpa using h)]]
    go_enter Tryz.func145, Tryz.ntmps145
    go_wp2
    go_ret
    exact ⟨rfl, lb_alloc (Below.refl _ _) _⟩


end Go.Proofs.YthfcimmfkibmjaaGreatDoor
