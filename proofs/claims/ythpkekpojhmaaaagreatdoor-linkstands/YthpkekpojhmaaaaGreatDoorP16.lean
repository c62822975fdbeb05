/-
  The program writes a whole object into an output; what is written is at most 2^20 bytes. The document adds bytes up; they are at most 2^20. What an object that may be is, as plain mathematics: its parts, and that each relocation is found; no Go in sight. An object that may be, with one word more, one relocation less, one symbol twice, as plain mathematics; no Go in sight. An object that may be is of few bytes; no Go in sight.
-/
import Derived.Test.YthpkekpojhmaaaaGreatDoorProg
import Derived.WalkKit
import Derived.WalkSpells
import Derived.WalkLawsBesides
import Derived.RowKit3
import Derived.Below
import Derived.Deep.QuietTactic
import Derived.BigQuiet
import Derived.WalkSmall
import Derived.Laws.Rows
import Derived.Deep.DeepCutAuto
import Derived.Test.YthpkekpojhmaaaaGreatDoorP15
import Derived.Test.YthpkekpojhmaaaaGreatDoorP05
import Derived.Test.YthpkekpojhmaaaaGreatDoorP02
import Derived.Test.YthpkekpojhmaaaaGreatDoorP04
namespace Go.Proofs.YthpkekpojhmaaaaGreatDoor
open Go.RowKit


theorem box6_cell {w : World} {B : Nat} {x0 x1 x2 x3 x4 x5 : Value} {t : TypeId} (h : w.heap[B]? = some (.cells #[x0, x1, x2, x3, x4, x5] t (0, 0))) : w.cell? ⟨B, 0, none⟩ = some x0 ∧ w.cell? ⟨B, 1, none⟩ = some x1 ∧ w.cell? ⟨B, 2, none⟩ = some x2 ∧ w.cell? ⟨B, 3, none⟩ = some x3 ∧ w.cell? ⟨B, 4, none⟩ = some x4 ∧ w.cell? ⟨B, 5, none⟩ = some x5 := by
  refine ⟨?_, ?_, ?_, ?_, ?_, ?_⟩ <;> simp [World.cell?, h]
theorem be4_le (n : Int) : (be4 n).length = 4 := rfl
/-- An object's parts as bytes, one behind the other. -/
def part1 (nm : ByteArray) : List Int := [80, 76, 79, 49] ++ textB nm
def part2 (nm : ByteArray) (code : List Int) : List Int := part1 nm ++ (be4 code.length ++ code.flatMap be4)
def part3 (nm : ByteArray) (code : List Int) (dA : Int) : List Int := part2 nm code ++ be4 dA
def part4 (nm : ByteArray) (code : List Int) (dA : Int) (data : List Int) : List Int := part3 nm code dA ++ (be4 data.length ++ data.flatMap be8)
def part5 (nm : ByteArray) (code : List Int) (dA : Int) (data : List Int) (ss : List Sym) : List Int := part4 nm code dA data ++ (be4 ss.length ++ ss.flatMap symB)
def part6 (nm : ByteArray) (code : List Int) (dA : Int) (data : List Int) (ss : List Sym) (rs : List Rel) : List Int := part5 nm code dA data ss ++ (be4 rs.length ++ rs.flatMap relB)
theorem part6_body (nm : ByteArray) (code : List Int) (dA : Int) (data : List Int) (ss : List Sym) (rs : List Rel) : part6 nm code dA data ss rs = bodyB nm code dA data ss rs := by
  unfold part6 part5 part4 part3 part2 part1 bodyB
  simp only [List.append_assoc]
theorem part_lens (nm : ByteArray) (code : List Int) (dA : Int) (data : List Int) (ss : List Sym) (rs : List Rel) :
    (part1 nm).length = 8 + nm.size ∧ (part2 nm code).length = 12 + nm.size + code.length * 4 ∧ (part3 nm code dA).length = 16 + nm.size + code.length * 4 ∧ (part4 nm code dA data).length = 20 + nm.size + code.length * 4 + data.length * 8 ∧
    (part5 nm code dA data ss).length = 24 + nm.size + code.length * 4 + data.length * 8 + (ss.flatMap symB).length ∧ (bodyB nm code dA data ss rs).length = 28 + nm.size + code.length * 4 + data.length * 8 + (ss.flatMap symB).length + rs.length * 8 := by
  have h1 : (part1 nm).length = 8 + nm.size := by unfold part1 textB; simp [be4_len, strB_size]; omega
  have h2 : (part2 nm code).length = 12 + nm.size + code.length * 4 := by unfold part2; rw [List.length_append, List.length_append, h1, be4_le, flat_len be4 4 (fun _ => rfl)]; omega
  have h3 : (part3 nm code dA).length = 16 + nm.size + code.length * 4 := by unfold part3; rw [List.length_append, h2, be4_le]; omega
  have h4 : (part4 nm code dA data).length = 20 + nm.size + code.length * 4 + data.length * 8 := by unfold part4; rw [List.length_append, List.length_append, h3, be4_le, flat_len be8 8 (fun _ => rfl)]; omega
  have h5 : (part5 nm code dA data ss).length = 24 + nm.size + code.length * 4 + data.length * 8 + (ss.flatMap symB).length := by unfold part5; rw [List.length_append, List.length_append, h4, be4_le]; omega
  refine ⟨h1, h2, h3, h4, h5, ?_⟩
  rw [← part6_body]
  unfold part6
  rw [List.length_append, List.length_append, h5, be4_le, flat_len relB 8 (fun _ => rfl)]
  omega
set_option maxRecDepth 100000 in
set_option maxHeartbeats 2000000 in
theorem wObject (g : Nat) (nm : ByteArray) (dA : Int) (A1 A2 A3 A4 : Option Addr) (c1 c2 c3 c4 : Nat) (code data : List Int) (ss : List Sym) (rs : List Rel) (w0 w : World)
    (hC : IntsAt w0 A1 .u32 code) (hD : IntsAt w0 A2 .i64 data) (hS : SymsAt w0 A3 ss) (hL : RelsAt w0 A4 rs) (hR : ∀ i, i < code.length → 0 ≤ nth code i ∧ nth code i < 4294967296) (hK : ∀ i, i < ss.length → 0 ≤ sKind ss i ∧ sKind ss i < 128)
    (hb0 : Below w0.heap.size w0 w) (hg0 : w0.heap.size ≤ g) (hl : (bodyB nm code dA data ss rs).length ≤ 1048576) (hn3 : ss.length ≤ 1048576) (hv : w.heap[g]? = some (.cells #[.slice none 0 0] 149 (0, 0))) :
    Calls Tryz.prog 83 #[.pointer (some ⟨g, 0, none⟩), .agg #[.string nm, .slice A1 code.length c1, .int .i64 dA, .slice A2 data.length c2, .slice A3 ss.length c3, .slice A4 rs.length c4]] w (Puts g [] (bodyB nm code dA data ss rs) w) := by
  obtain ⟨i0, hi, hz0, hz1, hz2⟩ := info5
  obtain ⟨p1, p2, p3, p4, p5, p6⟩ := part_lens nm code dA data ss rs
  have hg : g < w.heap.size := (Array.getElem?_eq_some_iff.1 hv).1
  have hB := lb_alloc (Below.refl w.heap.size w) (.cells #[.string nm, .slice A1 code.length c1, .int .i64 dA, .slice A2 data.length c2, .slice A3 ss.length c3, .slice A4 rs.length c4] 75)
  have hv1 : Hid ((w.alloc (.cells #[.string nm, .slice A1 code.length c1, .int .i64 dA, .slice A2 data.length c2, .slice A3 ss.length c3, .slice A4 rs.length c4] 75)).heap[g]? = some (.cells #[.slice none 0 0] 149 (0, 0))) := by
    show _ = _
    rw [hB.block g hg]; exact hv
  have hbx : Hid ((w.alloc (.cells #[.string nm, .slice A1 code.length c1, .int .i64 dA, .slice A2 data.length c2, .slice A3 ss.length c3, .slice A4 rs.length c4] 75)).heap[w.heap.size]? = some (.cells #[.string nm, .slice A1 code.length c1, .int .i64 dA, .slice A2 data.length c2, .slice A3 ss.length c3, .slice A4 rs.length c4] 75 (0, 0))) := heap_alloc_new _ _
  have HB : Hid _ := hB
  clear hB
  have hcell := (box_cell hv).1
  have hfro := (box_cell hv).2
  have hr := World.ownsRow_nil (w.alloc (.cells #[.string nm, .slice A1 code.length c1, .int .i64 dA, .slice A2 data.length c2, .slice A3 ss.length c3, .slice A4 rs.length c4] 75)) (g + 1) 5 1
  have HS4 : Hid ([] ++ Lib.strCells ⟨#[80, 76, 79, 49]⟩ = bNews [80, 76, 79, 49]) := rfl
  clear hv
  go_enter Tryz.func83, Tryz.ntmps83
  go_upto_region 2 with (at_builtin; refine Lib.wpList_append_own_string _ rfl (.tmp 8) _ 86 9 rfl (g + 1) 5 i0 Tryz.underlying86 Tryz.underlying9 hi hz0 hz1 hz2 (.slice none 0 0) 0 [] rfl hr ⟨#[80, 76, 79, 49]⟩ rfl (by unfold maxLen; decide) (by decide) (by simp; omega) ?_; intro v' w' hown hgrow hnil; obtain ⟨hcell', hfro'⟩ := box_grown hv1.out hr hgrow; have HO : Hid _ := hown; have HG : Hid _ := hgrow; obtain ⟨A', n', c', rfl⟩ := slice_form hown; clear hown hgrow hnil)
  have hq : w'.ownsRow (g + 1) 5 1 (.slice A' n' c') 4 (bNews [80, 76, 79, 49]) := by rw [← HS4.out]; exact HO.out
  obtain ⟨h1, q2⟩ := out_grown hv1.out hr HG.out hq rfl
  have b1 : Hid _ := OutTo.box q2 hbx.out (by decide) (by omega)
  have T1 : Hid _ := (OutTo.of (g := g) HB.out).trans q2
  have x1 : Hid _ := hb0.trans ((OutTo.below hg T1.out).mono hg0)
  clear q2 hq HO HG hcell' hfro' hcell hfro hr HS4 HB
  generalize w'.setCell ⟨g, 0, none⟩ (.slice A' n' c') = w1 at *
  obtain ⟨d0, d1, d2, d3, d4, d5⟩ := box6_cell b1.out
  go_wp2_with fail
  refine (wText g [80, 76, 79, 49] nm (by simp; omega) _ h1).mono ?_
  rintro r w2 ⟨rfl, h2, t2⟩
  have h2 : OutAt w2 g (part1 nm) := h2
  have b2 : Hid _ := OutTo.box t2 b1.out (by decide) (by omega)
  have T2 : Hid _ := T1.out.trans t2
  have x2 : Hid _ := hb0.trans ((OutTo.below hg T2.out).mono hg0)
  obtain ⟨d0, d1, d2, d3, d4, d5⟩ := box6_cell b2.out
  clear t2 h1
  go_wp2_with fail
  refine (wWords g (part1 nm) A1 c1 code w0 _ hC x2.out hg0 hR (by omega) h2).mono ?_
  rintro r w3 ⟨rfl, h3, t3⟩
  have h3 : OutAt w3 g (part2 nm code) := h3
  have b3 : Hid _ := OutTo.box t3 b2.out (by decide) (by omega)
  have T3 : Hid _ := T2.out.trans t3
  have x3 : Hid _ := hb0.trans ((OutTo.below hg T3.out).mono hg0)
  obtain ⟨d0, d1, d2, d3, d4, d5⟩ := box6_cell b3.out
  clear t3 h2
  go_wp2_with fail
  refine (wCount g (part2 nm code) dA (by omega) _ h3).mono ?_
  rintro r w4 ⟨rfl, h4, t4⟩
  have h4 : OutAt w4 g (part3 nm code dA) := h4
  have b4 : Hid _ := OutTo.box t4 b3.out (by decide) (by omega)
  have T4 : Hid _ := T3.out.trans t4
  have x4 : Hid _ := hb0.trans ((OutTo.below hg T4.out).mono hg0)
  obtain ⟨d0, d1, d2, d3, d4, d5⟩ := box6_cell b4.out
  clear t4 h3
  go_wp2_with fail
  refine (wLongs g (part3 nm code dA) A2 c2 data w0 _ hD x4.out hg0 (by omega) h4).mono ?_
  rintro r w5 ⟨rfl, h5, t5⟩
  have h5 : OutAt w5 g (part4 nm code dA data) := h5
  have b5 : Hid _ := OutTo.box t5 b4.out (by decide) (by omega)
  have T5 : Hid _ := T4.out.trans t5
  have x5 : Hid _ := hb0.trans ((OutTo.below hg T5.out).mono hg0)
  obtain ⟨d0, d1, d2, d3, d4, d5⟩ := box6_cell b5.out
  clear t5 h4
  go_wp2_with fail
  refine (wSyms g (part4 nm code dA data) A3 c3 ss w0 _ hS x5.out hg0 hK hn3 (by omega) h5).mono ?_
  rintro r w6 ⟨rfl, h6, t6⟩
  have h6 : OutAt w6 g (part5 nm code dA data ss) := h6
  have b6 : Hid _ := OutTo.box t6 b5.out (by decide) (by omega)
  have T6 : Hid _ := T5.out.trans t6
  have x6 : Hid _ := hb0.trans ((OutTo.below hg T6.out).mono hg0)
  obtain ⟨d0, d1, d2, d3, d4, d5⟩ := box6_cell b6.out
  clear t6 h5
  go_wp2_with fail
  refine (wRels g (part5 nm code dA data ss) A4 c4 rs w0 _ hL x6.out hg0 (by omega) (by rw [flat_len relB 8 (fun _ => rfl)]; omega) h6).mono ?_
  rintro r w7 ⟨rfl, h7, t7⟩
  have h7 : OutAt w7 g (part6 nm code dA data ss rs) := h7
  have b7 : Hid _ := OutTo.box t7 b6.out (by decide) (by omega)
  have T7 : Hid _ := T6.out.trans t7
  have x7 : Hid _ := hb0.trans ((OutTo.below hg T7.out).mono hg0)
  obtain ⟨d0, d1, d2, d3, d4, d5⟩ := box6_cell b7.out
  clear t7 h6
  go_wp2
  go_end0
  rw [part6_body] at h7
  exact ⟨rfl, h7, T7.out⟩


end Go.Proofs.YthpkekpojhmaaaaGreatDoor

namespace Go.Proofs.YthpkekpojhmaaaaGreatDoor
open Go.RowKit

theorem sum_step (b : List Int) (k : Nat) (h : k < b.length) : sumB (b.take (k + 1)) = (31 * sumB (b.take k) + nth b k) % 4294967296 := by
  rw [List.take_succ_eq_append_getElem h]
  unfold sumB
  rw [List.foldl_append]
  simp [nth, List.getD, h]

end Go.Proofs.YthpkekpojhmaaaaGreatDoor

namespace Go.Proofs.YthpkekpojhmaaaaGreatDoor
open Go.RowKit

theorem first_zero {n : Nat} {f : Nat → Int} (h : (firstOf n f).1 = 0) : ∀ j, j < n → f j = 0 := by
  intro j hj
  unfold firstOf at h
  cases hf : (List.range n).find? (fun k => f k != 0) with
  | none =>
    rw [List.find?_eq_none] at hf
    simpa using hf j (by simpa using hj)
  | some k =>
    rw [hf] at h
    have := List.find?_some hf
    simp at this
    exact absurd h this
/-- An object's sizes may be. -/
def SizeOK (nm : ByteArray) (nc ns nr nd : Nat) (dA : Int) : Prop := nameOK nm = true ∧ nc ≤ 16384 ∧ ns ≤ 256 ∧ nr ≤ nc ∧ 0 ≤ dA ∧ dA ≤ 4096 ∧ (nd : Int) ≤ 4096 - dA
theorem size_ok {nm : ByteArray} {nc ns nr nd : Nat} {dA : Int} (h : SizeOK nm nc ns nr nd dA) : sizeC (nameOK nm) nc ns nr nd dA = (0, 0) := by
  obtain ⟨h1, h2, h3, h4, h5, h6, h7⟩ := h
  unfold sizeC
  rw [if_neg (by rw [h1]; simp), if_neg (by omega), if_neg (by omega), if_neg (by omega), if_neg (by omega)]
theorem ok_size {nm : ByteArray} {nc ns nr nd : Nat} {dA : Int} (h : (sizeC (nameOK nm) nc ns nr nd dA).1 = 0) : SizeOK nm nc ns nr nd dA := by
  unfold sizeC at h
  by_cases h1 : nameOK nm = false
  · rw [if_pos h1] at h; simp at h
  rw [if_neg h1] at h
  by_cases h2 : 16384 < nc
  · rw [if_pos h2] at h; simp at h
  rw [if_neg h2] at h
  by_cases h3 : 256 < ns
  · rw [if_pos h3] at h; simp at h
  rw [if_neg h3] at h
  by_cases h4 : nc < nr
  · rw [if_pos h4] at h; simp at h
  rw [if_neg h4] at h
  by_cases h5 : dA < 0 ∨ 4096 < dA ∨ 4096 - dA < (nd : Int)
  · rw [if_pos h5] at h; simp at h
  exact ⟨by simpa using h1, by omega, by omega, by omega, by omega, by omega, by omega⟩
/-- An object may be. -/
def MayBe (nm : ByteArray) (code : List Int) (dA : Int) (nd : Nat) (ss : List Sym) (rs : List Rel) : Prop :=
  SizeOK nm code.length ss.length rs.length nd dA ∧ (∀ j, j < ss.length → symE ss code.length j = 0) ∧ (∀ j, j < rs.length → relE rs code ss.length j = 0) ∧ ∀ j, j < code.length → codE code j = 0
theorem may_check {nm : ByteArray} {code : List Int} {dA : Int} {nd : Nat} {ss : List Sym} {rs : List Rel} (h : MayBe nm code dA nd ss rs) : checkC nm code dA nd ss rs = (0, 0) := by
  obtain ⟨h1, h2, h3, h4⟩ := h
  have e1 := size_ok h1
  have e2 : symC ss code.length = (0, 0) := first_none h2
  have e3 : relC rs code ss.length = (0, 0) := first_none h3
  have e4 : codC code = (0, 0) := by unfold codC; rw [first_none h4]; rfl
  unfold checkC
  rw [e1, e2, e3, e4]; simp
theorem check_may {nm : ByteArray} {code : List Int} {dA : Int} {nd : Nat} {ss : List Sym} {rs : List Rel} (h : (checkC nm code dA nd ss rs).1 = 0) : MayBe nm code dA nd ss rs := by
  unfold checkC at h
  by_cases h1 : (sizeC (nameOK nm) code.length ss.length rs.length nd dA).1 = 0
  · rw [if_neg (by simpa using h1)] at h
    by_cases h2 : (symC ss code.length).1 = 0
    · rw [if_neg (by simpa using h2)] at h
      by_cases h3 : (relC rs code ss.length).1 = 0
      · rw [if_neg (by simpa using h3)] at h
        refine ⟨ok_size h1, first_zero h2, first_zero h3, ?_⟩
        unfold codC at h
        by_cases h4 : (firstOf code.length (codE code)).1 = 0
        · exact first_zero h4
        · rw [if_neg h4] at h; simp at h
      · rw [if_pos h3] at h; exact absurd h h3
    · rw [if_pos h2] at h; exact absurd h h2
  · rw [if_pos h1] at h; exact absurd h h1
theorem sym_parts {ss : List Sym} {nc k : Nat} : symE ss nc k = 0 ↔ nameOK (sName ss k) = true ∧ ofS ss (sName ss k) = k ∧ 0 ≤ sKind ss k ∧ sKind ss k ≤ 3 ∧ 0 ≤ sAt ss k ∧ sAt ss k ≤ nc ∧ (sKind ss k = 3 → sAt ss k = 0) := by
  unfold symE
  constructor
  · intro h
    by_cases h1 : nameOK (sName ss k) = false
    · rw [if_pos h1] at h; simp at h
    rw [if_neg h1] at h
    by_cases h2 : ¬ ofS ss (sName ss k) = k
    · rw [if_pos h2] at h; simp at h
    rw [if_neg h2] at h
    by_cases h3 : sKind ss k < 0 ∨ 3 < sKind ss k
    · rw [if_pos h3] at h; simp at h
    rw [if_neg h3] at h
    by_cases h4 : sAt ss k < 0 ∨ (nc : Int) < sAt ss k ∨ (sKind ss k = 3 ∧ ¬ sAt ss k = 0)
    · rw [if_pos h4] at h; simp at h
    exact ⟨by simpa using h1, by simpa using h2, by omega, by omega, by omega, by omega, by omega⟩
  · rintro ⟨h1, h2, h3, h4, h5, h6, h7⟩
    rw [if_neg (by rw [h1]; simp), if_neg (by simpa using h2), if_neg (by omega), if_neg (by omega)]
theorem rel_parts {rs : List Rel} {code : List Int} {ns k : Nat} : relE rs code ns k = 0 ↔ 0 ≤ rAt rs k ∧ rAt rs k < code.length ∧ (0 < k → rAt rs (k - 1) < rAt rs k) ∧ 0 ≤ rSym rs k ∧ rSym rs k < ns ∧ isT (nth code (rAt rs k).toNat) = true ∧ tgV (nth code (rAt rs k).toNat) = 0 := by
  unfold relE
  constructor
  · intro h
    by_cases h1 : rAt rs k < 0 ∨ (code.length : Int) ≤ rAt rs k ∨ (0 < k ∧ rAt rs k ≤ rAt rs (k - 1)) ∨ rSym rs k < 0 ∨ (ns : Int) ≤ rSym rs k
    · rw [if_pos h1] at h; simp at h
    rw [if_neg h1] at h
    by_cases h2 : isT (nth code (rAt rs k).toNat) = false ∨ ¬ tgV (nth code (rAt rs k).toNat) = 0
    · rw [if_pos h2] at h; simp at h
    have h3 : isT (nth code (rAt rs k).toNat) = true := by
      cases e : isT (nth code (rAt rs k).toNat)
      · exact absurd (Or.inl e) h2
      · rfl
    have h4 : tgV (nth code (rAt rs k).toNat) = 0 := Classical.byContradiction fun e => h2 (Or.inr e)
    exact ⟨by omega, by omega, by omega, by omega, by omega, h3, h4⟩
  · rintro ⟨h1, h2, h3, h4, h5, h6, h7⟩
    rw [if_neg (by omega), if_neg (by rw [h6, h7]; simp)]
theorem cod_parts {code : List Int} {k : Nat} : codE code k = 0 ↔ (isT (nth code k) = true → tgV (nth code k) ≤ code.length) := by
  unfold codE
  constructor
  · intro h hT
    by_cases h1 : isT (nth code k) = true ∧ (code.length : Int) < tgV (nth code k)
    · rw [if_pos h1] at h; simp at h
    · have : ¬ (code.length : Int) < tgV (nth code k) := fun e => h1 ⟨hT, e⟩
      omega
  · intro h
    rw [if_neg]
    rintro ⟨h1, h2⟩
    have := h h1
    omega
/-- The relocations' places rise: each is found by its own. -/
theorem rel_rise {rs : List Rel} {code : List Int} {ns : Nat} (h : ∀ j, j < rs.length → relE rs code ns j = 0) : ∀ k i, i < k → k < rs.length → rAt rs i < rAt rs k := by
  intro k
  induction k with
  | zero => intro i hi; omega
  | succ k ih =>
    intro i hi hk
    have h1 := ((rel_parts.1 (h (k + 1) hk)).2.2.1) (by omega)
    rw [Nat.add_sub_cancel] at h1
    by_cases e : i = k
    · subst e; exact h1
    · have := ih i (by omega) (by omega); omega
theorem at_found {rs : List Rel} {k : Nat} {p : Int} (hk : k < rs.length) (e : rAt rs k = p) (h : ∀ i, i < k → ¬ rAt rs i = p) : atR rs p = k := by
  have step : ∀ j, j ≤ k → atFrom (rs.drop j) p j = k := by
    intro j hj
    induction hd : k - j generalizing j with
    | zero =>
      have : j = k := by omega
      subst this
      exact at_hit hk (by simpa using e)
    | succ d ih =>
      rw [at_miss (by omega) (by simpa using h j (by omega))]
      exact ih (j + 1) (by omega) (by omega)
  have := step 0 (by omega)
  simpa [atR] using this
theorem finds_at {rs : List Rel} {code : List Int} {ns : Nat} (h : ∀ j, j < rs.length → relE rs code ns j = 0) (k : Nat) (hk : k < rs.length) : atR rs (rAt rs k) = k :=
  at_found hk rfl fun i hi => by have := rel_rise h k i hi hk; omega
theorem nth_app {code : List Int} {x : Int} {i : Nat} (h : i < code.length) : nth (code ++ [x]) i = nth code i := by simp [nth, List.getD, h, List.getElem?_append_left h]
theorem nth_last {code : List Int} {x : Int} : nth (code ++ [x]) code.length = x := by simp [nth, List.getD]
theorem may_word {nm : ByteArray} {code : List Int} {dA : Int} {nd : Nat} {ss : List Sym} {rs : List Rel} (h : MayBe nm code dA nd ss rs) (hl : code.length < 16384) : MayBe nm (code ++ [1]) dA nd ss rs := by
  obtain ⟨⟨a1, a2, a3, a4, a5, a6, a7⟩, h2, h3, h4⟩ := h
  have hlen : (code ++ [1]).length = code.length + 1 := by simp
  refine ⟨⟨a1, by omega, a3, by omega, a5, a6, a7⟩, fun j hj => ?_, fun j hj => ?_, fun j hj => ?_⟩
  · obtain ⟨b1, b2, b3, b4, b5, b6, b7⟩ := sym_parts.1 (h2 j hj)
    exact sym_parts.2 ⟨b1, b2, b3, b4, b5, by rw [hlen]; omega, b7⟩
  · obtain ⟨b1, b2, b3, b4, b5, b6, b7⟩ := rel_parts.1 (h3 j hj)
    have e : nth (code ++ [1]) (rAt rs j).toNat = nth code (rAt rs j).toNat := nth_app (by omega)
    exact rel_parts.2 ⟨b1, by rw [hlen]; omega, b3, b4, b5, by rw [e]; exact b6, by rw [e]; exact b7⟩
  · by_cases e : j < code.length
    · have k := cod_parts.1 (h4 j e)
      refine cod_parts.2 fun hT => ?_
      rw [nth_app e] at hT ⊢
      have := k hT
      rw [hlen]; omega
    · have : j = code.length := by omega
      subst this
      refine cod_parts.2 fun hT => ?_
      rw [nth_last] at hT
      exact absurd hT (by decide +kernel)
theorem rAt_take {rs : List Rel} {n i : Nat} (h : i < n) : rAt (rs.take n) i = rAt rs i := by simp [rAt, List.getD, h]
theorem rSym_take {rs : List Rel} {n i : Nat} (h : i < n) : rSym (rs.take n) i = rSym rs i := by simp [rSym, List.getD, h]
theorem may_less {nm : ByteArray} {code : List Int} {dA : Int} {nd : Nat} {ss : List Sym} {rs : List Rel} (h : MayBe nm code dA nd ss rs) (n : Nat) (hn : n ≤ rs.length) : MayBe nm code dA nd ss (rs.take n) := by
  obtain ⟨⟨a1, a2, a3, a4, a5, a6, a7⟩, h2, h3, h4⟩ := h
  have hlen : (rs.take n).length = n := by rw [List.length_take, Nat.min_eq_left hn]
  refine ⟨⟨a1, a2, a3, by omega, a5, a6, a7⟩, h2, fun j hj => ?_, h4⟩
  rw [hlen] at hj
  obtain ⟨b1, b2, b3, b4, b5, b6, b7⟩ := rel_parts.1 (h3 j (by omega))
  rw [rel_parts, rAt_take hj, rSym_take hj, rAt_take (show j - 1 < n by omega)]
  exact ⟨b1, b2, b3, b4, b5, b6, b7⟩
theorem rels_take {w : World} {O : Option Addr} {rs : List Rel} (h : RelsAt w O rs) (n : Nat) (hn : n ≤ rs.length) : RelsAt w O (rs.take n) := fun i hi => by
  have hi' : i < n := by rw [List.length_take, Nat.min_eq_left hn] at hi; exact hi
  rw [rAt_take hi', rSym_take hi']
  exact h i (by omega)
theorem of_app (s : ByteArray) (t : List Sym) : ∀ (l : List Sym) (k : Nat), ¬ ofFrom l s k = -1 → ofFrom (l ++ t) s k = ofFrom l s k
  | [], k, h => absurd rfl h
  | x :: l, k, h => by
    rw [List.cons_append, ofFrom, ofFrom]
    rw [ofFrom] at h
    by_cases e : (x.1.toList == s.toList) = true
    · rw [if_pos e, if_pos e]
    · rw [if_neg e] at h
      rw [if_neg e, if_neg e]
      exact of_app s t l (k + 1) h
theorem s_app {ss : List Sym} {x : Sym} {i : Nat} (h : i < ss.length) : (ss ++ [x]).getD i symD = ss.getD i symD := by simp [List.getD, h, List.getElem?_append_left h]
theorem s_last {ss : List Sym} {x : Sym} : (ss ++ [x]).getD ss.length symD = x := by simp [List.getD]
theorem twice_check {nm : ByteArray} {code : List Int} {dA : Int} {nd : Nat} {ss : List Sym} {rs : List Rel} (h : MayBe nm code dA nd ss rs) (p : Nat) (hp : p < ss.length) (hl : ss.length < 256) : checkC nm code dA nd (ss ++ [ss.getD p symD]) rs = (26, (ss.length : Int)) := by
  obtain ⟨⟨a1, a2, a3, a4, a5, a6, a7⟩, h2, h3, h4⟩ := h
  have hlen : (ss ++ [ss.getD p symD]).length = ss.length + 1 := by simp
  have e1 : sizeC (nameOK nm) code.length (ss ++ [ss.getD p symD]).length rs.length nd dA = (0, 0) := size_ok ⟨a1, a2, by omega, a4, a5, a6, a7⟩
  have hof : ∀ j, j < ss.length → ofS (ss ++ [ss.getD p symD]) (sName ss j) = j := fun j hj => by
    obtain ⟨_, b2, _⟩ := sym_parts.1 (h2 j hj)
    have : ¬ ofFrom ss (sName ss j) 0 = -1 := by have e : ofFrom ss (sName ss j) 0 = j := b2; rw [e]; omega
    unfold ofS
    rw [of_app _ _ _ _ this]; exact b2
  have z : ∀ j, j < ss.length → symE (ss ++ [ss.getD p symD]) code.length j = 0 := fun j hj => by
    obtain ⟨b1, b2, b3, b4, b5, b6, b7⟩ := sym_parts.1 (h2 j hj)
    have g := s_app (x := ss.getD p symD) hj
    have g1 : sName (ss ++ [ss.getD p symD]) j = sName ss j := by unfold sName; rw [g]
    have g2 : sKind (ss ++ [ss.getD p symD]) j = sKind ss j := by unfold sKind; rw [g]
    have g3 : sAt (ss ++ [ss.getD p symD]) j = sAt ss j := by unfold sAt; rw [g]
    rw [sym_parts, g1, g2, g3]
    exact ⟨b1, hof j hj, b3, b4, b5, b6, b7⟩
  have y : symE (ss ++ [ss.getD p symD]) code.length ss.length = 26 := by
    have g1 : sName (ss ++ [ss.getD p symD]) ss.length = sName ss p := by unfold sName; rw [s_last]
    obtain ⟨b1, _⟩ := sym_parts.1 (h2 p hp)
    unfold symE
    rw [g1, if_neg (by rw [b1]; simp), if_pos (by rw [hof p hp]; omega)]
  have e2 : symC (ss ++ [ss.getD p symD]) code.length = (26, (ss.length : Int)) := by
    unfold symC
    rw [first_hit (k := ss.length) (by omega) z (by rw [y]; omega), y]
  unfold checkC
  rw [e1, e2]; simp
theorem may_names {nm : ByteArray} {code : List Int} {dA : Int} {nd : Nat} {ss : List Sym} {rs : List Rel} (h : MayBe nm code dA nd ss rs) (i : Nat) (hi : i < ss.length) : ofS ss (sName ss i) = i ∧ nameOK (sName ss i) = true := by
  obtain ⟨b1, b2, _⟩ := sym_parts.1 (h.2.1 i hi)
  exact ⟨b2, b1⟩
theorem may_at {nm : ByteArray} {code : List Int} {dA : Int} {nd : Nat} {ss : List Sym} {rs : List Rel} (h : MayBe nm code dA nd ss rs) (i : Nat) (hi : i < rs.length) : atR rs (rAt rs i) = i := finds_at h.2.2.1 i hi






end Go.Proofs.YthpkekpojhmaaaaGreatDoor

namespace Go.Proofs.YthpkekpojhmaaaaGreatDoor
open Go.RowKit


theorem name_size {s : ByteArray} (h : nameOK s = true) : s.size ≤ 24 := by
  unfold nameOK at h
  have e : s.size = s.data.toList.length := by rw [Array.length_toList]; rfl
  rw [e]
  split at h
  · cases h
  · next c l hs =>
    rw [hs]
    simp at h
    simp
    omega
structure Fit (nm : ByteArray) (code : List Int) (dA : Int) (nd : Nat) (ss : List Sym) (rs : List Rel) : Prop where
  hnm : nm.size ≤ 24
  hcode : code.length ≤ 16384
  hdata : nd ≤ 4096
  hsyms : ss.length ≤ 256
  hrels : rs.length ≤ code.length
  hdA : 0 ≤ dA ∧ dA ≤ 4096
  sym : ∀ i, i < ss.length → (sName ss i).size ≤ 24 ∧ 0 ≤ sKind ss i ∧ sKind ss i ≤ 3 ∧ 0 ≤ sAt ss i ∧ sAt ss i ≤ 16384
  rel : ∀ i, i < rs.length → 0 ≤ rAt rs i ∧ rAt rs i < 16384 ∧ 0 ≤ rSym rs i ∧ rSym rs i < 256
theorem may_fit {nm : ByteArray} {code : List Int} {dA : Int} {nd : Nat} {ss : List Sym} {rs : List Rel} (h : MayBe nm code dA nd ss rs) : Fit nm code dA nd ss rs := by
  obtain ⟨⟨h1, h2, h3, h4, h5, h6, h7⟩, hs, hr, _⟩ := h
  refine ⟨name_size h1, h2, by omega, h3, h4, ⟨h5, h6⟩, fun i hi => ?_, fun i hi => ?_⟩
  · obtain ⟨a, _, b, c, d, e, _⟩ := sym_parts.1 (hs i hi)
    exact ⟨name_size a, b, c, d, by omega⟩
  · obtain ⟨a, b, _, c, d, _⟩ := rel_parts.1 (hr i hi)
    exact ⟨a, by omega, c, by omega⟩
theorem syms_size (ss : List Sym) (h : ∀ x ∈ ss, x.1.size ≤ 24) : (ss.flatMap symB).length ≤ ss.length * 36 := by
  induction ss with
  | nil => simp
  | cons x l ih =>
    have h1 := h x (by simp)
    have h2 := ih fun y hy => h y (by simp [hy])
    have h3 : (symB x).length = x.1.size + 12 := by
      unfold symB textB strB
      rw [List.length_append, List.length_append, List.length_append, List.length_map, be4_len, be4_len, be4_len, Array.length_toList]
      show 4 + x.1.size + 4 + 4 = _
      omega
    rw [List.flatMap_cons, List.length_append, h3, List.length_cons]
    omega
theorem syms_mem {ss : List Sym} (h : ∀ i, i < ss.length → (sName ss i).size ≤ 24) : ∀ x ∈ ss, x.1.size ≤ 24 := fun x hx => by
  obtain ⟨i, hi, e⟩ := List.getElem_of_mem hx
  have := h i hi
  simpa [sName, List.getD, hi, e] using this


end Go.Proofs.YthpkekpojhmaaaaGreatDoor
