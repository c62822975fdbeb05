/-
  A bag that has lists of bytes alone: they lie apart. What the statements lean on; no Go in sight.
-/
import Derived.Test.YtfaekkbblpfbhaaDoorProg
import Derived.WalkKit
import Derived.WalkSpells
import Derived.WalkLawsBesides
import Derived.RowKit3
import Derived.Below
import Derived.Deep.QuietTactic
import Derived.BigQuiet
import Derived.WalkSmall
import Derived.Laws.Rows
import Derived.Test.YtfaekkbblpfbhaaDoorIr24
import Derived.Test.YtfaekkbblpfbhaaDoorIr25
import Derived.Test.YtfaekkbblpfbhaaDoorIr26
import Derived.Test.YtfaekkbblpfbhaaDoorIr23
namespace Go.Proofs.YtfaekkbblpfbhaaDoor
open Go.RowKit


theorem apartB (B : Nat) (f : Nat → Value) (rs : List (Value × Nat)) (w1 : World) (hb : BagIs w1 B f) (h0 : w1.ownsRow 0 32 1 (f 0) rs.length (rs.map Prod.fst)) (hnil : ∀ k, 1 ≤ k → k < 17 → f k = .slice none 0 0)
    (hR : ∀ m, m < rs.length → ∃ xs, w1.ownsRow 0 5 1 (rv rs m) (rl rs m) xs) (hS : Sep rs) (hN : rs.length ≤ 300) (hL : ∀ m, rl rs m ≤ 1048576) :
    Calls Tryd.prog 17 #[.pointer (some ⟨B, 0, none⟩)] w1 fun r w' => r = .returned (.bool true) ∧ Fr rs w1 w' := by
  have hB : ∀ m, m < rs.length → (rv rs m).ownBlock ≠ some B := fun m hm => by
    obtain ⟨xs, hx⟩ := hR m hm
    exact hb.off hx (by decide)
  have HN : ∀ w, Fr rs w1 w → ∀ k, 1 ≤ k → k < 17 → w.cell? ⟨B, k, none⟩ = some (.slice none 0 0) := fun w h k h1 h2 => h.cell (by rw [hb.cell k h2, hnil k h1 h2]) hB
  refine (apart_any B (fun k w => Fr rs w1 w ∧ (k = 0 → w = w1)) ?_ w1 ⟨Fr.refl rs w1, fun _ => rfl⟩).mono fun r w' h => ⟨h.1, h.2.1⟩
  intro k hk w hF
  have hq : k = 0 ∨ k = 1 ∨ k = 2 ∨ k = 3 ∨ k = 4 ∨ k = 5 ∨ k = 6 ∨ k = 7 ∨ k = 8 ∨ k = 9 ∨ k = 10 ∨ k = 11 ∨ k = 12 ∨ k = 13 ∨ k = 14 ∨ k = 15 ∨ k = 16 := by omega
  rcases hq with rfl | rfl | rfl | rfl | rfl | rfl | rfl | rfl | rfl | rfl | rfl | rfl | rfl | rfl | rfl | rfl | rfl
  · obtain rfl := hF.2 rfl
    obtain ⟨A, c, e, -⟩ := own_any h0
    have hc := hb.cell 0 (by omega)
    rw [e] at hc h0
    exact (apartbytes_any B A c rs w hc h0 hR hS hB hN hL).mono fun r w' h => ⟨h.1, h.2, fun e => by omega⟩
  · exact ((none_43 B w (HN w hF.1 1 (by omega) (by omega))).mono fun r w' h => ⟨h.1, by rw [h.2]; exact hF.1, fun e => by omega⟩)
  · exact ((none_44 B w (HN w hF.1 2 (by omega) (by omega))).mono fun r w' h => ⟨h.1, by rw [h.2]; exact hF.1, fun e => by omega⟩)
  · exact ((none_45 B w (HN w hF.1 3 (by omega) (by omega))).mono fun r w' h => ⟨h.1, by rw [h.2]; exact hF.1, fun e => by omega⟩)
  · exact ((none_46 B w (HN w hF.1 4 (by omega) (by omega))).mono fun r w' h => ⟨h.1, by rw [h.2]; exact hF.1, fun e => by omega⟩)
  · exact ((none_47 B w (HN w hF.1 5 (by omega) (by omega))).mono fun r w' h => ⟨h.1, by rw [h.2]; exact hF.1, fun e => by omega⟩)
  · exact ((none_48 B w (HN w hF.1 6 (by omega) (by omega))).mono fun r w' h => ⟨h.1, by rw [h.2]; exact hF.1, fun e => by omega⟩)
  · exact ((none_49 B w (HN w hF.1 7 (by omega) (by omega))).mono fun r w' h => ⟨h.1, by rw [h.2]; exact hF.1, fun e => by omega⟩)
  · exact ((none_50 B w (HN w hF.1 8 (by omega) (by omega))).mono fun r w' h => ⟨h.1, by rw [h.2]; exact hF.1, fun e => by omega⟩)
  · exact ((none_51 B w (HN w hF.1 9 (by omega) (by omega))).mono fun r w' h => ⟨h.1, by rw [h.2]; exact hF.1, fun e => by omega⟩)
  · exact ((none_52 B w (HN w hF.1 10 (by omega) (by omega))).mono fun r w' h => ⟨h.1, by rw [h.2]; exact hF.1, fun e => by omega⟩)
  · exact ((none_53 B w (HN w hF.1 11 (by omega) (by omega))).mono fun r w' h => ⟨h.1, by rw [h.2]; exact hF.1, fun e => by omega⟩)
  · exact ((none_54 B w (HN w hF.1 12 (by omega) (by omega))).mono fun r w' h => ⟨h.1, by rw [h.2]; exact hF.1, fun e => by omega⟩)
  · exact ((none_55 B w (HN w hF.1 13 (by omega) (by omega))).mono fun r w' h => ⟨h.1, by rw [h.2]; exact hF.1, fun e => by omega⟩)
  · exact ((none_56 B w (HN w hF.1 14 (by omega) (by omega))).mono fun r w' h => ⟨h.1, by rw [h.2]; exact hF.1, fun e => by omega⟩)
  · exact ((none_57 B w (HN w hF.1 15 (by omega) (by omega))).mono fun r w' h => ⟨h.1, by rw [h.2]; exact hF.1, fun e => by omega⟩)
  · exact ((none_58 B w (HN w hF.1 16 (by omega) (by omega))).mono fun r w' h => ⟨h.1, by rw [h.2]; exact hF.1, fun e => by omega⟩)


end Go.Proofs.YtfaekkbblpfbhaaDoor

namespace Go.Proofs.YtfaekkbblpfbhaaDoor
open Go.RowKit

/-- The bytes that are answered. -/
def wroteL (text : List Int) (ent : Int) (mem : List Int) : List Int := if (checkI text mem.length ent).1 = 0 then bytesI text ent mem else []
theorem wroteL_len (text : List Int) (ent : Int) (mem : List Int) : (wroteL text ent mem).length ≤ 300000 := by
  unfold wroteL
  by_cases hk : (checkI text mem.length ent).1 = 0
  · rw [if_pos hk, bytesI_len]
    have hp := (check_mayI hk).past
    have h1 := hp.len
    have h2 := hp.mem
    omega
  · rw [if_neg hk]; simp
/-- Bytes of their own, and an error. -/
def Wrote (l : List Int) (E : Int) (w : World) (r : Ending) (w' : World) : Prop :=
  ∃ A c, r = .returned (.tuple #[.slice A l.length c, .int .i64 E]) ∧ w'.ownsRow w.heap.size 5 1 (.slice A l.length c) l.length (bNews l) ∧ IntsAt w' A .u8 l ∧ Below w.heap.size w w'

theorem wrote_all {text mem : List Int} {ent : Int} {w w' : World} {r : Ending} (h : WroteP text ent mem w r w') : Wrote (wroteL text ent mem) (checkI text mem.length ent).1 w r w' := by
  unfold wroteL Wrote
  by_cases hk : (checkI text mem.length ent).1 = 0
  · obtain ⟨A, c, h1, h2, h3, _, h5⟩ := wrote_ok h hk
    rw [if_pos hk, hk]
    exact ⟨A, c, h1, h2, h3, h5⟩
  · obtain ⟨h1, h2⟩ := wrote_no h hk
    rw [if_neg hk]
    exact ⟨none, 0, h1, World.ownsRow_nil _ _ _ _, fun i hi => by simp at hi, h2⟩
theorem Fr.below {qs : List (Value × Nat)} {w w1 w2 : World} {n : Nat} (h : Fr qs w1 w2) (hb : Below n w w1) (hn : n ≤ w1.heap.size) (hq : ∀ m, m < qs.length → ∀ b, (rv qs m).ownBlock = some b → n ≤ b) : Below n w w2 :=
  ⟨h.os.trans hb.os, h.tape.trans hb.tape, h.output.trans hb.output, Nat.le_trans hb.size h.size, fun b hlt => (h.block b (by omega) (fun m hm e => by have := hq m hm b e; omega)).trans (hb.block b hlt)⟩
/-- Two lists in a bag. -/
theorem sep_two {a b : Value} {la lb : Nat} (h : Off a.ownBlock b.ownBlock) : Sep [(a, la), (b, lb)] := fun m m' h1 h2 => by
  have hm : m = 0 ∧ m' = 1 := by simp at h2; omega
  obtain ⟨rfl, rfl⟩ := hm
  exact h
theorem two_all {P : Nat → Prop} (h0 : P 0) (h1 : P 1) (m : Nat) (hm : m < 2) : P m := by
  have hq : m = 0 ∨ m = 1 := by omega
  rcases hq with rfl | rfl
  · exact h0
  · exact h1
theorem rl_two {a b : Value} {la lb M : Nat} (ha : la ≤ M) (hb : lb ≤ M) (m : Nat) : rl [(a, la), (b, lb)] m ≤ M := by
  have hq : m = 0 ∨ m = 1 ∨ 2 ≤ m := by omega
  rcases hq with rfl | rfl | h
  · exact ha
  · exact hb
  · unfold rl
    rw [List.getD_eq_getElem?_getD, List.getElem?_eq_none (by simp; omega)]
    exact Nat.zero_le _
theorem bag_new (w : World) : BagIs (w.alloc (.cells #[.slice none 0 0, .slice none 0 0, .slice none 0 0, .slice none 0 0, .slice none 0 0, .slice none 0 0, .slice none 0 0, .slice none 0 0, .slice none 0 0, .slice none 0 0, .slice none 0 0, .slice none 0 0, .slice none 0 0, .slice none 0 0, .slice none 0 0, .slice none 0 0, .slice none 0 0] 56)) w.heap.size (fun _ => .slice none 0 0) := by
  refine ⟨_, heap_alloc_new _ _, fun k hk => ?_⟩
  have hq : k = 0 ∨ k = 1 ∨ k = 2 ∨ k = 3 ∨ k = 4 ∨ k = 5 ∨ k = 6 ∨ k = 7 ∨ k = 8 ∨ k = 9 ∨ k = 10 ∨ k = 11 ∨ k = 12 ∨ k = 13 ∨ k = 14 ∨ k = 15 ∨ k = 16 := by omega
  rcases hq with rfl | rfl | rfl | rfl | rfl | rfl | rfl | rfl | rfl | rfl | rfl | rfl | rfl | rfl | rfl | rfl | rfl <;> rfl

end Go.Proofs.YtfaekkbblpfbhaaDoor
