/-
  A bag of ints and sequences: they lie apart.
-/
import Derived.Test.YtokhclindfipbaaGreatDoorProg
import Derived.WalkKit
import Derived.WalkSpells
import Derived.WalkLawsBesides
import Derived.RowKit3
import Derived.Below
import Derived.Deep.QuietTactic
import Derived.BigQuiet
import Derived.WalkSmall
import Derived.Laws.Rows
import Derived.Test.YtokhclindfipbaaGreatDoorPa56
namespace Go.Proofs.YtokhclindfipbaaGreatDoor
open Go.RowKit

/-- Whose block: one of the rows. -/
def Of (rs : List (Value × Nat)) (b : Nat) : Prop := ∃ m, m < rs.length ∧ (rv rs m).ownBlock = some b
/-- All that is other lies in blocks of P, or is new. -/
structure FrB (P : Nat → Prop) (w0 w : World) : Prop where
  os : w.os = w0.os
  tape : w.tape = w0.tape
  output : w.output = w0.output
  size : w0.heap.size ≤ w.heap.size
  block : ∀ b, b < w0.heap.size → ¬ P b → w.heap[b]? = w0.heap[b]?
theorem FrB.refl (P : Nat → Prop) (w : World) : FrB P w w := ⟨rfl, rfl, rfl, Nat.le_refl _, fun _ _ _ => rfl⟩
theorem FrB.mono {P Q : Nat → Prop} {w0 w : World} (h : FrB P w0 w) (hq : ∀ b, P b → Q b) : FrB Q w0 w := ⟨h.os, h.tape, h.output, h.size, fun b h1 h2 => h.block b h1 (fun h3 => h2 (hq b h3))⟩
theorem FrB.then {P : Nat → Prop} {rs : List (Value × Nat)} {w0 w w' : World} (h : FrB P w0 w) (k : Fr rs w w') : FrB (fun b => P b ∨ Of rs b) w0 w' :=
  ⟨k.os.trans h.os, k.tape.trans h.tape, k.output.trans h.output, Nat.le_trans h.size k.size, fun b hb hn => (k.block b (Nat.lt_of_lt_of_le hb h.size) (fun m hm e => hn (.inr ⟨m, hm, e⟩))).trans (h.block b hb (fun hp => hn (.inl hp)))⟩
theorem FrB.below {P : Nat → Prop} {w w1 w2 : World} {n : Nat} (h : FrB P w1 w2) (hb : Below n w w1) (hn : n ≤ w1.heap.size) (hq : ∀ b, P b → n ≤ b) : Below n w w2 :=
  ⟨h.os.trans hb.os, h.tape.trans hb.tape, h.output.trans hb.output, Nat.le_trans hb.size h.size, fun b hlt => (h.block b (by omega) (fun hp => by have := hq b hp; omega)).trans (hb.block b hlt)⟩
theorem own_same {w w' : World} {base : Nat} {e : TypeId} {size : Nat} {v : Value} {n : Nat} {xs : List Value} (h : w.ownsRow base e size v n xs) (hs : ∀ b, v.ownBlock = some b → w'.heap[b]? = w.heap[b]?) : w'.ownsRow base e size v n xs := by
  refine ⟨h.1, ?_⟩
  rcases h.2 with h1 | ⟨g, cap, cur, rfl, h2, hg, h3⟩
  · exact .inl h1
  · exact .inr ⟨g, cap, cur, rfl, h2, by rw [hs g rfl]; exact hg, h3⟩
/-- Rows of two kinds: ints, sequences. -/
structure Kinds2 (w : World) (r1 r14 : List (Value × Nat)) : Prop where
  k1 : ∀ m, m < r1.length → ∃ xs, w.ownsRow 0 3 1 (rv r1 m) (rl r1 m) xs
  k14 : ∀ m, m < r14.length → ∃ xs, w.ownsRow 0 69 2 (rv r14 m) (rl r14 m) xs
/-- The blocks that were written ahead of the kind k. -/
def Pk (r1 r14 : List (Value × Nat)) (k b : Nat) : Prop := (1 < k ∧ Of r1 b) ∨ (14 < k ∧ Of r14 b)
theorem Pk.kind {w : World} {r1 r14 : List (Value × Nat)} {k b : Nat} (h : Pk r1 r14 k b) (hf : Kinds2 w r1 r14) : ∃ e cur, w.heap[b]? = some (.cells cur e (0, 0)) ∧ ((1 < k ∧ e = 3) ∨ (14 < k ∧ e = 69)) := by
  rcases h with ⟨h, m, hm, e⟩ | ⟨h, m, hm, e⟩
  · obtain ⟨xs, hx⟩ := hf.k1 m hm
    obtain ⟨cur, hc⟩ := own_block hx e
    exact ⟨3, cur, hc, .inl ⟨h, rfl⟩⟩
  · obtain ⟨xs, hx⟩ := hf.k14 m hm
    obtain ⟨cur, hc⟩ := own_block hx e
    exact ⟨69, cur, hc, .inr ⟨h, rfl⟩⟩
/-- A row of a kind that was not written stays. -/
theorem FrB.own {w w' : World} {r1 r14 : List (Value × Nat)} {k base : Nat} {e : TypeId} {size : Nat} {v : Value} {n : Nat} {xs : List Value} (hF : FrB (Pk r1 r14 k) w w') (hf : Kinds2 w r1 r14) (h : w.ownsRow base e size v n xs) (he : ¬ ((1 < k ∧ e = 3) ∨ (14 < k ∧ e = 69))) : w'.ownsRow base e size v n xs := by
  refine own_same h fun b hb => hF.block b (own_lt h hb) fun hp => he ?_
  obtain ⟨cur, hc⟩ := own_block h hb
  obtain ⟨e', cur', hc', hk⟩ := hp.kind hf
  rw [hc] at hc'
  simp only [Option.some.injEq, Obj.cells.injEq] at hc'
  obtain ⟨-, rfl, -⟩ := hc'
  exact hk
theorem FrB.bag {w w' : World} {r1 r14 : List (Value × Nat)} {k B : Nat} {f : Nat → Value} (hF : FrB (Pk r1 r14 k) w w') (hf : Kinds2 w r1 r14) (h : BagIs w B f) : BagIs w' B f := by
  refine h.keep (hF.block B h.lt fun hp => ?_)
  obtain ⟨cs, hc, -⟩ := h
  obtain ⟨e', cur', hc', hk⟩ := hp.kind hf
  rw [hc] at hc'
  simp only [Option.some.injEq, Obj.cells.injEq] at hc'
  obtain ⟨-, rfl, -⟩ := hc'
  rcases hk with ⟨-, h⟩ | ⟨-, h⟩ <;> exact absurd h (by decide)
theorem FrB.next {w w1 w' : World} {r1 r14 rs : List (Value × Nat)} {k : Nat} (hF : FrB (Pk r1 r14 k) w1 w) (h : Fr rs w w') (hk : ∀ b, Of rs b → Pk r1 r14 (k + 1) b) : FrB (Pk r1 r14 (k + 1)) w1 w' := by
  refine (hF.then h).mono fun b hb => ?_
  rcases hb with hb | hb
  · rcases hb with ⟨h, h'⟩ | ⟨h, h'⟩
    · exact .inl ⟨by omega, h'⟩
    · exact .inr ⟨by omega, h'⟩
  · exact hk b hb
theorem apartM (B : Nat) (f : Nat → Value) (r1 r14 : List (Value × Nat)) (w1 : World) (hb : BagIs w1 B f) (h1 : w1.ownsRow 0 36 1 (f 1) r1.length (r1.map Prod.fst)) (h14 : w1.ownsRow 0 29 1 (f 14) r14.length (r14.map Prod.fst))
    (hnil : ∀ k, k < 17 → k ≠ 1 → k ≠ 14 → f k = .slice none 0 0) (hf : Kinds2 w1 r1 r14) (S1 : Sep r1) (S14 : Sep r14) (N1 : r1.length ≤ 300) (N14 : r14.length ≤ 300) (L1 : ∀ m, rl r1 m ≤ 1048576) (L14 : ∀ m, rl r14 m ≤ 1048576) :
    Calls Tryz.prog 21 #[.pointer (some ⟨B, 0, none⟩)] w1 fun r w' => r = .returned (.bool true) ∧ FrB (Pk r1 r14 17) w1 w' := by
  refine (apart_any B (fun k w => FrB (Pk r1 r14 k) w1 w) ?_ w1 (FrB.refl _ w1)).mono fun r w' h => h
  intro k hk w hF
  have hq : k = 0 ∨ k = 1 ∨ k = 2 ∨ k = 3 ∨ k = 4 ∨ k = 5 ∨ k = 6 ∨ k = 7 ∨ k = 8 ∨ k = 9 ∨ k = 10 ∨ k = 11 ∨ k = 12 ∨ k = 13 ∨ k = 14 ∨ k = 15 ∨ k = 16 := by omega
  rcases hq with rfl | rfl | rfl | rfl | rfl | rfl | rfl | rfl | rfl | rfl | rfl | rfl | rfl | rfl | rfl | rfl | rfl
  · exact (none_42 B w (by rw [(hF.bag hf hb).cell 0 (by omega), hnil 0 (by omega) (by omega) (by omega)])).mono fun r w' h => ⟨h.1, by rw [h.2]; exact hF.next (Fr.refl [] w) (fun b h => by obtain ⟨m, hm, _⟩ := h; simp at hm)⟩
  · have hbw := hF.bag hf hb
    have hv := hF.own hf h1 (by decide)
    obtain ⟨A, c, e, -⟩ := own_any hv
    have hc := hbw.cell 1 (by omega)
    rw [e] at hc hv
    exact (apartints_any B A c r1 w hc hv (fun m hm => (hf.k1 m hm).imp fun xs hx => hF.own hf hx (by decide)) S1 (fun m hm => (hf.k1 m hm).elim fun xs hx => hbw.off (hF.own hf hx (by decide)) (by decide)) N1 L1).mono fun r w' h => ⟨h.1, hF.next h.2 fun b h => .inl ⟨by omega, h⟩⟩
  · exact (none_44 B w (by rw [(hF.bag hf hb).cell 2 (by omega), hnil 2 (by omega) (by omega) (by omega)])).mono fun r w' h => ⟨h.1, by rw [h.2]; exact hF.next (Fr.refl [] w) (fun b h => by obtain ⟨m, hm, _⟩ := h; simp at hm)⟩
  · exact (none_45 B w (by rw [(hF.bag hf hb).cell 3 (by omega), hnil 3 (by omega) (by omega) (by omega)])).mono fun r w' h => ⟨h.1, by rw [h.2]; exact hF.next (Fr.refl [] w) (fun b h => by obtain ⟨m, hm, _⟩ := h; simp at hm)⟩
  · exact (none_46 B w (by rw [(hF.bag hf hb).cell 4 (by omega), hnil 4 (by omega) (by omega) (by omega)])).mono fun r w' h => ⟨h.1, by rw [h.2]; exact hF.next (Fr.refl [] w) (fun b h => by obtain ⟨m, hm, _⟩ := h; simp at hm)⟩
  · exact (none_47 B w (by rw [(hF.bag hf hb).cell 5 (by omega), hnil 5 (by omega) (by omega) (by omega)])).mono fun r w' h => ⟨h.1, by rw [h.2]; exact hF.next (Fr.refl [] w) (fun b h => by obtain ⟨m, hm, _⟩ := h; simp at hm)⟩
  · exact (none_48 B w (by rw [(hF.bag hf hb).cell 6 (by omega), hnil 6 (by omega) (by omega) (by omega)])).mono fun r w' h => ⟨h.1, by rw [h.2]; exact hF.next (Fr.refl [] w) (fun b h => by obtain ⟨m, hm, _⟩ := h; simp at hm)⟩
  · exact (none_49 B w (by rw [(hF.bag hf hb).cell 7 (by omega), hnil 7 (by omega) (by omega) (by omega)])).mono fun r w' h => ⟨h.1, by rw [h.2]; exact hF.next (Fr.refl [] w) (fun b h => by obtain ⟨m, hm, _⟩ := h; simp at hm)⟩
  · exact (none_50 B w (by rw [(hF.bag hf hb).cell 8 (by omega), hnil 8 (by omega) (by omega) (by omega)])).mono fun r w' h => ⟨h.1, by rw [h.2]; exact hF.next (Fr.refl [] w) (fun b h => by obtain ⟨m, hm, _⟩ := h; simp at hm)⟩
  · exact (none_51 B w (by rw [(hF.bag hf hb).cell 9 (by omega), hnil 9 (by omega) (by omega) (by omega)])).mono fun r w' h => ⟨h.1, by rw [h.2]; exact hF.next (Fr.refl [] w) (fun b h => by obtain ⟨m, hm, _⟩ := h; simp at hm)⟩
  · exact (none_52 B w (by rw [(hF.bag hf hb).cell 10 (by omega), hnil 10 (by omega) (by omega) (by omega)])).mono fun r w' h => ⟨h.1, by rw [h.2]; exact hF.next (Fr.refl [] w) (fun b h => by obtain ⟨m, hm, _⟩ := h; simp at hm)⟩
  · exact (none_53 B w (by rw [(hF.bag hf hb).cell 11 (by omega), hnil 11 (by omega) (by omega) (by omega)])).mono fun r w' h => ⟨h.1, by rw [h.2]; exact hF.next (Fr.refl [] w) (fun b h => by obtain ⟨m, hm, _⟩ := h; simp at hm)⟩
  · exact (none_54 B w (by rw [(hF.bag hf hb).cell 12 (by omega), hnil 12 (by omega) (by omega) (by omega)])).mono fun r w' h => ⟨h.1, by rw [h.2]; exact hF.next (Fr.refl [] w) (fun b h => by obtain ⟨m, hm, _⟩ := h; simp at hm)⟩
  · exact (none_55 B w (by rw [(hF.bag hf hb).cell 13 (by omega), hnil 13 (by omega) (by omega) (by omega)])).mono fun r w' h => ⟨h.1, by rw [h.2]; exact hF.next (Fr.refl [] w) (fun b h => by obtain ⟨m, hm, _⟩ := h; simp at hm)⟩
  · have hbw := hF.bag hf hb
    have hv := hF.own hf h14 (by decide)
    obtain ⟨A, c, e, -⟩ := own_any hv
    have hc := hbw.cell 14 (by omega)
    rw [e] at hc hv
    exact (apartrepeats_any B A c r14 w hc hv (fun m hm => (hf.k14 m hm).imp fun xs hx => hF.own hf hx (by decide)) S14 (fun m hm => (hf.k14 m hm).elim fun xs hx => hbw.off (hF.own hf hx (by decide)) (by decide)) N14 L14).mono fun r w' h => ⟨h.1, hF.next h.2 fun b h => .inr ⟨by omega, h⟩⟩
  · exact (none_57 B w (by rw [(hF.bag hf hb).cell 15 (by omega), hnil 15 (by omega) (by omega) (by omega)])).mono fun r w' h => ⟨h.1, by rw [h.2]; exact hF.next (Fr.refl [] w) (fun b h => by obtain ⟨m, hm, _⟩ := h; simp at hm)⟩
  · exact (none_58 B w (by rw [(hF.bag hf hb).cell 16 (by omega), hnil 16 (by omega) (by omega) (by omega)])).mono fun r w' h => ⟨h.1, by rw [h.2]; exact hF.next (Fr.refl [] w) (fun b h => by obtain ⟨m, hm, _⟩ := h; simp at hm)⟩

end Go.Proofs.YtokhclindfipbaaGreatDoor
