/-
  Lists that are not there lie apart. A bag of rows of words and lists of ports, looked at: all marks stand. The bag as it fills.
-/
import Derived.Test.YtdlcejpfjlpclaaGreatDoorProg
import Derived.WalkKit
import Derived.WalkSpells
import Derived.WalkLawsBesides
import Derived.RowKit3
import Derived.Below
import Derived.Deep.QuietTactic
import Derived.BigQuiet
import Derived.WalkSmall
import Derived.Laws.Rows
import Derived.Test.YtdlcejpfjlpclaaGreatDoorPr07
import Derived.Test.YtdlcejpfjlpclaaGreatDoorPr36
import Derived.Test.YtdlcejpfjlpclaaGreatDoorPr37
import Derived.Test.YtdlcejpfjlpclaaGreatDoorPr38
namespace Go.Proofs.YtdlcejpfjlpclaaGreatDoor
open Go.RowKit


set_option maxRecDepth 100000 in
set_option maxHeartbeats 1000000 in
theorem none_53 (B : Nat) (w : World) (hb : w.cell? ⟨B, 11, none⟩ = some (.slice none 0 0)) : Calls Tryz.prog 52 #[.pointer (some ⟨B, 0, none⟩)] w fun r w' => r = .returned (.bool true) ∧ w' = w := by
  go_enter Tryz.func52, Tryz.ntmps52
  go_wp2
  go_loopw [3] (fun n wr => n = .int .i64 0 ∧ wr = w) (fun _ _ => 0)
  case atStart => exact ⟨rfl, rfl⟩
  case round =>
    obtain ⟨rfl, rfl⟩ := hrel
    go_wp2
    go_loopw [7, 6] (fun n m w2 => n = .int .i64 0 ∧ m = .slice none 0 0 ∧ w2 = wr) (fun _ _ _ => 0)
    case atStart => exact ⟨rfl, rfl, rfl⟩
    case round =>
      obtain ⟨rfl, rfl, rfl⟩ := hrel
      go_wp2
      go_loopw [10] (fun n w3 => n = .int .i64 0 ∧ w3 = wr) (fun _ _ => 0)
      case atStart => exact ⟨rfl, rfl⟩
      case round =>
        obtain ⟨rfl, rfl⟩ := hrel
        go_wp2
        go_ret
        exact ⟨rfl, rfl⟩

set_option maxRecDepth 100000 in
set_option maxHeartbeats 1000000 in
theorem none_54 (B : Nat) (w : World) (hb : w.cell? ⟨B, 12, none⟩ = some (.slice none 0 0)) : Calls Tryz.prog 53 #[.pointer (some ⟨B, 0, none⟩)] w fun r w' => r = .returned (.bool true) ∧ w' = w := by
  go_enter Tryz.func53, Tryz.ntmps53
  go_wp2
  go_loopw [3] (fun n wr => n = .int .i64 0 ∧ wr = w) (fun _ _ => 0)
  case atStart => exact ⟨rfl, rfl⟩
  case round =>
    obtain ⟨rfl, rfl⟩ := hrel
    go_wp2
    go_loopw [7, 6] (fun n m w2 => n = .int .i64 0 ∧ m = .slice none 0 0 ∧ w2 = wr) (fun _ _ _ => 0)
    case atStart => exact ⟨rfl, rfl, rfl⟩
    case round =>
      obtain ⟨rfl, rfl, rfl⟩ := hrel
      go_wp2
      go_loopw [10] (fun n w3 => n = .int .i64 0 ∧ w3 = wr) (fun _ _ => 0)
      case atStart => exact ⟨rfl, rfl⟩
      case round =>
        obtain ⟨rfl, rfl⟩ := hrel
        go_wp2
        go_ret
        exact ⟨rfl, rfl⟩

set_option maxRecDepth 100000 in
set_option maxHeartbeats 1000000 in
theorem none_55 (B : Nat) (w : World) (hb : w.cell? ⟨B, 13, none⟩ = some (.slice none 0 0)) : Calls Tryz.prog 54 #[.pointer (some ⟨B, 0, none⟩)] w fun r w' => r = .returned (.bool true) ∧ w' = w := by
  go_enter Tryz.func54, Tryz.ntmps54
  go_wp2
  go_loopw [3] (fun n wr => n = .int .i64 0 ∧ wr = w) (fun _ _ => 0)
  case atStart => exact ⟨rfl, rfl⟩
  case round =>
    obtain ⟨rfl, rfl⟩ := hrel
    go_wp2
    go_loopw [7, 6] (fun n m w2 => n = .int .i64 0 ∧ m = .slice none 0 0 ∧ w2 = wr) (fun _ _ _ => 0)
    case atStart => exact ⟨rfl, rfl, rfl⟩
    case round =>
      obtain ⟨rfl, rfl, rfl⟩ := hrel
      go_wp2
      go_loopw [10] (fun n w3 => n = .int .i64 0 ∧ w3 = wr) (fun _ _ => 0)
      case atStart => exact ⟨rfl, rfl⟩
      case round =>
        obtain ⟨rfl, rfl⟩ := hrel
        go_wp2
        go_ret
        exact ⟨rfl, rfl⟩

set_option maxRecDepth 100000 in
set_option maxHeartbeats 1000000 in
theorem none_56 (B : Nat) (w : World) (hb : w.cell? ⟨B, 14, none⟩ = some (.slice none 0 0)) : Calls Tryz.prog 55 #[.pointer (some ⟨B, 0, none⟩)] w fun r w' => r = .returned (.bool true) ∧ w' = w := by
  go_enter Tryz.func55, Tryz.ntmps55
  go_wp2
  go_loopw [3] (fun n wr => n = .int .i64 0 ∧ wr = w) (fun _ _ => 0)
  case atStart => exact ⟨rfl, rfl⟩
  case round =>
    obtain ⟨rfl, rfl⟩ := hrel
    go_wp2
    go_loopw [7, 6] (fun n m w2 => n = .int .i64 0 ∧ m = .slice none 0 0 ∧ w2 = wr) (fun _ _ _ => 0)
    case atStart => exact ⟨rfl, rfl, rfl⟩
    case round =>
      obtain ⟨rfl, rfl, rfl⟩ := hrel
      go_wp2
      go_loopw [10] (fun n w3 => n = .int .i64 0 ∧ w3 = wr) (fun _ _ => 0)
      case atStart => exact ⟨rfl, rfl⟩
      case round =>
        obtain ⟨rfl, rfl⟩ := hrel
        go_wp2
        go_ret
        exact ⟨rfl, rfl⟩

set_option maxRecDepth 100000 in
set_option maxHeartbeats 1000000 in
theorem none_57 (B : Nat) (w : World) (hb : w.cell? ⟨B, 15, none⟩ = some (.slice none 0 0)) : Calls Tryz.prog 56 #[.pointer (some ⟨B, 0, none⟩)] w fun r w' => r = .returned (.bool true) ∧ w' = w := by
  go_enter Tryz.func56, Tryz.ntmps56
  go_wp2
  go_loopw [3] (fun n wr => n = .int .i64 0 ∧ wr = w) (fun _ _ => 0)
  case atStart => exact ⟨rfl, rfl⟩
  case round =>
    obtain ⟨rfl, rfl⟩ := hrel
    go_wp2
    go_loopw [7, 6] (fun n m w2 => n = .int .i64 0 ∧ m = .slice none 0 0 ∧ w2 = wr) (fun _ _ _ => 0)
    case atStart => exact ⟨rfl, rfl, rfl⟩
    case round =>
      obtain ⟨rfl, rfl, rfl⟩ := hrel
      go_wp2
      go_loopw [10] (fun n w3 => n = .int .i64 0 ∧ w3 = wr) (fun _ _ => 0)
      case atStart => exact ⟨rfl, rfl⟩
      case round =>
        obtain ⟨rfl, rfl⟩ := hrel
        go_wp2
        go_ret
        exact ⟨rfl, rfl⟩

set_option maxRecDepth 100000 in
set_option maxHeartbeats 1000000 in
theorem none_58 (B : Nat) (w : World) (hb : w.cell? ⟨B, 16, none⟩ = some (.slice none 0 0)) : Calls Tryz.prog 57 #[.pointer (some ⟨B, 0, none⟩)] w fun r w' => r = .returned (.bool true) ∧ w' = w := by
  go_enter Tryz.func57, Tryz.ntmps57
  go_wp2
  go_loopw [3] (fun n wr => n = .int .i64 0 ∧ wr = w) (fun _ _ => 0)
  case atStart => exact ⟨rfl, rfl⟩
  case round =>
    obtain ⟨rfl, rfl⟩ := hrel
    go_wp2
    go_loopw [7, 6] (fun n m w2 => n = .int .i64 0 ∧ m = .slice none 0 0 ∧ w2 = wr) (fun _ _ _ => 0)
    case atStart => exact ⟨rfl, rfl, rfl⟩
    case round =>
      obtain ⟨rfl, rfl, rfl⟩ := hrel
      go_wp2
      go_loopw [10] (fun n w3 => n = .int .i64 0 ∧ w3 = wr) (fun _ _ => 0)
      case atStart => exact ⟨rfl, rfl⟩
      case round =>
        obtain ⟨rfl, rfl⟩ := hrel
        go_wp2
        go_ret
        exact ⟨rfl, rfl⟩



end Go.Proofs.YtdlcejpfjlpclaaGreatDoor

namespace Go.Proofs.YtdlcejpfjlpclaaGreatDoor
open Go.RowKit

/-- Whose block: one of the rows. -/
def Of (rs : List (Value × Nat)) (b : Nat) : Prop := ∃ m, m < rs.length ∧ (rv rs m).ownBlock = some b
/-- All that is other lies in blocks of P, or is new. -/
structure FrB (P : Nat → Prop) (w0 w : World) : Prop where
  os : w.os = w0.os
  tape : w.tape = w0.tape
  output : w.output = w0.output
  size : w0.heap.size ≤ w.heap.size
  block : ∀ b, b < w0.heap.size → ¬ P b → w.heap[b]? = w0.heap[b]?
theorem FrB.refl (P : Nat → Prop) (w : World) : FrB P w w := ⟨rfl, rfl, rfl, Nat.le_refl _, fun _ _ _ => rfl⟩
theorem FrB.mono {P Q : Nat → Prop} {w0 w : World} (h : FrB P w0 w) (hq : ∀ b, P b → Q b) : FrB Q w0 w := ⟨h.os, h.tape, h.output, h.size, fun b h1 h2 => h.block b h1 (fun h3 => h2 (hq b h3))⟩
theorem FrB.then {P : Nat → Prop} {rs : List (Value × Nat)} {w0 w w' : World} (h : FrB P w0 w) (k : Fr rs w w') : FrB (fun b => P b ∨ Of rs b) w0 w' :=
  ⟨k.os.trans h.os, k.tape.trans h.tape, k.output.trans h.output, Nat.le_trans h.size k.size, fun b hb hn => (k.block b (Nat.lt_of_lt_of_le hb h.size) (fun m hm e => hn (.inr ⟨m, hm, e⟩))).trans (h.block b hb (fun hp => hn (.inl hp)))⟩
theorem FrB.below {P : Nat → Prop} {w w1 w2 : World} {n : Nat} (h : FrB P w1 w2) (hb : Below n w w1) (hn : n ≤ w1.heap.size) (hq : ∀ b, P b → n ≤ b) : Below n w w2 :=
  ⟨h.os.trans hb.os, h.tape.trans hb.tape, h.output.trans hb.output, Nat.le_trans hb.size h.size, fun b hlt => (h.block b (by omega) (fun hp => by have := hq b hp; omega)).trans (hb.block b hlt)⟩
theorem own_same {w w' : World} {base : Nat} {e : TypeId} {size : Nat} {v : Value} {n : Nat} {xs : List Value} (h : w.ownsRow base e size v n xs) (hs : ∀ b, v.ownBlock = some b → w'.heap[b]? = w.heap[b]?) : w'.ownsRow base e size v n xs := by
  refine ⟨h.1, ?_⟩
  rcases h.2 with h1 | ⟨g, cap, cur, rfl, h2, hg, h3⟩
  · exact .inl h1
  · exact .inr ⟨g, cap, cur, rfl, h2, by rw [hs g rfl]; exact hg, h3⟩
/-- Rows of two kinds: words, ports. -/
structure Kinds2 (w : World) (r6 r10 : List (Value × Nat)) : Prop where
  k6 : ∀ m, m < r6.length → ∃ xs, w.ownsRow 0 71 2 (rv r6 m) (rl r6 m) xs
  k10 : ∀ m, m < r10.length → ∃ xs, w.ownsRow 0 100 2 (rv r10 m) (rl r10 m) xs
/-- The blocks that were written ahead of the kind k. -/
def Pk (r6 r10 : List (Value × Nat)) (k b : Nat) : Prop := (6 < k ∧ Of r6 b) ∨ (10 < k ∧ Of r10 b)
theorem Pk.kind {w : World} {r6 r10 : List (Value × Nat)} {k b : Nat} (h : Pk r6 r10 k b) (hf : Kinds2 w r6 r10) : ∃ e cur, w.heap[b]? = some (.cells cur e (0, 0)) ∧ ((6 < k ∧ e = 71) ∨ (10 < k ∧ e = 100)) := by
  rcases h with ⟨h, m, hm, e⟩ | ⟨h, m, hm, e⟩
  · obtain ⟨xs, hx⟩ := hf.k6 m hm
    obtain ⟨cur, hc⟩ := own_block hx e
    exact ⟨71, cur, hc, .inl ⟨h, rfl⟩⟩
  · obtain ⟨xs, hx⟩ := hf.k10 m hm
    obtain ⟨cur, hc⟩ := own_block hx e
    exact ⟨100, cur, hc, .inr ⟨h, rfl⟩⟩
/-- A row of a kind that was not written stays. -/
theorem FrB.own {w w' : World} {r6 r10 : List (Value × Nat)} {k base : Nat} {e : TypeId} {size : Nat} {v : Value} {n : Nat} {xs : List Value} (hF : FrB (Pk r6 r10 k) w w') (hf : Kinds2 w r6 r10) (h : w.ownsRow base e size v n xs) (he : ¬ ((6 < k ∧ e = 71) ∨ (10 < k ∧ e = 100))) : w'.ownsRow base e size v n xs := by
  refine own_same h fun b hb => hF.block b (own_lt h hb) fun hp => he ?_
  obtain ⟨cur, hc⟩ := own_block h hb
  obtain ⟨e', cur', hc', hk⟩ := hp.kind hf
  rw [hc] at hc'
  simp only [Option.some.injEq, Obj.cells.injEq] at hc'
  obtain ⟨-, rfl, -⟩ := hc'
  exact hk
theorem FrB.bag {w w' : World} {r6 r10 : List (Value × Nat)} {k B : Nat} {f : Nat → Value} (hF : FrB (Pk r6 r10 k) w w') (hf : Kinds2 w r6 r10) (h : BagIs w B f) : BagIs w' B f := by
  refine h.keep (hF.block B h.lt fun hp => ?_)
  obtain ⟨cs, hc, -⟩ := h
  obtain ⟨e', cur', hc', hk⟩ := hp.kind hf
  rw [hc] at hc'
  simp only [Option.some.injEq, Obj.cells.injEq] at hc'
  obtain ⟨-, rfl, -⟩ := hc'
  rcases hk with ⟨-, h⟩ | ⟨-, h⟩ <;> exact absurd h (by decide)
theorem FrB.next {w w1 w' : World} {r6 r10 rs : List (Value × Nat)} {k : Nat} (hF : FrB (Pk r6 r10 k) w1 w) (h : Fr rs w w') (hk : ∀ b, Of rs b → Pk r6 r10 (k + 1) b) : FrB (Pk r6 r10 (k + 1)) w1 w' := by
  refine (hF.then h).mono fun b hb => ?_
  rcases hb with hb | hb
  · rcases hb with ⟨h, h'⟩ | ⟨h, h'⟩
    · exact .inl ⟨by omega, h'⟩
    · exact .inr ⟨by omega, h'⟩
  · exact hk b hb
theorem apartM (B : Nat) (f : Nat → Value) (r6 r10 : List (Value × Nat)) (w1 : World) (hb : BagIs w1 B f) (h6 : w1.ownsRow 0 65 1 (f 6) r6.length (r6.map Prod.fst)) (h10 : w1.ownsRow 0 68 1 (f 10) r10.length (r10.map Prod.fst))
    (hnil : ∀ k, k < 17 → k ≠ 6 → k ≠ 10 → f k = .slice none 0 0) (hf : Kinds2 w1 r6 r10) (S6 : Sep r6) (S10 : Sep r10) (N6 : r6.length ≤ 300) (N10 : r10.length ≤ 300) (L6 : ∀ m, rl r6 m ≤ 1048576) (L10 : ∀ m, rl r10 m ≤ 1048576) :
    Calls Tryz.prog 21 #[.pointer (some ⟨B, 0, none⟩)] w1 fun r w' => r = .returned (.bool true) ∧ FrB (Pk r6 r10 17) w1 w' := by
  refine (apart_any B (fun k w => FrB (Pk r6 r10 k) w1 w) ?_ w1 (FrB.refl _ w1)).mono fun r w' h => h
  intro k hk w hF
  have hq : k = 0 ∨ k = 1 ∨ k = 2 ∨ k = 3 ∨ k = 4 ∨ k = 5 ∨ k = 6 ∨ k = 7 ∨ k = 8 ∨ k = 9 ∨ k = 10 ∨ k = 11 ∨ k = 12 ∨ k = 13 ∨ k = 14 ∨ k = 15 ∨ k = 16 := by omega
  rcases hq with rfl | rfl | rfl | rfl | rfl | rfl | rfl | rfl | rfl | rfl | rfl | rfl | rfl | rfl | rfl | rfl | rfl
  · exact (none_42 B w (by rw [(hF.bag hf hb).cell 0 (by omega), hnil 0 (by omega) (by omega) (by omega)])).mono fun r w' h => ⟨h.1, by rw [h.2]; exact hF.next (Fr.refl [] w) (fun b h => by obtain ⟨m, hm, _⟩ := h; simp at hm)⟩
  · exact (none_43 B w (by rw [(hF.bag hf hb).cell 1 (by omega), hnil 1 (by omega) (by omega) (by omega)])).mono fun r w' h => ⟨h.1, by rw [h.2]; exact hF.next (Fr.refl [] w) (fun b h => by obtain ⟨m, hm, _⟩ := h; simp at hm)⟩
  · exact (none_44 B w (by rw [(hF.bag hf hb).cell 2 (by omega), hnil 2 (by omega) (by omega) (by omega)])).mono fun r w' h => ⟨h.1, by rw [h.2]; exact hF.next (Fr.refl [] w) (fun b h => by obtain ⟨m, hm, _⟩ := h; simp at hm)⟩
  · exact (none_45 B w (by rw [(hF.bag hf hb).cell 3 (by omega), hnil 3 (by omega) (by omega) (by omega)])).mono fun r w' h => ⟨h.1, by rw [h.2]; exact hF.next (Fr.refl [] w) (fun b h => by obtain ⟨m, hm, _⟩ := h; simp at hm)⟩
  · exact (none_46 B w (by rw [(hF.bag hf hb).cell 4 (by omega), hnil 4 (by omega) (by omega) (by omega)])).mono fun r w' h => ⟨h.1, by rw [h.2]; exact hF.next (Fr.refl [] w) (fun b h => by obtain ⟨m, hm, _⟩ := h; simp at hm)⟩
  · exact (none_47 B w (by rw [(hF.bag hf hb).cell 5 (by omega), hnil 5 (by omega) (by omega) (by omega)])).mono fun r w' h => ⟨h.1, by rw [h.2]; exact hF.next (Fr.refl [] w) (fun b h => by obtain ⟨m, hm, _⟩ := h; simp at hm)⟩
  · have hbw := hF.bag hf hb
    have hv := hF.own hf h6 (by decide)
    obtain ⟨A, c, e, -⟩ := own_any hv
    have hc := hbw.cell 6 (by omega)
    rw [e] at hc hv
    exact (apartrow_any B A c r6 w hc hv (fun m hm => (hf.k6 m hm).imp fun xs hx => hF.own hf hx (by decide)) S6 (fun m hm => (hf.k6 m hm).elim fun xs hx => hbw.off (hF.own hf hx (by decide)) (by decide)) N6 L6).mono fun r w' h => ⟨h.1, hF.next h.2 fun b h => .inl ⟨by omega, h⟩⟩
  · exact (none_49 B w (by rw [(hF.bag hf hb).cell 7 (by omega), hnil 7 (by omega) (by omega) (by omega)])).mono fun r w' h => ⟨h.1, by rw [h.2]; exact hF.next (Fr.refl [] w) (fun b h => by obtain ⟨m, hm, _⟩ := h; simp at hm)⟩
  · exact (none_50 B w (by rw [(hF.bag hf hb).cell 8 (by omega), hnil 8 (by omega) (by omega) (by omega)])).mono fun r w' h => ⟨h.1, by rw [h.2]; exact hF.next (Fr.refl [] w) (fun b h => by obtain ⟨m, hm, _⟩ := h; simp at hm)⟩
  · exact (none_51 B w (by rw [(hF.bag hf hb).cell 9 (by omega), hnil 9 (by omega) (by omega) (by omega)])).mono fun r w' h => ⟨h.1, by rw [h.2]; exact hF.next (Fr.refl [] w) (fun b h => by obtain ⟨m, hm, _⟩ := h; simp at hm)⟩
  · have hbw := hF.bag hf hb
    have hv := hF.own hf h10 (by decide)
    obtain ⟨A, c, e, -⟩ := own_any hv
    have hc := hbw.cell 10 (by omega)
    rw [e] at hc hv
    exact (apartports_any B A c r10 w hc hv (fun m hm => (hf.k10 m hm).imp fun xs hx => hF.own hf hx (by decide)) S10 (fun m hm => (hf.k10 m hm).elim fun xs hx => hbw.off (hF.own hf hx (by decide)) (by decide)) N10 L10).mono fun r w' h => ⟨h.1, hF.next h.2 fun b h => .inr ⟨by omega, h⟩⟩
  · exact (none_53 B w (by rw [(hF.bag hf hb).cell 11 (by omega), hnil 11 (by omega) (by omega) (by omega)])).mono fun r w' h => ⟨h.1, by rw [h.2]; exact hF.next (Fr.refl [] w) (fun b h => by obtain ⟨m, hm, _⟩ := h; simp at hm)⟩
  · exact (none_54 B w (by rw [(hF.bag hf hb).cell 12 (by omega), hnil 12 (by omega) (by omega) (by omega)])).mono fun r w' h => ⟨h.1, by rw [h.2]; exact hF.next (Fr.refl [] w) (fun b h => by obtain ⟨m, hm, _⟩ := h; simp at hm)⟩
  · exact (none_55 B w (by rw [(hF.bag hf hb).cell 13 (by omega), hnil 13 (by omega) (by omega) (by omega)])).mono fun r w' h => ⟨h.1, by rw [h.2]; exact hF.next (Fr.refl [] w) (fun b h => by obtain ⟨m, hm, _⟩ := h; simp at hm)⟩
  · exact (none_56 B w (by rw [(hF.bag hf hb).cell 14 (by omega), hnil 14 (by omega) (by omega) (by omega)])).mono fun r w' h => ⟨h.1, by rw [h.2]; exact hF.next (Fr.refl [] w) (fun b h => by obtain ⟨m, hm, _⟩ := h; simp at hm)⟩
  · exact (none_57 B w (by rw [(hF.bag hf hb).cell 15 (by omega), hnil 15 (by omega) (by omega) (by omega)])).mono fun r w' h => ⟨h.1, by rw [h.2]; exact hF.next (Fr.refl [] w) (fun b h => by obtain ⟨m, hm, _⟩ := h; simp at hm)⟩
  · exact (none_58 B w (by rw [(hF.bag hf hb).cell 16 (by omega), hnil 16 (by omega) (by omega) (by omega)])).mono fun r w' h => ⟨h.1, by rw [h.2]; exact hF.next (Fr.refl [] w) (fun b h => by obtain ⟨m, hm, _⟩ := h; simp at hm)⟩

end Go.Proofs.YtdlcejpfjlpclaaGreatDoor

namespace Go.Proofs.YtdlcejpfjlpclaaGreatDoor
open Go.RowKit

theorem rv_old {rs : List (Value × Nat)} {x : Value × Nat} {m : Nat} (h : m < rs.length) : rv (rs ++ [x]) m = rv rs m := by unfold rv; rw [List.getD_eq_getElem?_getD, List.getD_eq_getElem?_getD, List.getElem?_append_left h]
theorem rl_old {rs : List (Value × Nat)} {x : Value × Nat} {m : Nat} (h : m < rs.length) : rl (rs ++ [x]) m = rl rs m := by unfold rl; rw [List.getD_eq_getElem?_getD, List.getD_eq_getElem?_getD, List.getElem?_append_left h]
theorem rv_new {rs : List (Value × Nat)} {v : Value} {n : Nat} : rv (rs ++ [(v, n)]) rs.length = v := by unfold rv; simp
theorem rl_new {rs : List (Value × Nat)} {v : Value} {n : Nat} : rl (rs ++ [(v, n)]) rs.length = n := by unfold rl; simp
theorem rl_far {rs : List (Value × Nat)} {m : Nat} (h : rs.length ≤ m) : rl rs m = 0 := by unfold rl; rw [List.getD_eq_getElem?_getD, List.getElem?_eq_none h]; rfl
theorem own_base0 {w : World} {b e size n : Nat} {v : Value} {xs : List Value} (h : w.ownsRow b e size v n xs) : w.ownsRow 0 e size v n xs := ownsRow_mono h (Nat.zero_le _)
structure BagS (w : World) (n B : Nat) (f : Nat → Value) (r6 r10 : List (Value × Nat)) : Prop where
  bag : BagIs w B f
  h6 : w.ownsRow n 65 1 (f 6) r6.length (r6.map Prod.fst)
  h10 : w.ownsRow n 68 1 (f 10) r10.length (r10.map Prod.fst)
  nil : ∀ k, k < 17 → k ≠ 6 → k ≠ 10 → f k = .slice none 0 0
  kinds : Kinds2 w r6 r10
  s6 : Sep r6
  s10 : Sep r10
  l6 : r6.length ≤ 5
  l10 : r10.length ≤ 5
  b6 : ∀ m, rl r6 m ≤ 1048576
  b10 : ∀ m, rl r10 m ≤ 1048576
  base : n ≤ B
  o6 : ∀ b, Of r6 b → n ≤ b
  o10 : ∀ b, Of r10 b → n ≤ b
theorem BagS.keep {w w' : World} {n B : Nat} {f : Nat → Value} {r6 r10 : List (Value × Nat)} (h : BagS w n B f r6 r10) (hb : Below w.heap.size w w') : BagS w' n B f r6 r10 :=
  ⟨h.bag.keep (hb.block B h.bag.lt), row_keep h.h6 hb, row_keep h.h10 hb, h.nil, ⟨fun m hm => (h.kinds.k6 m hm).imp fun _ k => row_keep k hb, fun m hm => (h.kinds.k10 m hm).imp fun _ k => row_keep k hb⟩, h.s6, h.s10, h.l6, h.l10, h.b6, h.b10, h.base, h.o6, h.o10⟩

theorem BagS.row {w w' : World} {n B : Nat} {f : Nat → Value} {r6 r10 : List (Value × Nat)} {A : Option Addr} {n1 c : Nat} {xs : List Value} {e : Ending} (h : BagS w n B f r6 r10) (hv : w.ownsRow n 71 2 (.slice A n1 c) n1 xs) (hn1 : n1 ≤ 1048576) (hl : r6.length < 5) (hoff : ∀ m, m < r6.length → Off (rv r6 m).ownBlock (Value.slice A n1 c).ownBlock) (ha : Added n B 6 65 f (r6.map Prod.fst) (.slice A n1 c) w e w') :
    e = .returned (.tuple #[]) ∧ ∃ f', BagS w' n B f' (r6 ++ [(Value.slice A n1 c, n1)]) r10 ∧ Below n w w' := by
  obtain ⟨he, V, b1, b2, b3, b4⟩ := ha
  have keepE : ∀ {k : Nat} {u : Value} {ys : List Value}, w.ownsRow 0 71 2 u k ys → w'.ownsRow 0 71 2 u k ys := fun {k u ys} hu => own_stay hu fun b hb => b4 b (own_lt hu hb) (fun e => h.bag.off hu (by decide) (by rw [hb, e])) (fun e => by
    obtain ⟨c1, d1⟩ := own_block hu hb
    obtain ⟨c2, d2⟩ := own_block h.h6 e
    rw [d1] at d2
    simp only [Option.some.injEq, Obj.cells.injEq] at d2
    exact absurd d2.2.1 (by decide))
  have keepP : ∀ {k : Nat} {u : Value} {ys : List Value}, w.ownsRow 0 100 2 u k ys → w'.ownsRow 0 100 2 u k ys := fun {k u ys} hu => own_stay hu fun b hb => b4 b (own_lt hu hb) (fun e => h.bag.off hu (by decide) (by rw [hb, e])) (fun e => by
    obtain ⟨c1, d1⟩ := own_block hu hb
    obtain ⟨c2, d2⟩ := own_block h.h6 e
    rw [d1] at d2
    simp only [Option.some.injEq, Obj.cells.injEq] at d2
    exact absurd d2.2.1 (by decide))
  have keepO : w'.ownsRow n 68 1 (f 10) r10.length (r10.map Prod.fst) := own_stay h.h10 fun b hb => b4 b (h.h10.lt b hb).2 (fun e => h.bag.off h.h10 (by decide) (by rw [hb, e])) (fun e => by
    obtain ⟨c1, d1⟩ := own_block h.h10 hb
    obtain ⟨c2, d2⟩ := own_block h.h6 e
    rw [d1] at d2
    simp only [Option.some.injEq, Obj.cells.injEq] at d2
    exact absurd d2.2.1 (by decide))
  refine ⟨he, upd f 6 V, ⟨b1, ?_, ?_, fun k hk h6 h10 => ?_, ⟨?_, ?_⟩, ?_, ?_, ?_, ?_, ?_, ?_, h.base, ?_, ?_⟩, b3⟩
  · rw [show upd f 6 V 6 = V from rfl]; simpa using b2
  · rw [show upd f 6 V 10 = f 10 from rfl]; exact keepO
  · rw [show upd f 6 V k = f k by unfold upd; rw [if_neg h6]]; exact h.nil k hk h6 h10
  · intro m hm
    by_cases hm2 : m < r6.length
    · obtain ⟨ys, hy⟩ := h.kinds.k6 m hm2
      exact ⟨ys, by rw [rv_old hm2, rl_old hm2]; exact keepE hy⟩
    · have : m = r6.length := by simp at hm; omega
      subst this
      exact ⟨xs, by rw [rv_new, rl_new]; exact keepE (own_base0 hv)⟩
  · intro m hm
    obtain ⟨ys, hy⟩ := h.kinds.k10 m hm
    exact ⟨ys, keepP hy⟩
  · intro m m' h1 h2
    by_cases h3 : m' < r6.length
    · rw [rv_old (show m < r6.length by omega), rv_old h3]; exact h.s6 m m' h1 h3
    · have : m' = r6.length := by simp at h2; omega
      subst this
      rw [rv_old (show m < r6.length by omega), rv_new]
      exact hoff m h1
  · exact h.s10
  · have := h.l6; simp; omega
  · exact h.l10
  · intro m
    by_cases hm2 : m < r6.length
    · rw [rl_old hm2]; exact h.b6 m
    · by_cases e : m = r6.length
      · rw [e, rl_new]; exact hn1
      · rw [rl_far (by simp; omega)]; omega
  · exact h.b10
  · intro b hb
    obtain ⟨m, hm, e⟩ := hb
    by_cases hm2 : m < r6.length
    · rw [rv_old hm2] at e; exact h.o6 b ⟨m, hm2, e⟩
    · have : m = r6.length := by simp at hm; omega
      subst this
      rw [rv_new] at e
      exact (hv.lt b e).1
  · exact h.o10

theorem BagS.ports {w w' : World} {n B : Nat} {f : Nat → Value} {r6 r10 : List (Value × Nat)} {A : Option Addr} {n1 c : Nat} {xs : List Value} {e : Ending} (h : BagS w n B f r6 r10) (hv : w.ownsRow n 100 2 (.slice A n1 c) n1 xs) (hn1 : n1 ≤ 1048576) (hl : r10.length < 5) (hoff : ∀ m, m < r10.length → Off (rv r10 m).ownBlock (Value.slice A n1 c).ownBlock) (ha : Added n B 10 68 f (r10.map Prod.fst) (.slice A n1 c) w e w') :
    e = .returned (.tuple #[]) ∧ ∃ f', BagS w' n B f' r6 (r10 ++ [(Value.slice A n1 c, n1)]) ∧ Below n w w' := by
  obtain ⟨he, V, b1, b2, b3, b4⟩ := ha
  have keepE : ∀ {k : Nat} {u : Value} {ys : List Value}, w.ownsRow 0 71 2 u k ys → w'.ownsRow 0 71 2 u k ys := fun {k u ys} hu => own_stay hu fun b hb => b4 b (own_lt hu hb) (fun e => h.bag.off hu (by decide) (by rw [hb, e])) (fun e => by
    obtain ⟨c1, d1⟩ := own_block hu hb
    obtain ⟨c2, d2⟩ := own_block h.h10 e
    rw [d1] at d2
    simp only [Option.some.injEq, Obj.cells.injEq] at d2
    exact absurd d2.2.1 (by decide))
  have keepP : ∀ {k : Nat} {u : Value} {ys : List Value}, w.ownsRow 0 100 2 u k ys → w'.ownsRow 0 100 2 u k ys := fun {k u ys} hu => own_stay hu fun b hb => b4 b (own_lt hu hb) (fun e => h.bag.off hu (by decide) (by rw [hb, e])) (fun e => by
    obtain ⟨c1, d1⟩ := own_block hu hb
    obtain ⟨c2, d2⟩ := own_block h.h10 e
    rw [d1] at d2
    simp only [Option.some.injEq, Obj.cells.injEq] at d2
    exact absurd d2.2.1 (by decide))
  have keepO : w'.ownsRow n 65 1 (f 6) r6.length (r6.map Prod.fst) := own_stay h.h6 fun b hb => b4 b (h.h6.lt b hb).2 (fun e => h.bag.off h.h6 (by decide) (by rw [hb, e])) (fun e => by
    obtain ⟨c1, d1⟩ := own_block h.h6 hb
    obtain ⟨c2, d2⟩ := own_block h.h10 e
    rw [d1] at d2
    simp only [Option.some.injEq, Obj.cells.injEq] at d2
    exact absurd d2.2.1 (by decide))
  refine ⟨he, upd f 10 V, ⟨b1, ?_, ?_, fun k hk h6 h10 => ?_, ⟨?_, ?_⟩, ?_, ?_, ?_, ?_, ?_, ?_, h.base, ?_, ?_⟩, b3⟩
  · rw [show upd f 10 V 6 = f 6 from rfl]; exact keepO
  · rw [show upd f 10 V 10 = V from rfl]; simpa using b2
  · rw [show upd f 10 V k = f k by unfold upd; rw [if_neg h10]]; exact h.nil k hk h6 h10
  · intro m hm
    obtain ⟨ys, hy⟩ := h.kinds.k6 m hm
    exact ⟨ys, keepE hy⟩
  · intro m hm
    by_cases hm2 : m < r10.length
    · obtain ⟨ys, hy⟩ := h.kinds.k10 m hm2
      exact ⟨ys, by rw [rv_old hm2, rl_old hm2]; exact keepP hy⟩
    · have : m = r10.length := by simp at hm; omega
      subst this
      exact ⟨xs, by rw [rv_new, rl_new]; exact keepP (own_base0 hv)⟩
  · exact h.s6
  · intro m m' h1 h2
    by_cases h3 : m' < r10.length
    · rw [rv_old (show m < r10.length by omega), rv_old h3]; exact h.s10 m m' h1 h3
    · have : m' = r10.length := by simp at h2; omega
      subst this
      rw [rv_old (show m < r10.length by omega), rv_new]
      exact hoff m h1
  · exact h.l6
  · have := h.l10; simp; omega
  · exact h.b6
  · intro m
    by_cases hm2 : m < r10.length
    · rw [rl_old hm2]; exact h.b10 m
    · by_cases e : m = r10.length
      · rw [e, rl_new]; exact hn1
      · rw [rl_far (by simp; omega)]; omega
  · exact h.o6
  · intro b hb
    obtain ⟨m, hm, e⟩ := hb
    by_cases hm2 : m < r10.length
    · rw [rv_old hm2] at e; exact h.o10 b ⟨m, hm2, e⟩
    · have : m = r10.length := by simp at hm; omega
      subst this
      rw [rv_new] at e
      exact (hv.lt b e).1

theorem BagS.apart {w : World} {n B : Nat} {f : Nat → Value} {r6 r10 : List (Value × Nat)} (h : BagS w n B f r6 r10) : Calls Tryz.prog 21 #[.pointer (some ⟨B, 0, none⟩)] w fun r w' => r = .returned (.bool true) ∧ FrB (Pk r6 r10 17) w w' :=
  apartM B f r6 r10 w h.bag (own_base0 h.h6) (own_base0 h.h10) h.nil h.kinds h.s6 h.s10 (by have := h.l6; omega) (by have := h.l10; omega) h.b6 h.b10
theorem BagS.below {w0 w w' : World} {n B : Nat} {f : Nat → Value} {r6 r10 : List (Value × Nat)} (h : BagS w n B f r6 r10) (hF : FrB (Pk r6 r10 17) w w') (hb : Below w0.heap.size w0 w) (hn : w0.heap.size ≤ n) : Below w0.heap.size w0 w' :=
  hF.below hb hb.size fun b hp => by
    rcases hp with ⟨-, k⟩ | ⟨-, k⟩
    · exact Nat.le_trans hn (h.o6 b k)
    · exact Nat.le_trans hn (h.o10 b k)
theorem BagS.off6 {w w' : World} {n B : Nat} {f : Nat → Value} {r6 r10 : List (Value × Nat)} (h : BagS w n B f r6 r10) {e size k : Nat} {v : Value} {xs : List Value} (hv : w'.ownsRow w.heap.size e size v k xs) : ∀ m, m < r6.length → Off (rv r6 m).ownBlock v.ownBlock := fun m hm b h1 h2 => by
  obtain ⟨ys, hy⟩ := h.kinds.k6 m hm
  have a := own_lt hy h1
  have c := (hv.lt b h2).1
  omega
theorem BagS.off10 {w w' : World} {n B : Nat} {f : Nat → Value} {r6 r10 : List (Value × Nat)} (h : BagS w n B f r6 r10) {e size k : Nat} {v : Value} {xs : List Value} (hv : w'.ownsRow w.heap.size e size v k xs) : ∀ m, m < r10.length → Off (rv r10 m).ownBlock v.ownBlock := fun m hm b h1 h2 => by
  obtain ⟨ys, hy⟩ := h.kinds.k10 m hm
  have a := own_lt hy h1
  have c := (hv.lt b h2).1
  omega
def nilF (_ : Nat) : Value := .slice none 0 0
theorem BagS.new (w : World) : BagS (w.alloc (.cells #[.slice none 0 0, .slice none 0 0, .slice none 0 0, .slice none 0 0, .slice none 0 0, .slice none 0 0, .slice none 0 0, .slice none 0 0, .slice none 0 0, .slice none 0 0, .slice none 0 0, .slice none 0 0, .slice none 0 0, .slice none 0 0, .slice none 0 0, .slice none 0 0, .slice none 0 0] 63)) w.heap.size w.heap.size nilF [] [] :=
  ⟨⟨_, heap_alloc_new _ _, fun k hk => by
      have hq : k = 0 ∨ k = 1 ∨ k = 2 ∨ k = 3 ∨ k = 4 ∨ k = 5 ∨ k = 6 ∨ k = 7 ∨ k = 8 ∨ k = 9 ∨ k = 10 ∨ k = 11 ∨ k = 12 ∨ k = 13 ∨ k = 14 ∨ k = 15 ∨ k = 16 := by omega
      rcases hq with rfl | rfl | rfl | rfl | rfl | rfl | rfl | rfl | rfl | rfl | rfl | rfl | rfl | rfl | rfl | rfl | rfl <;> rfl⟩,
    World.ownsRow_nil _ _ _ _, World.ownsRow_nil _ _ _ _, fun _ _ _ _ => rfl, ⟨fun m hm => by simp at hm, fun m hm => by simp at hm⟩, fun m m' _ h => by simp at h, fun m m' _ h => by simp at h, by simp, by simp, fun m => by simp [rl], fun m => by simp [rl], Nat.le_refl _, fun b hb => by obtain ⟨m, hm, _⟩ := hb; simp at hm, fun b hb => by obtain ⟨m, hm, _⟩ := hb; simp at hm⟩

end Go.Proofs.YtdlcejpfjlpclaaGreatDoor
