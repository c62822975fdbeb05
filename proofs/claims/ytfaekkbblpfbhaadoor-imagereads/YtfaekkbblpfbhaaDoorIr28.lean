/-
  Worlds that part in some blocks alone. What the statement on bytes as an image leans on; no Go in sight.
-/
import Derived.Test.YtfaekkbblpfbhaaDoorProg
import Derived.WalkKit
import Derived.WalkSpells
import Derived.WalkLawsBesides
import Derived.RowKit3
import Derived.Below
import Derived.Deep.QuietTactic
import Derived.BigQuiet
import Derived.WalkSmall
import Derived.Laws.Rows
import Derived.Test.YtfaekkbblpfbhaaDoorIr27
import Derived.Test.YtfaekkbblpfbhaaDoorIr23
namespace Go.Proofs.YtfaekkbblpfbhaaDoor
open Go.RowKit


/-- Whose block: one of the rows. -/
def Of (rs : List (Value × Nat)) (b : Nat) : Prop := ∃ m, m < rs.length ∧ (rv rs m).ownBlock = some b
/-- All that is other lies in blocks of P, or is new. -/
structure FrB (P : Nat → Prop) (w0 w : World) : Prop where
  os : w.os = w0.os
  tape : w.tape = w0.tape
  output : w.output = w0.output
  size : w0.heap.size ≤ w.heap.size
  block : ∀ b, b < w0.heap.size → ¬ P b → w.heap[b]? = w0.heap[b]?
theorem FrB.refl (P : Nat → Prop) (w : World) : FrB P w w := ⟨rfl, rfl, rfl, Nat.le_refl _, fun _ _ _ => rfl⟩
theorem FrB.mono {P Q : Nat → Prop} {w0 w : World} (h : FrB P w0 w) (hq : ∀ b, P b → Q b) : FrB Q w0 w := ⟨h.os, h.tape, h.output, h.size, fun b h1 h2 => h.block b h1 (fun h3 => h2 (hq b h3))⟩
theorem FrB.then {P : Nat → Prop} {rs : List (Value × Nat)} {w0 w w' : World} (h : FrB P w0 w) (k : Fr rs w w') : FrB (fun b => P b ∨ Of rs b) w0 w' :=
  ⟨k.os.trans h.os, k.tape.trans h.tape, k.output.trans h.output, Nat.le_trans h.size k.size, fun b hb hn => (k.block b (Nat.lt_of_lt_of_le hb h.size) (fun m hm e => hn (.inr ⟨m, hm, e⟩))).trans (h.block b hb (fun hp => hn (.inl hp)))⟩
theorem FrB.below {P : Nat → Prop} {w w1 w2 : World} {n : Nat} (h : FrB P w1 w2) (hb : Below n w w1) (hn : n ≤ w1.heap.size) (hq : ∀ b, P b → n ≤ b) : Below n w w2 :=
  ⟨h.os.trans hb.os, h.tape.trans hb.tape, h.output.trans hb.output, Nat.le_trans hb.size h.size, fun b hlt => (h.block b (by omega) (fun hp => by have := hq b hp; omega)).trans (hb.block b hlt)⟩
theorem own_same {w w' : World} {base : Nat} {e : TypeId} {size : Nat} {v : Value} {n : Nat} {xs : List Value} (h : w.ownsRow base e size v n xs) (hs : ∀ b, v.ownBlock = some b → w'.heap[b]? = w.heap[b]?) : w'.ownsRow base e size v n xs := by
  refine ⟨h.1, ?_⟩
  rcases h.2 with h1 | ⟨g, cap, cur, rfl, h2, hg, h3⟩
  · exact .inl h1
  · exact .inr ⟨g, cap, cur, rfl, h2, by rw [hs g rfl]; exact hg, h3⟩
/-- Rows of four kinds: numbers, words, symbols, relocations. -/
structure Four (w : World) (r4 r5 r8 r9 : List (Value × Nat)) : Prop where
  k4 : ∀ m, m < r4.length → ∃ xs, w.ownsRow 0 2 1 (rv r4 m) (rl r4 m) xs
  k5 : ∀ m, m < r5.length → ∃ xs, w.ownsRow 0 61 1 (rv r5 m) (rl r5 m) xs
  k8 : ∀ m, m < r8.length → ∃ xs, w.ownsRow 0 121 3 (rv r8 m) (rl r8 m) xs
  k9 : ∀ m, m < r9.length → ∃ xs, w.ownsRow 0 124 2 (rv r9 m) (rl r9 m) xs
/-- The blocks that were written ahead of the kind k. -/
def Pk (r4 r5 r8 r9 : List (Value × Nat)) (k b : Nat) : Prop := (4 < k ∧ Of r4 b) ∨ (5 < k ∧ Of r5 b) ∨ (8 < k ∧ Of r8 b) ∨ (9 < k ∧ Of r9 b)
theorem Pk.kind {w : World} {r4 r5 r8 r9 : List (Value × Nat)} {k b : Nat} (h : Pk r4 r5 r8 r9 k b) (hf : Four w r4 r5 r8 r9) : ∃ e cur, w.heap[b]? = some (.cells cur e (0, 0)) ∧ ((4 < k ∧ e = 2) ∨ (5 < k ∧ e = 61) ∨ (8 < k ∧ e = 121) ∨ (9 < k ∧ e = 124)) := by
  rcases h with ⟨h, m, hm, e⟩ | ⟨h, m, hm, e⟩ | ⟨h, m, hm, e⟩ | ⟨h, m, hm, e⟩
  · obtain ⟨xs, hx⟩ := hf.k4 m hm
    obtain ⟨cur, hc⟩ := own_block hx e
    exact ⟨2, cur, hc, .inl ⟨h, rfl⟩⟩
  · obtain ⟨xs, hx⟩ := hf.k5 m hm
    obtain ⟨cur, hc⟩ := own_block hx e
    exact ⟨61, cur, hc, .inr (.inl ⟨h, rfl⟩)⟩
  · obtain ⟨xs, hx⟩ := hf.k8 m hm
    obtain ⟨cur, hc⟩ := own_block hx e
    exact ⟨121, cur, hc, .inr (.inr (.inl ⟨h, rfl⟩))⟩
  · obtain ⟨xs, hx⟩ := hf.k9 m hm
    obtain ⟨cur, hc⟩ := own_block hx e
    exact ⟨124, cur, hc, .inr (.inr (.inr ⟨h, rfl⟩))⟩
/-- A row of a kind that was not written stays. -/
theorem FrB.own {w w' : World} {r4 r5 r8 r9 : List (Value × Nat)} {k base : Nat} {e : TypeId} {size : Nat} {v : Value} {n : Nat} {xs : List Value} (hF : FrB (Pk r4 r5 r8 r9 k) w w') (hf : Four w r4 r5 r8 r9) (h : w.ownsRow base e size v n xs) (he : ¬ ((4 < k ∧ e = 2) ∨ (5 < k ∧ e = 61) ∨ (8 < k ∧ e = 121) ∨ (9 < k ∧ e = 124))) : w'.ownsRow base e size v n xs := by
  refine own_same h fun b hb => hF.block b (own_lt h hb) fun hp => he ?_
  obtain ⟨cur, hc⟩ := own_block h hb
  obtain ⟨e', cur', hc', hk⟩ := hp.kind hf
  rw [hc] at hc'
  simp only [Option.some.injEq, Obj.cells.injEq] at hc'
  obtain ⟨-, rfl, -⟩ := hc'
  exact hk
theorem FrB.bag {w w' : World} {r4 r5 r8 r9 : List (Value × Nat)} {k B : Nat} {f : Nat → Value} (hF : FrB (Pk r4 r5 r8 r9 k) w w') (hf : Four w r4 r5 r8 r9) (h : BagIs w B f) : BagIs w' B f := by
  refine h.keep (hF.block B h.lt fun hp => ?_)
  obtain ⟨cs, hc, -⟩ := h
  obtain ⟨e', cur', hc', hk⟩ := hp.kind hf
  rw [hc] at hc'
  simp only [Option.some.injEq, Obj.cells.injEq] at hc'
  obtain ⟨-, rfl, -⟩ := hc'
  rcases hk with ⟨-, h⟩ | ⟨-, h⟩ | ⟨-, h⟩ | ⟨-, h⟩ <;> exact absurd h (by decide)
theorem FrB.next {w w1 w' : World} {r4 r5 r8 r9 rs : List (Value × Nat)} {k : Nat} (hF : FrB (Pk r4 r5 r8 r9 k) w1 w) (h : Fr rs w w') (hk : ∀ b, Of rs b → Pk r4 r5 r8 r9 (k + 1) b) : FrB (Pk r4 r5 r8 r9 (k + 1)) w1 w' := by
  refine (hF.then h).mono fun b hb => ?_
  rcases hb with hb | hb
  · rcases hb with ⟨h, h'⟩ | ⟨h, h'⟩ | ⟨h, h'⟩ | ⟨h, h'⟩
    · exact .inl ⟨by omega, h'⟩
    · exact .inr (.inl ⟨by omega, h'⟩)
    · exact .inr (.inr (.inl ⟨by omega, h'⟩))
    · exact .inr (.inr (.inr ⟨by omega, h'⟩))
  · exact hk b hb


end Go.Proofs.YtfaekkbblpfbhaaDoor

namespace Go.Proofs.YtfaekkbblpfbhaaDoor
open Go.RowKit

/-- An image of its own memory, an error and a place. -/
def Gave (text mem : List Int) (ent E N : Int) (w : World) (r : Ending) (w' : World) : Prop :=
  ∃ (A1 A2 : Option Addr) (c1 c2 : Nat), r = .returned (.tuple #[.agg #[.slice A1 text.length c1, .int .i64 ent, .slice A2 mem.length c2], .int .i64 E, .int .i64 N]) ∧ RowsI w' w.heap.size A1 A2 c1 c2 text mem ∧ Below w.heap.size w w'
theorem rows_nil (w : World) (n : Nat) : RowsI w n none none 0 0 [] [] := ⟨World.ownsRow_nil _ _ _ _, World.ownsRow_nil _ _ _ _⟩
theorem gave_all {b : List Int} (hA : AreB b) : ∃ (text mem : List Int) (ent E N : Int), text.length ≤ 16384 ∧ mem.length ≤ 16384 ∧ ∀ w r w', ReadP b w r w' → Gave text mem ent E N w r w' := by
  by_cases hz : (tookI b).t.bad = 0
  · obtain ⟨-, j1, j2, j3, j4, j5⟩ := tookI_write hA hz
    by_cases hk : (checkI (tookI b).text (tookI b).mem.length (tookI b).ent).1 = 0
    · refine ⟨(tookI b).text, (tookI b).mem, (tookI b).ent, 0, 0, j1, by omega, fun w r w' h => ?_⟩
      obtain ⟨hb, ⟨h0, _⟩ | ⟨_, h0, _⟩ | ⟨_, _, A1, A2, c1, c2, h1, h2⟩⟩ := h
      · exact absurd hz h0
      · exact absurd hk h0
      · exact ⟨A1, A2, c1, c2, h1, h2, hb⟩
    · refine ⟨[], [], 0, (checkI (tookI b).text (tookI b).mem.length (tookI b).ent).1, (checkI (tookI b).text (tookI b).mem.length (tookI b).ent).2, by simp, by simp, fun w r w' h => ?_⟩
      obtain ⟨hb, ⟨h0, _⟩ | ⟨_, _, h1⟩ | ⟨_, h0, _⟩⟩ := h
      · exact absurd hz h0
      · exact ⟨none, none, 0, 0, h1, rows_nil _ _, hb⟩
      · exact absurd h0 hk
  · refine ⟨[], [], 0, (tookI b).t.bad, (tookI b).t.place, by simp, by simp, fun w r w' h => ?_⟩
    obtain ⟨hb, ⟨_, h1⟩ | ⟨h0, _⟩ | ⟨h0, _⟩⟩ := h
    · exact ⟨none, none, 0, 0, h1, rows_nil _ _, hb⟩
    · exact absurd h0 hz
    · exact absurd h0 hz
theorem RowsI.off {w w1 w2 : World} {b1 : Nat} {A1 A2 B1 B2 : Option Addr} {c1 c2 e1 e2 : Nat} {text mem : List Int} (h : RowsI w1 b1 A1 A2 c1 c2 text mem) (k : RowsI w2 w.heap.size B1 B2 e1 e2 text mem) (hs : w1.heap.size ≤ w.heap.size) : Off (Value.slice A1 text.length c1).ownBlock (Value.slice B1 text.length e1).ownBlock ∧ Off (Value.slice A2 mem.length c2).ownBlock (Value.slice B2 mem.length e2).ownBlock := by
  refine ⟨fun b h1 h2 => ?_, fun b h1 h2 => ?_⟩
  · have := own_lt h.r1 h1
    have := (k.r1.lt b h2).1
    omega
  · have := own_lt h.r2 h1
    have := (k.r2.lt b h2).1
    omega
theorem off_two {n : Nat} {a b : Value} {la lb : Nat} (ha : ∀ k, a.ownBlock = some k → n ≤ k) (hb : ∀ k, b.ownBlock = some k → n ≤ k) (k : Nat) (h : Of [(a, la), (b, lb)] k) : n ≤ k := by
  obtain ⟨m, hm, e⟩ := h
  have hq : m = 0 ∨ m = 1 := by simp at hm; omega
  rcases hq with rfl | rfl
  · exact ha k e
  · exact hb k e

end Go.Proofs.YtfaekkbblpfbhaaDoor
