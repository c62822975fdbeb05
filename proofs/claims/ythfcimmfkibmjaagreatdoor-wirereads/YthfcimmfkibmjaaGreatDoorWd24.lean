/-
  Worlds that part in some blocks alone. What the statement on bytes as an object leans on; no Go in sight. The document takes bytes: Wrong, Has, Four; the bytes are at most 2^20. The document takes a number of four bytes; the bytes are at most 2^20.
-/
import Derived.Test.YthfcimmfkibmjaaGreatDoorProg
import Derived.WalkKit
import Derived.WalkSpells
import Derived.WalkLawsBesides
import Derived.RowKit3
import Derived.Below
import Derived.Deep.QuietTactic
import Derived.BigQuiet
import Derived.WalkSmall
import Derived.Laws.Rows
import Derived.Test.YthfcimmfkibmjaaGreatDoorWd22
import Derived.Test.YthfcimmfkibmjaaGreatDoorWd18
import Derived.Test.YthfcimmfkibmjaaGreatDoorWd23
import Derived.Test.YthfcimmfkibmjaaGreatDoorWd16
import Derived.Test.YthfcimmfkibmjaaGreatDoorWd20
import Derived.Test.YthfcimmfkibmjaaGreatDoorWd02
import Derived.Test.YthfcimmfkibmjaaGreatDoorWd03
import Derived.Deep.DeepCutAuto
namespace Go.Proofs.YthfcimmfkibmjaaGreatDoor
open Go.RowKit


/-- Whose block: one of the rows. -/
def Of (rs : List (Value × Nat)) (b : Nat) : Prop := ∃ m, m < rs.length ∧ (rv rs m).ownBlock = some b
/-- All that is other lies in blocks of P, or is new. -/
structure FrB (P : Nat → Prop) (w0 w : World) : Prop where
  os : w.os = w0.os
  tape : w.tape = w0.tape
  output : w.output = w0.output
  size : w0.heap.size ≤ w.heap.size
  block : ∀ b, b < w0.heap.size → ¬ P b → w.heap[b]? = w0.heap[b]?
theorem FrB.refl (P : Nat → Prop) (w : World) : FrB P w w := ⟨rfl, rfl, rfl, Nat.le_refl _, fun _ _ _ => rfl⟩
theorem FrB.mono {P Q : Nat → Prop} {w0 w : World} (h : FrB P w0 w) (hq : ∀ b, P b → Q b) : FrB Q w0 w := ⟨h.os, h.tape, h.output, h.size, fun b h1 h2 => h.block b h1 (fun h3 => h2 (hq b h3))⟩
theorem FrB.then {P : Nat → Prop} {rs : List (Value × Nat)} {w0 w w' : World} (h : FrB P w0 w) (k : Fr rs w w') : FrB (fun b => P b ∨ Of rs b) w0 w' :=
  ⟨k.os.trans h.os, k.tape.trans h.tape, k.output.trans h.output, Nat.le_trans h.size k.size, fun b hb hn => (k.block b (Nat.lt_of_lt_of_le hb h.size) (fun m hm e => hn (.inr ⟨m, hm, e⟩))).trans (h.block b hb (fun hp => hn (.inl hp)))⟩
theorem FrB.below {P : Nat → Prop} {w w1 w2 : World} {n : Nat} (h : FrB P w1 w2) (hb : Below n w w1) (hn : n ≤ w1.heap.size) (hq : ∀ b, P b → n ≤ b) : Below n w w2 :=
  ⟨h.os.trans hb.os, h.tape.trans hb.tape, h.output.trans hb.output, Nat.le_trans hb.size h.size, fun b hlt => (h.block b (by omega) (fun hp => by have := hq b hp; omega)).trans (hb.block b hlt)⟩
theorem own_same {w w' : World} {base : Nat} {e : TypeId} {size : Nat} {v : Value} {n : Nat} {xs : List Value} (h : w.ownsRow base e size v n xs) (hs : ∀ b, v.ownBlock = some b → w'.heap[b]? = w.heap[b]?) : w'.ownsRow base e size v n xs := by
  refine ⟨h.1, ?_⟩
  rcases h.2 with h1 | ⟨g, cap, cur, rfl, h2, hg, h3⟩
  · exact .inl h1
  · exact .inr ⟨g, cap, cur, rfl, h2, by rw [hs g rfl]; exact hg, h3⟩
/-- Rows of four kinds: numbers, words, symbols, relocations. -/
structure Four (w : World) (r4 r5 r8 r9 : List (Value × Nat)) : Prop where
  k4 : ∀ m, m < r4.length → ∃ xs, w.ownsRow 0 2 1 (rv r4 m) (rl r4 m) xs
  k5 : ∀ m, m < r5.length → ∃ xs, w.ownsRow 0 78 1 (rv r5 m) (rl r5 m) xs
  k8 : ∀ m, m < r8.length → ∃ xs, w.ownsRow 0 68 3 (rv r8 m) (rl r8 m) xs
  k9 : ∀ m, m < r9.length → ∃ xs, w.ownsRow 0 119 2 (rv r9 m) (rl r9 m) xs
/-- The blocks that were written ahead of the kind k. -/
def Pk (r4 r5 r8 r9 : List (Value × Nat)) (k b : Nat) : Prop := (4 < k ∧ Of r4 b) ∨ (5 < k ∧ Of r5 b) ∨ (8 < k ∧ Of r8 b) ∨ (9 < k ∧ Of r9 b)
theorem Pk.kind {w : World} {r4 r5 r8 r9 : List (Value × Nat)} {k b : Nat} (h : Pk r4 r5 r8 r9 k b) (hf : Four w r4 r5 r8 r9) : ∃ e cur, w.heap[b]? = some (.cells cur e (0, 0)) ∧ ((4 < k ∧ e = 2) ∨ (5 < k ∧ e = 78) ∨ (8 < k ∧ e = 68) ∨ (9 < k ∧ e = 119)) := by
  rcases h with ⟨h, m, hm, e⟩ | ⟨h, m, hm, e⟩ | ⟨h, m, hm, e⟩ | ⟨h, m, hm, e⟩
  · obtain ⟨xs, hx⟩ := hf.k4 m hm
    obtain ⟨cur, hc⟩ := own_block hx e
    exact ⟨2, cur, hc, .inl ⟨h, rfl⟩⟩
  · obtain ⟨xs, hx⟩ := hf.k5 m hm
    obtain ⟨cur, hc⟩ := own_block hx e
    exact ⟨78, cur, hc, .inr (.inl ⟨h, rfl⟩)⟩
  · obtain ⟨xs, hx⟩ := hf.k8 m hm
    obtain ⟨cur, hc⟩ := own_block hx e
    exact ⟨68, cur, hc, .inr (.inr (.inl ⟨h, rfl⟩))⟩
  · obtain ⟨xs, hx⟩ := hf.k9 m hm
    obtain ⟨cur, hc⟩ := own_block hx e
    exact ⟨119, cur, hc, .inr (.inr (.inr ⟨h, rfl⟩))⟩
/-- A row of a kind that was not written stays. -/
theorem FrB.own {w w' : World} {r4 r5 r8 r9 : List (Value × Nat)} {k base : Nat} {e : TypeId} {size : Nat} {v : Value} {n : Nat} {xs : List Value} (hF : FrB (Pk r4 r5 r8 r9 k) w w') (hf : Four w r4 r5 r8 r9) (h : w.ownsRow base e size v n xs) (he : ¬ ((4 < k ∧ e = 2) ∨ (5 < k ∧ e = 78) ∨ (8 < k ∧ e = 68) ∨ (9 < k ∧ e = 119))) : w'.ownsRow base e size v n xs := by
  refine own_same h fun b hb => hF.block b (own_lt h hb) fun hp => he ?_
  obtain ⟨cur, hc⟩ := own_block h hb
  obtain ⟨e', cur', hc', hk⟩ := hp.kind hf
  rw [hc] at hc'
  simp only [Option.some.injEq, Obj.cells.injEq] at hc'
  obtain ⟨-, rfl, -⟩ := hc'
  exact hk
theorem FrB.bag {w w' : World} {r4 r5 r8 r9 : List (Value × Nat)} {k B : Nat} {f : Nat → Value} (hF : FrB (Pk r4 r5 r8 r9 k) w w') (hf : Four w r4 r5 r8 r9) (h : BagIs w B f) : BagIs w' B f := by
  refine h.keep (hF.block B h.lt fun hp => ?_)
  obtain ⟨cs, hc, -⟩ := h
  obtain ⟨e', cur', hc', hk⟩ := hp.kind hf
  rw [hc] at hc'
  simp only [Option.some.injEq, Obj.cells.injEq] at hc'
  obtain ⟨-, rfl, -⟩ := hc'
  rcases hk with ⟨-, h⟩ | ⟨-, h⟩ | ⟨-, h⟩ | ⟨-, h⟩ <;> exact absurd h (by decide)
theorem FrB.next {w w1 w' : World} {r4 r5 r8 r9 rs : List (Value × Nat)} {k : Nat} (hF : FrB (Pk r4 r5 r8 r9 k) w1 w) (h : Fr rs w w') (hk : ∀ b, Of rs b → Pk r4 r5 r8 r9 (k + 1) b) : FrB (Pk r4 r5 r8 r9 (k + 1)) w1 w' := by
  refine (hF.then h).mono fun b hb => ?_
  rcases hb with hb | hb
  · rcases hb with ⟨h, h'⟩ | ⟨h, h'⟩ | ⟨h, h'⟩ | ⟨h, h'⟩
    · exact .inl ⟨by omega, h'⟩
    · exact .inr (.inl ⟨by omega, h'⟩)
    · exact .inr (.inr (.inl ⟨by omega, h'⟩))
    · exact .inr (.inr (.inr ⟨by omega, h'⟩))
  · exact hk b hb

end Go.Proofs.YthfcimmfkibmjaaGreatDoor

namespace Go.Proofs.YthfcimmfkibmjaaGreatDoor
open Go.RowKit


/-- An object of its own memory, an error, a place. -/
def Gave (nm : ByteArray) (code : List Int) (dA : Int) (data : List Int) (ss : List Sym) (rs : List Rel) (E N : Int) (w : World) (r : Ending) (w' : World) : Prop :=
  ∃ (A1 A2 A3 A4 : Option Addr) (c1 c2 c3 c4 : Nat), r = .returned (.tuple #[.agg #[.string nm, .slice A1 code.length c1, .int .i64 dA, .slice A2 data.length c2, .slice A3 ss.length c3, .slice A4 rs.length c4], .int .i64 E, .int .i64 N]) ∧ RowsO w' w.heap.size A1 A2 A3 A4 c1 c2 c3 c4 code data ss rs ∧ Below w.heap.size w w'
theorem gave_all {b : List Int} (hA : AreB b) : ∃ (nm : ByteArray) (code : List Int) (dA : Int) (data : List Int) (ss : List Sym) (rs : List Rel) (E N : Int), code.length ≤ 16384 ∧ data.length ≤ 16384 ∧ ss.length ≤ 16384 ∧ rs.length ≤ 16384 ∧ ∀ w r w', ReadP b w r w' → Gave nm code dA data ss rs E N w r w' := by
  by_cases h : (took b).t.bad = 0
  · by_cases h2 : (checkC (took b).nm (took b).code (took b).dA (took b).data.length (took b).ss (took b).rs).1 = 0
    · obtain ⟨_, k1, k2, k3, k4, k5, k6, k7, k8, k9, k10⟩ := took_write hA h
      refine ⟨(took b).nm, (took b).code, (took b).dA, (took b).data, (took b).ss, (took b).rs, 0, 0, by omega, by omega, by omega, by omega, fun w r w' hr => ?_⟩
      obtain ⟨hb, ⟨e, _⟩ | ⟨_, e, _⟩ | ⟨_, _, A1, A2, A3, A4, c1, c2, c3, c4, rfl, rows⟩⟩ := hr
      · exact absurd h e
      · exact absurd h2 e
      · exact ⟨A1, A2, A3, A4, c1, c2, c3, c4, rfl, rows, hb⟩
    · refine ⟨⟨#[]⟩, [], 0, [], [], [], (checkC (took b).nm (took b).code (took b).dA (took b).data.length (took b).ss (took b).rs).1, (checkC (took b).nm (took b).code (took b).dA (took b).data.length (took b).ss (took b).rs).2, by simp, by simp, by simp, by simp, fun w r w' hr => ?_⟩
      obtain ⟨hb, ⟨e, _⟩ | ⟨_, _, rfl⟩ | ⟨_, e, _⟩⟩ := hr
      · exact absurd h e
      · exact ⟨none, none, none, none, 0, 0, 0, 0, rfl, ⟨World.ownsRow_nil _ _ _ _, World.ownsRow_nil _ _ _ _, World.ownsRow_nil _ _ _ _, World.ownsRow_nil _ _ _ _⟩, hb⟩
      · exact absurd e h2
  · refine ⟨⟨#[]⟩, [], 0, [], [], [], (took b).t.bad, (took b).t.place, by simp, by simp, by simp, by simp, fun w r w' hr => ?_⟩
    obtain ⟨hb, ⟨_, rfl⟩ | ⟨e, _⟩ | ⟨e, _⟩⟩ := hr
    · exact ⟨none, none, none, none, 0, 0, 0, 0, rfl, ⟨World.ownsRow_nil _ _ _ _, World.ownsRow_nil _ _ _ _, World.ownsRow_nil _ _ _ _, World.ownsRow_nil _ _ _ _⟩, hb⟩
    · exact absurd e h
    · exact absurd e h
theorem RowsO.off {w w1 w2 : World} {b1 : Nat} {A1 A2 A3 A4 B1 B2 B3 B4 : Option Addr} {c1 c2 c3 c4 e1 e2 e3 e4 : Nat} {code data : List Int} {ss : List Sym} {rs : List Rel} (h : RowsO w1 b1 A1 A2 A3 A4 c1 c2 c3 c4 code data ss rs) (k : RowsO w2 w.heap.size B1 B2 B3 B4 e1 e2 e3 e4 code data ss rs) (hs : w1.heap.size ≤ w.heap.size) :
    Off (Value.slice A1 code.length c1).ownBlock (Value.slice B1 code.length e1).ownBlock ∧ Off (Value.slice A2 data.length c2).ownBlock (Value.slice B2 data.length e2).ownBlock ∧ Off (Value.slice A3 ss.length c3).ownBlock (Value.slice B3 ss.length e3).ownBlock ∧ Off (Value.slice A4 rs.length c4).ownBlock (Value.slice B4 rs.length e4).ownBlock := by
  refine ⟨fun b h1 h2 => ?_, fun b h1 h2 => ?_, fun b h1 h2 => ?_, fun b h1 h2 => ?_⟩
  · have := own_lt h.r1 h1
    have := (k.r1.lt b h2).1
    omega
  · have := own_lt h.r2 h1
    have := (k.r2.lt b h2).1
    omega
  · have := own_lt h.r3 h1
    have := (k.r3.lt b h2).1
    omega
  · have := own_lt h.r4 h1
    have := (k.r4.lt b h2).1
    omega
theorem off_two {n : Nat} {a b : Value} {la lb : Nat} (ha : ∀ k, a.ownBlock = some k → n ≤ k) (hb : ∀ k, b.ownBlock = some k → n ≤ k) (k : Nat) (h : Of [(a, la), (b, lb)] k) : n ≤ k := by
  obtain ⟨m, hm, e⟩ := h
  have hq : m = 0 ∨ m = 1 := by simp at hm; omega
  rcases hq with rfl | rfl
  · exact ha k e
  · exact hb k e

end Go.Proofs.YthfcimmfkibmjaaGreatDoor

namespace Go.Proofs.YthfcimmfkibmjaaGreatDoor
open Go.RowKit

theorem wrong_any (g : Nat) (A : Option Addr) (n c : Nat) (t : Tk) (e p : Int) (w : World) (ht : TkAt w g A n c t) :
    Calls Tryz.prog 113 #[.pointer (some ⟨g, 0, none⟩), .int .i64 e, .int .i64 p] w fun r w' => r = .returned (.tuple #[]) ∧ But g w w' ∧ TkAt w' g A n c (tWrong t e p) := by
  obtain ⟨⟨c0, c1, c2, c3⟩, hf⟩ := ht
  have f2 := hf 2
  have f3 := hf 3
  have HT : Hid (TkAt w g A n c t) := ⟨⟨c0, c1, c2, c3⟩, hf⟩
  clear hf
  cases h : (t.bad == 0) with
  | true =>
    have HW : Hid (tWrong t e p = ⟨t.pos, e, p⟩) := by unfold Hid tWrong; rw [if_pos (by simpa using h)]
    go_enter Tryz.func113, Tryz.ntmps113
    go_wp2
    go_end0
    exact ⟨rfl, ((But.refl _ _).set _ _).set _ _, by rw [HW.out]; exact HT.out.wrongTo e p⟩
  | false =>
    have HW : Hid (tWrong t e p = t) := by unfold Hid tWrong; rw [if_neg (by simpa using h)]
    go_enter Tryz.func113, Tryz.ntmps113
    go_wp2
    go_end0
    exact ⟨rfl, But.refl _ _, by rw [HW.out]; exact HT.out⟩
theorem has_any (g : Nat) (A : Option Addr) (N c : Nat) (t : Tk) (n : Int) (w : World) (ht : TkAt w g A N c t) (hN : N ≤ 1048576) (hp : t.pos ≤ 1048640) (hn0 : 0 ≤ n) (hn : n ≤ 1048576) :
    Calls Tryz.prog 114 #[.pointer (some ⟨g, 0, none⟩), .int .i64 n] w fun r w' => r = .returned (.bool ((tHas N t n).bad == 0)) ∧ But g w w' ∧ TkAt w' g A N c (tHas N t n) := by
  have ht' := ht
  obtain ⟨⟨c0, c1, c2, c3⟩, hf⟩ := ht'
  have HT : Hid (TkAt w g A N c t) := ht
  have CW := fun wx (h : TkAt wx g A N c t) => wrong_any g A N c t 27 N wx h
  clear hf ht
  cases h : (t.bad == 0) with
  | true =>
    by_cases h2 : (N : Int) - t.pos < n
    · have HH : Hid (tHas N t n = ⟨t.pos, 27, N⟩) := by unfold Hid tHas; rw [if_pos ⟨by simpa using h, h2⟩]
      have HW : Hid (tWrong t 27 N = ⟨t.pos, 27, N⟩) := by unfold Hid tWrong; rw [if_pos (by simpa using h)]
      have h2d : decide ((N : Int) - t.pos < n) = true := decide_eq_true h2
      go_enter Tryz.func114, Tryz.ntmps114
      go_wp2_with fail
      go_big_quiet (fail)
      go_wp2_with fail
      refine (CW _ (HT.out.drewN _)).mono ?_
      rintro r w1 ⟨rfl, hb1, ht1⟩
      rw [HW.out] at ht1
      have HB : Hid (But g w w1) := hb1
      have HT1 : Hid (TkAt w1 g A N c ⟨t.pos, 27, N⟩) := ht1
      obtain ⟨⟨_, _, d2, _⟩, _⟩ := ht1
      clear hb1
      go_wp2
      go_ret
      exact ⟨by rw [HH.out]; rfl, HB.out, by rw [HH.out]; exact HT1.out⟩
    · have HH : Hid (tHas N t n = t) := by unfold Hid tHas; rw [if_neg (fun k => h2 k.2)]
      have HZ : Hid ((t.bad == 0) = true) := h
      have h2d : decide ((N : Int) - t.pos < n) = false := decide_eq_false h2
      go_enter Tryz.func114, Tryz.ntmps114
      go_wp2_with fail
      go_big_quiet (fail)
      go_wp2
      go_ret
      exact ⟨by rw [HH.out, HZ.out]; rfl, (But.refl _ _).drewN _, by rw [HH.out]; exact HT.out.drewN _⟩
  | false =>
    have HH : Hid (tHas N t n = t) := by unfold Hid tHas; rw [if_neg (fun k => by have := k.1; simp [this] at h)]
    have HZ : Hid ((t.bad == 0) = false) := h
    go_enter Tryz.func114, Tryz.ntmps114
    go_wp2_with fail
    go_big_quiet (fail)
    go_wp2
    go_ret
    exact ⟨by rw [HH.out, HZ.out]; rfl, (But.refl _ _).drewN _, by rw [HH.out]; exact HT.out.drewN _⟩


end Go.Proofs.YthfcimmfkibmjaaGreatDoor

namespace Go.Proofs.YthfcimmfkibmjaaGreatDoor
open Go.RowKit

/-- The number that the first k bytes make. -/
def vk (l : List Int) : Nat → Int
  | 0 => 0
  | k + 1 => 256 * vk l k + nth l k
theorem nth_byte {l : List Int} (h : AreB l) (k : Nat) : 0 ≤ nth l k ∧ nth l k < 256 := by
  unfold nth
  by_cases hk : k < l.length
  · exact h _ (by simp [List.getD, hk])
  · rw [List.getD, List.getElem?_eq_none (by omega)]; simp
theorem vk_small {l : List Int} (h : AreB l) (k : Nat) (hk : k ≤ 3) : 0 ≤ vk l k ∧ vk l k ≤ 16777215 := by
  have h0 := nth_byte h 0
  have h1 := nth_byte h 1
  have h2 := nth_byte h 2
  have hq : k = 0 ∨ k = 1 ∨ k = 2 ∨ k = 3 := by omega
  rcases hq with rfl | rfl | rfl | rfl <;> simp only [vk] <;> omega
theorem v4_vk {l : List Int} (h : 4 ≤ l.length) : v4 l = vk l 4 := by
  obtain ⟨a, b, c, d, r, rfl⟩ := four_parts h
  simp only [v4, vk, nth, List.getD_cons_zero, List.getD_cons_succ]
  omega
theorem nth_dropr (l : List Int) (p k : Nat) : nth (l.drop p) k = nth l (p + k) := by simp [nth, List.getD]
set_option maxRecDepth 100000 in
set_option maxHeartbeats 1000000 in
theorem tfour_any (g : Nat) (A : Option Addr) (c : Nat) (b : List Int) (t : Tk) (w0 w : World) (hB : IntsAt w0 A .u8 b) (hb0 : Below w0.heap.size w0 w) (hg0 : w0.heap.size ≤ g) (hA : AreB b) (hN : b.length ≤ 1048576) (hp : t.pos ≤ 1048600) (ht : TkAt w g A b.length c t) : Calls Tryz.prog 64 #[.pointer (some ⟨g, 0, none⟩)] w fun r w' => r = .returned (.int .u32 (tFour b t).1) ∧ But g w w' ∧ TkAt w' g A b.length c (tFour b t).2 := by
  have CH := has_any g A b.length c t 4 w ht hN (by omega) (by omega) (by omega)
  by_cases hh : (tHas b.length t 4).bad = 0
  · obtain ⟨hz, hl, he⟩ := tHas_ok hh
    have HF : Hid (tFour b t = (v4 (b.drop t.pos), ⟨t.pos + 4, 0, t.place⟩)) := by unfold Hid tFour; rw [if_pos hh]
    have HV : Hid (v4 (b.drop t.pos) = vk (b.drop t.pos) 4) := v4_vk (by simp; omega)
    rw [show ((tHas b.length t 4).bad == 0) = true by rw [hh]; rfl, he] at CH
    clear hh he
    go_enter Tryz.func64, Tryz.ntmps64
    go_wp2_with fail
    refine CH.mono ?_
    rintro r w1 ⟨rfl, hb1, ht1⟩
    have HB1 : Hid (But g w w1) := hb1
    have HT1 : Hid (TkAt w1 g A b.length c t) := ht1
    have HW1 : Hid (Below w0.heap.size w0 w1) := hb1.below hb0 hg0
    obtain ⟨⟨c0, c1, c2, c3⟩, hf⟩ := ht1
    have f1 := hf 1
    clear hb1 hf CH
    go_wp2
    go_loopw [4, 3] (fun i v wr => ∃ k n : Nat, i = .int .i64 k ∧ k ≤ 4 ∧ v = .int .u32 (vk (b.drop t.pos) k) ∧ wr = w1.drewN n) (fun i _ _ => 4 - (intOf i).toNat)
    case atStart => exact ⟨0, 0, rfl, by omega, rfl, rfl⟩
    case round =>
      obtain ⟨k, n, rfl, hk, rfl, rfl⟩ := hrel
      by_cases hlt : k < 4
      · obtain ⟨a, rfl, q⟩ := (hB.keep HW1.out) (t.pos + k) (by omega)
        have hx := nth_byte (hA.drop t.pos) k
        have hv := vk_small (hA.drop t.pos) k (by omega)
        rw [← nth_dropr] at q
        have HS : Hid (vk (b.drop t.pos) (k + 1) = 256 * vk (b.drop t.pos) k + nth (b.drop t.pos) k) := rfl
        generalize nth (b.drop t.pos) k = x at q hx HS
        generalize vk (b.drop t.pos) k = v at hv HS
        go_upto_region 7 with fail
        go_big_quiet (fail)
        go_wp2
        go_roundw
        case rel => exact ⟨k + 1, _, by go_num, by omega, by rw [HS.out], rfl⟩
        case measure => simp [intOf]; omega
      · obtain rfl : k = 4 := by omega
        go_wp2
        go_ret
        exact ⟨by rw [HF.out]; simp only; rw [HV.out]; rfl, (HB1.out.drewN n).set _ _, by rw [HF.out]; simp only; rw [← hz]; exact (HT1.out.drewN n).posTo _⟩
  · have HF : Hid (tFour b t = (0, tHas b.length t 4)) := by unfold Hid tFour; rw [if_neg hh]
    rw [show ((tHas b.length t 4).bad == 0) = false by simpa using hh] at CH
    clear hh
    go_enter Tryz.func64, Tryz.ntmps64
    go_wp2_with fail
    refine CH.mono ?_
    rintro r w1 ⟨rfl, hb1, ht1⟩
    have HB1 : Hid (But g w w1) := hb1
    have HT1 : Hid (TkAt w1 g A b.length c (tHas b.length t 4)) := ht1
    clear hb1 ht1 CH
    go_wp2
    go_ret
    exact ⟨by rw [HF.out]; rfl, HB1.out, by rw [HF.out]; exact HT1.out⟩


end Go.Proofs.YthfcimmfkibmjaaGreatDoor
