/-
  Lists that are not there lie apart. A bag: do its lists lie apart? Kind by kind. A taker in memory, and worlds that part in its block alone; no Go in sight. An output in memory: its box and its own row of bytes; no Go in sight.
-/
import Derived.Test.YtokhclindfipbaaGreatDoorProg
import Derived.WalkKit
import Derived.WalkSpells
import Derived.WalkLawsBesides
import Derived.RowKit3
import Derived.Below
import Derived.Deep.QuietTactic
import Derived.BigQuiet
import Derived.WalkSmall
import Derived.Laws.Rows
import Derived.Test.YtokhclindfipbaaGreatDoorPa51
import Derived.Test.YtokhclindfipbaaGreatDoorPa06
import Derived.Test.YtokhclindfipbaaGreatDoorPa02
namespace Go.Proofs.YtokhclindfipbaaGreatDoor
open Go.RowKit


set_option maxRecDepth 100000 in
set_option maxHeartbeats 1000000 in
theorem none_53 (B : Nat) (w : World) (hb : w.cell? ⟨B, 11, none⟩ = some (.slice none 0 0)) : Calls Tryz.prog 50 #[.pointer (some ⟨B, 0, none⟩)] w fun r w' => r = .returned (.bool true) ∧ w' = w := by
  go_enter Tryz.func50, Tryz.ntmps50
  go_wp2
  go_loopw [3] (fun n wr => n = .int .i64 0 ∧ wr = w) (fun _ _ => 0)
  case atStart => exact ⟨rfl, rfl⟩
  case round =>
    obtain ⟨rfl, rfl⟩ := hrel
    go_wp2
    go_loopw [7, 6] (fun n m w2 => n = .int .i64 0 ∧ m = .slice none 0 0 ∧ w2 = wr) (fun _ _ _ => 0)
    case atStart => exact ⟨rfl, rfl, rfl⟩
    case round =>
      obtain ⟨rfl, rfl, rfl⟩ := hrel
      go_wp2
      go_loopw [10] (fun n w3 => n = .int .i64 0 ∧ w3 = wr) (fun _ _ => 0)
      case atStart => exact ⟨rfl, rfl⟩
      case round =>
        obtain ⟨rfl, rfl⟩ := hrel
        go_wp2
        go_ret
        exact ⟨rfl, rfl⟩

set_option maxRecDepth 100000 in
set_option maxHeartbeats 1000000 in
theorem none_54 (B : Nat) (w : World) (hb : w.cell? ⟨B, 12, none⟩ = some (.slice none 0 0)) : Calls Tryz.prog 51 #[.pointer (some ⟨B, 0, none⟩)] w fun r w' => r = .returned (.bool true) ∧ w' = w := by
  go_enter Tryz.func51, Tryz.ntmps51
  go_wp2
  go_loopw [3] (fun n wr => n = .int .i64 0 ∧ wr = w) (fun _ _ => 0)
  case atStart => exact ⟨rfl, rfl⟩
  case round =>
    obtain ⟨rfl, rfl⟩ := hrel
    go_wp2
    go_loopw [7, 6] (fun n m w2 => n = .int .i64 0 ∧ m = .slice none 0 0 ∧ w2 = wr) (fun _ _ _ => 0)
    case atStart => exact ⟨rfl, rfl, rfl⟩
    case round =>
      obtain ⟨rfl, rfl, rfl⟩ := hrel
      go_wp2
      go_loopw [10] (fun n w3 => n = .int .i64 0 ∧ w3 = wr) (fun _ _ => 0)
      case atStart => exact ⟨rfl, rfl⟩
      case round =>
        obtain ⟨rfl, rfl⟩ := hrel
        go_wp2
        go_ret
        exact ⟨rfl, rfl⟩

set_option maxRecDepth 100000 in
set_option maxHeartbeats 1000000 in
theorem none_55 (B : Nat) (w : World) (hb : w.cell? ⟨B, 13, none⟩ = some (.slice none 0 0)) : Calls Tryz.prog 52 #[.pointer (some ⟨B, 0, none⟩)] w fun r w' => r = .returned (.bool true) ∧ w' = w := by
  go_enter Tryz.func52, Tryz.ntmps52
  go_wp2
  go_loopw [3] (fun n wr => n = .int .i64 0 ∧ wr = w) (fun _ _ => 0)
  case atStart => exact ⟨rfl, rfl⟩
  case round =>
    obtain ⟨rfl, rfl⟩ := hrel
    go_wp2
    go_loopw [7, 6] (fun n m w2 => n = .int .i64 0 ∧ m = .slice none 0 0 ∧ w2 = wr) (fun _ _ _ => 0)
    case atStart => exact ⟨rfl, rfl, rfl⟩
    case round =>
      obtain ⟨rfl, rfl, rfl⟩ := hrel
      go_wp2
      go_loopw [10] (fun n w3 => n = .int .i64 0 ∧ w3 = wr) (fun _ _ => 0)
      case atStart => exact ⟨rfl, rfl⟩
      case round =>
        obtain ⟨rfl, rfl⟩ := hrel
        go_wp2
        go_ret
        exact ⟨rfl, rfl⟩

set_option maxRecDepth 100000 in
set_option maxHeartbeats 1000000 in
theorem none_56 (B : Nat) (w : World) (hb : w.cell? ⟨B, 14, none⟩ = some (.slice none 0 0)) : Calls Tryz.prog 53 #[.pointer (some ⟨B, 0, none⟩)] w fun r w' => r = .returned (.bool true) ∧ w' = w := by
  go_enter Tryz.func53, Tryz.ntmps53
  go_wp2
  go_loopw [3] (fun n wr => n = .int .i64 0 ∧ wr = w) (fun _ _ => 0)
  case atStart => exact ⟨rfl, rfl⟩
  case round =>
    obtain ⟨rfl, rfl⟩ := hrel
    go_wp2
    go_loopw [7, 6] (fun n m w2 => n = .int .i64 0 ∧ m = .slice none 0 0 ∧ w2 = wr) (fun _ _ _ => 0)
    case atStart => exact ⟨rfl, rfl, rfl⟩
    case round =>
      obtain ⟨rfl, rfl, rfl⟩ := hrel
      go_wp2
      go_loopw [10] (fun n w3 => n = .int .i64 0 ∧ w3 = wr) (fun _ _ => 0)
      case atStart => exact ⟨rfl, rfl⟩
      case round =>
        obtain ⟨rfl, rfl⟩ := hrel
        go_wp2
        go_ret
        exact ⟨rfl, rfl⟩

set_option maxRecDepth 100000 in
set_option maxHeartbeats 1000000 in
theorem none_57 (B : Nat) (w : World) (hb : w.cell? ⟨B, 15, none⟩ = some (.slice none 0 0)) : Calls Tryz.prog 54 #[.pointer (some ⟨B, 0, none⟩)] w fun r w' => r = .returned (.bool true) ∧ w' = w := by
  go_enter Tryz.func54, Tryz.ntmps54
  go_wp2
  go_loopw [3] (fun n wr => n = .int .i64 0 ∧ wr = w) (fun _ _ => 0)
  case atStart => exact ⟨rfl, rfl⟩
  case round =>
    obtain ⟨rfl, rfl⟩ := hrel
    go_wp2
    go_loopw [7, 6] (fun n m w2 => n = .int .i64 0 ∧ m = .slice none 0 0 ∧ w2 = wr) (fun _ _ _ => 0)
    case atStart => exact ⟨rfl, rfl, rfl⟩
    case round =>
      obtain ⟨rfl, rfl, rfl⟩ := hrel
      go_wp2
      go_loopw [10] (fun n w3 => n = .int .i64 0 ∧ w3 = wr) (fun _ _ => 0)
      case atStart => exact ⟨rfl, rfl⟩
      case round =>
        obtain ⟨rfl, rfl⟩ := hrel
        go_wp2
        go_ret
        exact ⟨rfl, rfl⟩

set_option maxRecDepth 100000 in
set_option maxHeartbeats 1000000 in
theorem none_58 (B : Nat) (w : World) (hb : w.cell? ⟨B, 16, none⟩ = some (.slice none 0 0)) : Calls Tryz.prog 55 #[.pointer (some ⟨B, 0, none⟩)] w fun r w' => r = .returned (.bool true) ∧ w' = w := by
  go_enter Tryz.func55, Tryz.ntmps55
  go_wp2
  go_loopw [3] (fun n wr => n = .int .i64 0 ∧ wr = w) (fun _ _ => 0)
  case atStart => exact ⟨rfl, rfl⟩
  case round =>
    obtain ⟨rfl, rfl⟩ := hrel
    go_wp2
    go_loopw [7, 6] (fun n m w2 => n = .int .i64 0 ∧ m = .slice none 0 0 ∧ w2 = wr) (fun _ _ _ => 0)
    case atStart => exact ⟨rfl, rfl, rfl⟩
    case round =>
      obtain ⟨rfl, rfl, rfl⟩ := hrel
      go_wp2
      go_loopw [10] (fun n w3 => n = .int .i64 0 ∧ w3 = wr) (fun _ _ => 0)
      case atStart => exact ⟨rfl, rfl⟩
      case round =>
        obtain ⟨rfl, rfl⟩ := hrel
        go_wp2
        go_ret
        exact ⟨rfl, rfl⟩







end Go.Proofs.YtokhclindfipbaaGreatDoor

namespace Go.Proofs.YtokhclindfipbaaGreatDoor
open Go.RowKit


set_option maxRecDepth 100000 in
set_option maxHeartbeats 2000000 in
theorem apart_any (B : Nat) (I : Nat → World → Prop) (h : ∀ k, k < 17 → ∀ w, I k w → Calls Tryz.prog (39 + k) #[.pointer (some ⟨B, 0, none⟩)] w fun r w' => r = .returned (.bool true) ∧ I (k + 1) w') (w0 : World) (h0 : I 0 w0) :
    Calls Tryz.prog 21 #[.pointer (some ⟨B, 0, none⟩)] w0 fun r w' => r = .returned (.bool true) ∧ I 17 w' := by
  have H : Hid _ := h
  have H0 : Hid _ := h0
  clear h h0
  go_enter Tryz.func21, Tryz.ntmps21
  go_wp2_with fail
  refine (H.out 0 (by omega) _ H0.out).mono ?_
  rintro r w1 ⟨rfl, h1⟩
  have H1 : Hid _ := h1
  clear h1
  go_wp2_with fail
  refine (H.out 1 (by omega) _ H1.out).mono ?_
  rintro r w2 ⟨rfl, h2⟩
  have H2 : Hid _ := h2
  clear h2
  go_wp2_with fail
  refine (H.out 2 (by omega) _ H2.out).mono ?_
  rintro r w3 ⟨rfl, h3⟩
  have H3 : Hid _ := h3
  clear h3
  go_wp2_with fail
  refine (H.out 3 (by omega) _ H3.out).mono ?_
  rintro r w4 ⟨rfl, h4⟩
  have H4 : Hid _ := h4
  clear h4
  go_wp2_with fail
  refine (H.out 4 (by omega) _ H4.out).mono ?_
  rintro r w5 ⟨rfl, h5⟩
  have H5 : Hid _ := h5
  clear h5
  go_wp2_with fail
  refine (H.out 5 (by omega) _ H5.out).mono ?_
  rintro r w6 ⟨rfl, h6⟩
  have H6 : Hid _ := h6
  clear h6
  go_wp2_with fail
  refine (H.out 6 (by omega) _ H6.out).mono ?_
  rintro r w7 ⟨rfl, h7⟩
  have H7 : Hid _ := h7
  clear h7
  go_wp2_with fail
  refine (H.out 7 (by omega) _ H7.out).mono ?_
  rintro r w8 ⟨rfl, h8⟩
  have H8 : Hid _ := h8
  clear h8
  go_wp2_with fail
  refine (H.out 8 (by omega) _ H8.out).mono ?_
  rintro r w9 ⟨rfl, h9⟩
  have H9 : Hid _ := h9
  clear h9
  go_wp2_with fail
  refine (H.out 9 (by omega) _ H9.out).mono ?_
  rintro r w10 ⟨rfl, h10⟩
  have H10 : Hid _ := h10
  clear h10
  go_wp2_with fail
  refine (H.out 10 (by omega) _ H10.out).mono ?_
  rintro r w11 ⟨rfl, h11⟩
  have H11 : Hid _ := h11
  clear h11
  go_wp2_with fail
  refine (H.out 11 (by omega) _ H11.out).mono ?_
  rintro r w12 ⟨rfl, h12⟩
  have H12 : Hid _ := h12
  clear h12
  go_wp2_with fail
  refine (H.out 12 (by omega) _ H12.out).mono ?_
  rintro r w13 ⟨rfl, h13⟩
  have H13 : Hid _ := h13
  clear h13
  go_wp2_with fail
  refine (H.out 13 (by omega) _ H13.out).mono ?_
  rintro r w14 ⟨rfl, h14⟩
  have H14 : Hid _ := h14
  clear h14
  go_wp2_with fail
  refine (H.out 14 (by omega) _ H14.out).mono ?_
  rintro r w15 ⟨rfl, h15⟩
  have H15 : Hid _ := h15
  clear h15
  go_wp2_with fail
  refine (H.out 15 (by omega) _ H15.out).mono ?_
  rintro r w16 ⟨rfl, h16⟩
  have H16 : Hid _ := h16
  clear h16
  go_wp2_with fail
  refine (H.out 16 (by omega) _ H16.out).mono ?_
  rintro r w17 ⟨rfl, h17⟩
  have H17 : Hid _ := h17
  clear h17
  go_wp2
  go_ret
  exact ⟨rfl, H17.out⟩







end Go.Proofs.YtokhclindfipbaaGreatDoor

namespace Go.Proofs.YtokhclindfipbaaGreatDoor
open Go.RowKit

theorem But.setAt {g : Nat} {a b : World} (h : But g a b) (i : Nat) (v : Value) : But g a (b.setCell ⟨g, i, none⟩ v) := h.set i v
/-- A taker: its bytes, where it stands, what is wrong. -/
def TkAt (w : World) (g : Nat) (A : Option Addr) (n c : Nat) (t : Tk) : Prop :=
  (w.cell? ⟨g, 0, none⟩ = some (.slice A n c) ∧ w.cell? ⟨g, 1, none⟩ = some (.int .i64 t.pos) ∧ w.cell? ⟨g, 2, none⟩ = some (.int .i64 t.bad) ∧ w.cell? ⟨g, 3, none⟩ = some (.int .i64 t.place)) ∧ ∀ i, w.frozen? ⟨g, i, none⟩ = false
theorem TkAt.keep {w w' : World} {g : Nat} {A : Option Addr} {n c : Nat} {t : Tk} (h : TkAt w g A n c t) (hb : Below w.heap.size w w') : TkAt w' g A n c t :=
  ⟨⟨lkeep hb h.1.1, lkeep hb h.1.2.1, lkeep hb h.1.2.2.1, lkeep hb h.1.2.2.2⟩, fun i => by
    have hl : g < w.heap.size := World.block_lt_of_cell? w ⟨g, 0, none⟩ h.1.1
    rw [hb.frozen (p := ⟨g, i, none⟩) hl]; exact h.2 i⟩
theorem TkAt.drewN {w : World} {g : Nat} {A : Option Addr} {n c : Nat} {t : Tk} (h : TkAt w g A n c t) (k : Nat) : TkAt (w.drewN k) g A n c t := h
theorem TkAt.posTo {w : World} {g : Nat} {A : Option Addr} {n c : Nat} {t : Tk} (h : TkAt w g A n c t) (p : Nat) : TkAt (w.setCell ⟨g, 1, none⟩ (.int .i64 p)) g A n c ⟨p, t.bad, t.place⟩ := by
  refine ⟨⟨?_, ?_, ?_, ?_⟩, fun i => ?_⟩
  · rw [← h.1.1]; simp [go_sem]
  · simp [go_sem, h.1.2.1]
  · rw [← h.1.2.2.1]; simp [go_sem]
  · rw [← h.1.2.2.2]; simp [go_sem]
  · rw [← h.2 i]; simp [go_sem]
theorem TkAt.wrongTo {w : World} {g : Nat} {A : Option Addr} {n c : Nat} {t : Tk} (h : TkAt w g A n c t) (e p : Int) : TkAt ((w.setCell ⟨g, 2, none⟩ (.int .i64 e)).setCell ⟨g, 3, none⟩ (.int .i64 p)) g A n c ⟨t.pos, e, p⟩ := by
  refine ⟨⟨?_, ?_, ?_, ?_⟩, fun i => ?_⟩
  · rw [← h.1.1]; simp [go_sem]
  · rw [← h.1.2.1]; simp [go_sem]
  · simp [go_sem, h.1.2.2.1]
  · simp [go_sem, h.1.2.2.2]
  · rw [← h.2 i]; simp [go_sem]







end Go.Proofs.YtokhclindfipbaaGreatDoor

namespace Go.Proofs.YtokhclindfipbaaGreatDoor
open Go.RowKit


/-- Bytes as cells. -/
def bNews (l : List Int) : List Value := l.map (Value.int .u8)
theorem bNews_len (l : List Int) : (bNews l).length = l.length := by simp [bNews]
theorem bNews_one (l : List Int) : ∀ u ∈ bNews l, u.oneCell' = true := fun u hu => by
  unfold bNews at hu
  obtain ⟨x, _, rfl⟩ := List.mem_map.1 hu
  rfl
theorem bNews_app (l r : List Int) : bNews l ++ bNews r = bNews (l ++ r) := by simp [bNews]
theorem be4_mod (x : Int) : be4 (x % 4294967296) = be4 x := by
  simp only [be4, List.cons.injEq, and_true]
  omega
/-- No row of bytes. -/
def NoB (w : World) (k : Nat) : Prop := ∀ cur, w.heap[k]? ≠ some (.cells cur 5 (0, 0))
/-- Nothing is other but the box g and rows of bytes behind it. -/
structure OutTo (g : Nat) (w w' : World) : Prop where
  os : w'.os = w.os
  tape : w'.tape = w.tape
  output : w'.output = w.output
  size : w.heap.size ≤ w'.heap.size
  block : ∀ k, k < w.heap.size → k ≠ g → (k < g ∨ NoB w k) → w'.heap[k]? = w.heap[k]?
theorem OutTo.refl (g : Nat) (w : World) : OutTo g w w := ⟨rfl, rfl, rfl, Nat.le_refl _, fun _ _ _ _ => rfl⟩
theorem OutTo.trans {g : Nat} {w w1 w2 : World} (h : OutTo g w w1) (k : OutTo g w1 w2) : OutTo g w w2 := by
  refine ⟨k.os.trans h.os, k.tape.trans h.tape, k.output.trans h.output, Nat.le_trans h.size k.size, fun i hi hg hr => ?_⟩
  have e := h.block i hi hg hr
  refine (k.block i (Nat.lt_of_lt_of_le hi h.size) hg ?_).trans e
  rcases hr with hr | hr
  · exact Or.inl hr
  · exact Or.inr fun cur => by rw [e]; exact hr cur
theorem OutTo.of {g : Nat} {w w1 : World} (hb : Below w.heap.size w w1) : OutTo g w w1 := ⟨hb.os, hb.tape, hb.output, hb.size, fun i hi _ _ => hb.block i hi⟩
theorem OutTo.below {g : Nat} {w w1 : World} (hg : g < w.heap.size) (k : OutTo g w w1) : Below g w w1 :=
  ⟨k.os, k.tape, k.output, k.size, fun i hi => k.block i (by omega) (by omega) (Or.inl hi)⟩
/-- A block that is no row of bytes and not the box stays. -/
theorem OutTo.box {g : Nat} {w w1 : World} (k : OutTo g w w1) {B : Nat} {cur : Array Value} {t : TypeId} (hb : w.heap[B]? = some (.cells cur t (0, 0))) (ht : t ≠ 5) (hg : B ≠ g) : w1.heap[B]? = some (.cells cur t (0, 0)) := by
  rw [k.block B (Array.getElem?_eq_some_iff.1 hb).1 hg (Or.inr fun c => by rw [hb]; intro e; cases e; exact ht rfl)]; exact hb
theorem OutTo.cell {g : Nat} {w w1 : World} (k : OutTo g w w1) (hgw : g < w.heap.size) {p : Addr} {v : Value} (hc : w.cell? p = some v) (hg : p.block < g) : w1.cell? p = some v := by
  rw [World.cell?_of_block (w := w) ((k.below hgw).block p.block hg)]; exact hc
theorem own_noB {w : World} {g n k : Nat} {v : Value} {xs : List Value} (h : w.ownsRow (g + 1) 5 1 v n xs) (hk : k < g ∨ NoB w k) : some k ≠ v.ownBlock := fun e => by
  have hl := h.lt k e.symm
  rcases hk with hk | hk
  · omega
  · rcases h.2 with ⟨rfl, _⟩ | ⟨j, cap, cur, rfl, _, hj, _⟩
    · cases e
    · cases e
      exact hk cur hj





end Go.Proofs.YtokhclindfipbaaGreatDoor
