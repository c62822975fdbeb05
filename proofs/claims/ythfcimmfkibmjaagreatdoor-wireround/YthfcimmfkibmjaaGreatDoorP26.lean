/-
  errors.As at an error that is a refusal: what becomes of the world.
-/
import Derived.Test.YthfcimmfkibmjaaGreatDoorProg
import Derived.WalkKit
import Derived.WalkSpells
import Derived.WalkLawsBesides
import Derived.RowKit3
import Derived.Below
import Derived.Deep.QuietTactic
import Derived.BigQuiet
import Derived.WalkSmall
import Derived.Laws.Rows
import Derived.Test.YthfcimmfkibmjaaGreatDoorP25
namespace Go.Proofs.YthfcimmfkibmjaaGreatDoor
open Go.RowKit


theorem two_set {W : World} {tb : Nat} {u v : Value} (x y : Value) (h0 : W.cell? ⟨tb, 0, none⟩ = some u) (h1 : W.cell? ⟨tb, 1, none⟩ = some v) : ((W.setCell ⟨tb, 0, none⟩ x).setCell ⟨tb, 1, none⟩ y).cell? ⟨tb, 0, none⟩ = some x ∧ ((W.setCell ⟨tb, 0, none⟩ x).setCell ⟨tb, 1, none⟩ y).cell? ⟨tb, 1, none⟩ = some y := by
  constructor <;> simp [go_sem, h0, h1]
theorem as_hit2 (tb : Nat) (x y : Int) (u v : Value) (w : World) (hg : w.cell? ⟨0, 0, none⟩ = some (.iface 218 (.agg #[.pointer (some ⟨4, 90, none⟩)]))) (h0 : w.cell? ⟨tb, 0, none⟩ = some u) (h1 : w.cell? ⟨tb, 1, none⟩ = some v) (f0 : w.frozen? ⟨tb, 0, none⟩ = false) (f1 : w.frozen? ⟨tb, 1, none⟩ = false) :
    Calls Tryz.prog 60 #[.iface 97 (.agg #[.int .i64 x, .int .i64 y]), .iface 99 (.pointer (some ⟨tb, 0, none⟩))] w fun ev w' => ev = .returned (.bool true) ∧ w'.cell? ⟨tb, 0, none⟩ = some (.int .i64 x) ∧ w'.cell? ⟨tb, 1, none⟩ = some (.int .i64 y) ∧ But tb w w' := by
  refine (as_hit tb x y u v w hg h0 h1 f0 f1).mono ?_
  rintro e w' ⟨rfl, rfl⟩
  have k0 := alloc_keep (alloc_keep (alloc_keep (alloc_keep h0 (.cells #[.pointer (some ⟨tb, 0, none⟩)] 99)) (.cells #[.pointer (some ⟨4, 99, none⟩), .pointer (some ⟨w.heap.size, 0, none⟩), .int .u64 150] 181)) (.cells #[.pointer (some ⟨4, 99, none⟩), .pointer (some ⟨w.heap.size, 0, none⟩), .int .u64 150] 181)) (.cells #[.int .i64 x, .int .i64 y] 97)
  have k1 := alloc_keep (alloc_keep (alloc_keep (alloc_keep h1 (.cells #[.pointer (some ⟨tb, 0, none⟩)] 99)) (.cells #[.pointer (some ⟨4, 99, none⟩), .pointer (some ⟨w.heap.size, 0, none⟩), .int .u64 150] 181)) (.cells #[.pointer (some ⟨4, 99, none⟩), .pointer (some ⟨w.heap.size, 0, none⟩), .int .u64 150] 181)) (.cells #[.int .i64 x, .int .i64 y] 97)
  obtain ⟨q0, q1⟩ := two_set (.int .i64 x) (.int .i64 y) k0 k1
  refine ⟨rfl, q0, q1, ?_⟩
  exact ((But.of (lb_alloc (lb_alloc (lb_alloc (lb_alloc (Below.refl _ _) _) _) _) _)).set 0 _).set 1 _

end Go.Proofs.YthfcimmfkibmjaaGreatDoor
