/-
  CopyInts of the document: a list of its own.
-/
import Derived.Test.YthhfkcmoncgknaaProg
import Derived.WalkKit
import Derived.WalkSpells
import Derived.WalkLawsBesides
import Derived.RowKit3
import Derived.Below
import Derived.Deep.QuietTactic
import Derived.BigQuiet
import Derived.WalkSmall
import Derived.Laws.Rows
import Derived.Deep.DeepCutAuto
import Derived.Deep.RegionHeld3
import Derived.Great.BuildSlice
import Derived.Laws.BitsAllLaws
import Derived.Laws.CopyOwn
import Derived.Laws.Tables
import Derived.Test.YthhfkcmoncgknaaPo19
import Derived.Test.YthhfkcmoncgknaaPo26
import Derived.Test.YthhfkcmoncgknaaPo27
namespace Go.Proofs.Ythhfkcmoncgknaa
open Go.RowKit

theorem copyints_any (O : Option Addr) (ca : Nat) (zs : List Int) (w : World) (hA : IntsAt w O .i64 zs) (h0 : O = none → ca = 0) (hz : zs.length ≤ 1048576) :
    Calls Try.prog 14 #[.slice O zs.length ca] w fun e w' => CopyP 3 1 zs.length (iVals .i64 zs) w e w' := by
  rw [← zNews_vals]
  obtain ⟨i0, hi, hz0, hz1, hz2⟩ := infoI
  cases O with
  | none =>
    obtain rfl := h0 rfl
    have hl : zs.length = 0 := by
      cases zs with
      | nil => rfl
      | cons x t => obtain ⟨a, e, _⟩ := hA 0 (by simp); cases e
    have hn : iNews .i64 zs = [] := by unfold iNews; rw [hl]; rfl
    rw [hl, hn]
    have hr := run_append_owned_none (P := Try.prog) (w := w) w.heap.size 22 22 3 i0 1 Try.underlying22 hi (.slice none 0 0) 0 [] (World.ownsRow_nil w _ _ _)
    go_enter Try.func14, Try.ntmps14
    go_wp2
    go_ret
    exact copyP_mk rfl (World.ownsRow_nil w _ _ _) (World.grownBy.refl w _)
  | some a =>
    go_enter Try.func14, Try.ntmps14
    go_wp2_with (at_builtin; refine wpList_append_own _ rfl (.tmp 4) (.tmp 5) 22 rfl w.heap.size 3 i0 (.int .i64 0) 1 8 Try.underlying22 hi hz0 hz1 hz2 rfl (by decide) (.slice none 0 0) 0 [] rfl (World.ownsRow_nil w _ _ _) a zs.length ca (iNews .i64 zs) rfl (by simp [iNews]) (iNews_cell hA) (iNews_one _ _) (by unfold maxLen; omega) (by omega) (Nat.le_refl _) ?_; intro v' w' hown hgrow hnil)
    go_ret
    exact copyP_mk rfl (by simpa using hown) hgrow






end Go.Proofs.Ythhfkcmoncgknaa
