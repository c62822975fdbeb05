/-
  A list of symbols, of relocations copied by append, by the document's helpers: a list of its own; it is at most 2^20 long.
-/
import Derived.Test.YtbphfgalgiinnaaProg
import Derived.WalkKit
import Derived.WalkSpells
import Derived.WalkLawsBesides
import Derived.RowKit3
import Derived.Below
import Derived.Deep.QuietTactic
import Derived.BigQuiet
import Derived.WalkSmall
import Derived.Test.YtbphfgalgiinnaaCopyInts
import Derived.Test.YtbphfgalgiinnaaWideSym
import Derived.Test.YtbphfgalgiinnaaWideRel
import Derived.Deep.Slices
namespace Go.Proofs.Ytbphfgalgiinnaa
open Go.RowKit

theorem sNews_cell {w : World} {a : Addr} {zs : List Sym} (hA : SymsAt w (some a) zs) (j : Nat) (u : Value) (h : (sNews zs)[j]? = some u) : w.cell? (a.add j) = some u := by
  have hj : j < zs.length * 3 := by
    have := (List.getElem?_eq_some_iff.1 h).1; simpa [sNews] using this
  have hu : wSym zs j = u := by simpa [sNews, hj] using h
  have hi : j / 3 < zs.length := by omega
  obtain ⟨b, e, c0, c1, c2⟩ := hA (j / 3) hi
  obtain rfl := Option.some.inj e
  rw [← hu]
  have hm : j % 3 = 0 ∨ j % 3 = 1 ∨ j % 3 = 2 := by omega
  rcases hm with m | m | m
  · have e : j = j / 3 * 3 := by omega
    rw [e, wSym_item0 zs (j / 3) hi]; exact c0
  · have e : j = j / 3 * 3 + 1 := by omega
    rw [e, wSym_item1 zs (j / 3) hi, ← Deep.add_add]; exact c1
  · have e : j = j / 3 * 3 + 2 := by omega
    rw [e, wSym_item2 zs (j / 3) hi, ← Deep.add_add]; exact c2
theorem sNews_one (zs : List Sym) : ∀ u ∈ sNews zs, u.oneCell' = true := by
  intro u hu
  obtain ⟨i, _, rfl⟩ := List.mem_map.1 hu
  unfold wSym; split <;> (split <;> (try split) <;> rfl)
theorem rNews_cell {w : World} {a : Addr} {zs : List Rel} (hA : RelsAt w (some a) zs) (j : Nat) (u : Value) (h : (rNews zs)[j]? = some u) : w.cell? (a.add j) = some u := by
  have hj : j < zs.length * 2 := by
    have := (List.getElem?_eq_some_iff.1 h).1; simpa [rNews] using this
  have hu : wRel zs j = u := by simpa [rNews, hj] using h
  have hi : j / 2 < zs.length := by omega
  obtain ⟨b, e, c0, c1⟩ := hA (j / 2) hi
  obtain rfl := Option.some.inj e
  rw [← hu]
  have hm : j % 2 = 0 ∨ j % 2 = 1 := by omega
  rcases hm with m | m
  · have e : j = j / 2 * 2 := by omega
    rw [e, wRel_item0 zs (j / 2) hi]; exact c0
  · have e : j = j / 2 * 2 + 1 := by omega
    rw [e, wRel_item1 zs (j / 2) hi, ← Deep.add_add]; exact c1
theorem rNews_one (zs : List Rel) : ∀ u ∈ rNews zs, u.oneCell' = true := by
  intro u hu
  obtain ⟨i, _, rfl⟩ := List.mem_map.1 hu
  unfold wRel; split <;> (split <;> rfl)
theorem copysym_any (O : Option Addr) (ca : Nat) (zs : List Sym) (w : World) (hA : SymsAt w O zs) (h0 : O = none → ca = 0) (hz : zs.length ≤ 1048576) :
    Calls Try.prog 48 #[.slice O zs.length ca] w fun e w' => CopyP 42 3 zs.length (sNews zs) w e w' := by
  obtain ⟨i0, hi, hz0, hz1, hz2⟩ := info42
  cases O with
  | none =>
    obtain rfl := h0 rfl
    have hl : zs.length = 0 := by
      cases zs with
      | nil => rfl
      | cons x t => obtain ⟨a, e, _⟩ := hA 0 (by simp); cases e
    have hn : sNews zs = [] := by unfold sNews; rw [hl]; rfl
    rw [hl, hn]
    have hr := run_append_owned_none (P := Try.prog) (w := w) w.heap.size 24 24 42 i0 3 Try.underlying24 hi (.slice none 0 0) 0 [] (World.ownsRow_nil w _ _ _)
    go_enter Try.func48, Try.ntmps48
    go_wp2
    go_ret
    exact copyP_mk rfl (World.ownsRow_nil w _ _ _) (World.grownBy.refl w _)
  | some a =>
    go_enter Try.func48, Try.ntmps48
    go_wp2_with (at_builtin; refine wpList_append_own _ rfl (.tmp 4) (.tmp 5) 24 rfl w.heap.size 42 i0 (.agg #[.string ⟨#[]⟩, .int .i8 0, .int .i64 0]) 3 32 Try.underlying24 hi hz0 hz1 hz2 rfl (by decide) (.slice none 0 0) 0 [] rfl (World.ownsRow_nil w _ _ _) a zs.length ca (sNews zs) rfl (by simp [sNews]) (sNews_cell hA) (sNews_one _) (by unfold maxLen; omega) (by omega) (Nat.le_refl _) ?_; intro v' w' hown hgrow hnil)
    go_ret
    exact copyP_mk rfl (by simpa using hown) hgrow
theorem copyrel_any (O : Option Addr) (ca : Nat) (zs : List Rel) (w : World) (hA : RelsAt w O zs) (h0 : O = none → ca = 0) (hz : zs.length ≤ 1048576) :
    Calls Try.prog 49 #[.slice O zs.length ca] w fun e w' => CopyP 44 2 zs.length (rNews zs) w e w' := by
  obtain ⟨i0, hi, hz0, hz1, hz2⟩ := info44
  cases O with
  | none =>
    obtain rfl := h0 rfl
    have hl : zs.length = 0 := by
      cases zs with
      | nil => rfl
      | cons x t => obtain ⟨a, e, _⟩ := hA 0 (by simp); cases e
    have hn : rNews zs = [] := by unfold rNews; rw [hl]; rfl
    rw [hl, hn]
    have hr := run_append_owned_none (P := Try.prog) (w := w) w.heap.size 25 25 44 i0 2 Try.underlying25 hi (.slice none 0 0) 0 [] (World.ownsRow_nil w _ _ _)
    go_enter Try.func49, Try.ntmps49
    go_wp2
    go_ret
    exact copyP_mk rfl (World.ownsRow_nil w _ _ _) (World.grownBy.refl w _)
  | some a =>
    go_enter Try.func49, Try.ntmps49
    go_wp2_with (at_builtin; refine wpList_append_own _ rfl (.tmp 4) (.tmp 5) 25 rfl w.heap.size 44 i0 (.agg #[.int .i64 0, .int .i64 0]) 2 16 Try.underlying25 hi hz0 hz1 hz2 rfl (by decide) (.slice none 0 0) 0 [] rfl (World.ownsRow_nil w _ _ _) a zs.length ca (rNews zs) rfl (by simp [rNews]) (rNews_cell hA) (rNews_one _) (by unfold maxLen; omega) (by omega) (Nat.le_refl _) ?_; intro v' w' hown hgrow hnil)
    go_ret
    exact copyP_mk rfl (by simpa using hown) hgrow


end Go.Proofs.Ytbphfgalgiinnaa
