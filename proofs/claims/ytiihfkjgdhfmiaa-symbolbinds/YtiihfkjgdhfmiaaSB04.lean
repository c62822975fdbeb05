/-
  A list of relocations copied into memory of its own, with marks behind it, by the document's helper; it is at most 2^20 long. A list of numbers copied by append, by the document's helpers: a list of its own; it is at most 2^20 long. A list of symbols, of relocations copied by append, by the document's helpers: a list of its own; it is at most 2^20 long. An object copied by the document's helper: each list is its own; the lists are at most 2^20 long. A copy of an object of a list.
-/
import Derived.Test.YtiihfkjgdhfmiaaProg
import Derived.WalkKit
import Derived.WalkSpells
import Derived.WalkLawsBesides
import Derived.RowKit3
import Derived.Below
import Derived.Deep.QuietTactic
import Derived.BigQuiet
import Derived.WalkSmall
import Derived.Test.YtiihfkjgdhfmiaaSB03
import Derived.Laws.AppendOwn
import Derived.Laws.OwnMore
import Derived.Deep.Slices
import Derived.Lib.BufferOwn
import Derived.Laws.Rows
import Derived.Test.YtiihfkjgdhfmiaaSB02
namespace Go.Proofs.Ytiihfkjgdhfmiaa
open Go.RowKit

theorem info44 : ∃ i, Try.prog.info? 96 = some i ∧ i.zero = some (.agg #[.int .i64 0, .int .i64 0]) ∧ i.size = 2 ∧ i.bytes = 16 :=
  ⟨(Try.prog.info? 96).get (by kernel_rfl), by kernel_rfl, by kernel_rfl, by kernel_rfl, by kernel_rfl⟩
theorem made_rel (f : Nat → Value) (N : Nat) : madeCells #[.int .i64 0, .int .i64 0] N = wcur f (fun _ => .int .i64 0) N 0 := by
  apply Array.ext_getElem?
  intro i
  by_cases hi : i < N
  · rw [wcur_get _ _ _ _ _ hi]
    have h : i % 2 = 0 ∨ i % 2 = 1 := by omega
    rcases h with h | h <;> simp [madeCells, hi, h]
  · rw [Array.getElem?_eq_none (by simp [madeCells]; omega), Array.getElem?_eq_none (by simp [wcur_size]; omega)]
theorem make25 (f : Nat → Value) (n : Nat) (hn : n ≤ 1048576) (w : World) : (Instr.makeSlice 47 (.int .i64 ((n : Int) + 64)) (.int .i64 ((n : Int) + 64))).run Try.prog w = .ok (.slice (some ⟨w.heap.size, 0, none⟩) (n + 64) (n + 64)) (w.alloc (.cells (wcur f (fun _ => .int .i64 0) ((n + 64) * 2) 0) 96)) := by
  obtain ⟨i, hi, hz, hs, hb⟩ := info44
  have h := run_makeSlice (P := Try.prog) w 47 96 i _ Try.underlying47 hi hz .i64 .i64 ((n : Int) + 64) ((n : Int) + 64) (by omega) (by omega) (by rw [hs]; omega) (by rw [hb]; omega) (by omega)
  rw [hs, show ((n : Int) + 64).toNat = n + 64 by omega] at h
  rw [h, ← made_rel f ((n + 64) * 2)]
  rfl
theorem wRel_item0 (zs : List Rel) (k : Nat) (h : k < zs.length) : wRel zs (k * 2) = .int .i64 (rAt zs k) := by
  have e : (k * 2) / 2 = k := by omega
  have m : (k * 2) % 2 = 0 := by omega
  simp [wRel, e, m, h]
theorem wRel_item1 (zs : List Rel) (k : Nat) (h : k < zs.length) : wRel zs (k * 2 + 1) = .int .i64 (rSym zs k) := by
  have e : (k * 2 + 1) / 2 = k := by omega
  have m : (k * 2 + 1) % 2 = 1 := by omega
  simp [wRel, e, m, h]
theorem rel_item (zs : List Rel) (k : Nat) (_hk : k < zs.length + 64) (h : k < zs.length) : (((wcur (wRel zs) (fun _ => .int .i64 0) ((zs.length + 64) * 2) (k * 2)).setIfInBounds (k * 2) (.int .i64 (rAt zs k))).setIfInBounds (k * 2 + 1) (.int .i64 (rSym zs k))) = wcur (wRel zs) (fun _ => .int .i64 0) ((zs.length + 64) * 2) ((k + 1) * 2) := by
  rw [← wRel_item0 zs k h, wcur_set _ _ _ _ (by omega), ← wRel_item1 zs k h, wcur_set _ _ _ _ (by omega), show (k + 1) * 2 = k * 2 + 2 by omega]
theorem wRel_mark0 (zs : List Rel) (k : Nat) (h : ¬ k < zs.length) : wRel zs (k * 2) = .int .i64 (9437184 + k + 1) := by
  have e : (k * 2) / 2 = k := by omega
  have m : (k * 2) % 2 = 0 := by omega
  simp [wRel, e, m, h, mark]
theorem wRel_mark1 (zs : List Rel) (k : Nat) (h : ¬ k < zs.length) : wRel zs (k * 2 + 1) = .int .i64 0 := by
  have e : (k * 2 + 1) / 2 = k := by omega
  have m : (k * 2 + 1) % 2 = 1 := by omega
  simp [wRel, e, m, h]
theorem rel_mark (zs : List Rel) (k : Nat) (hk : k < zs.length + 64) (h : ¬ k < zs.length) : (((wcur (wRel zs) (fun _ => .int .i64 0) ((zs.length + 64) * 2) (k * 2)).setIfInBounds (k * 2) (.int .i64 (9437184 + k + 1))).setIfInBounds (k * 2 + 1) (.int .i64 0)) = wcur (wRel zs) (fun _ => .int .i64 0) ((zs.length + 64) * 2) ((k + 1) * 2) := by
  rw [← wRel_mark0 zs k h, wcur_set _ _ _ _ (by omega), ← wRel_mark1 zs k h, wcur_set _ _ _ _ (by omega), show (k + 1) * 2 = k * 2 + 2 by omega]
set_option maxRecDepth 100000 in
set_option maxHeartbeats 1000000 in
theorem widerel_any (O : Option Addr) (ca : Nat) (zs : List Rel) (w : World) (hA : RelsAt w O zs) (hz : zs.length ≤ 1048576) :
    Calls Try.prog 35 #[.slice O zs.length ca] w fun e w' => e = .returned (.slice (some ⟨w.heap.size, 0, none⟩) zs.length (zs.length + 64)) ∧ w' = w.alloc (.cells (wcur (wRel zs) (fun _ => .int .i64 0) ((zs.length + 64) * 2) ((zs.length + 64) * 2)) 96) := by
  have hm := make25 (wRel zs) zs.length hz
  go_enter Try.func35, Try.ntmps35
  go_wp2
  go_loopw [4] (fun i wr => ∃ k : Nat, i = .int .i64 k ∧ k ≤ zs.length + 64 ∧ wr = w.alloc (.cells (wcur (wRel zs) (fun _ => .int .i64 0) ((zs.length + 64) * 2) (k * 2)) 96)) (fun i _ => zs.length + 64 - (intOf i).toNat)
  case atStart => exact ⟨0, rfl, by omega, rfl⟩
  case round =>
    obtain ⟨k, rfl, hk, rfl⟩ := hrel
    clear hm
    have hsz := wcur_size (wRel zs) (fun _ => .int .i64 0) ((zs.length + 64) * 2) (k * 2)
    by_cases hlt : k < zs.length + 64
    · have hg0 : (wcur (wRel zs) (fun _ => .int .i64 0) ((zs.length + 64) * 2) (k * 2))[k * 2]? = some ((fun _ => .int .i64 0) (k * 2)) := by rw [wcur_get _ _ _ _ _ (by omega), if_neg (by omega)]
      have hg1 : (wcur (wRel zs) (fun _ => .int .i64 0) ((zs.length + 64) * 2) (k * 2))[k * 2 + 1]? = some ((fun _ => .int .i64 0) (k * 2 + 1)) := by rw [wcur_get _ _ _ _ _ (by omega), if_neg (by omega)]
      by_cases h2 : k < zs.length
      · obtain ⟨a, rfl, c0, c1⟩ := hA k h2
        have HS : Hid _ := rel_item zs k hlt h2
        have d0 : (w.alloc (.cells (wcur (wRel zs) (fun _ => .int .i64 0) ((zs.length + 64) * 2) (k * 2)) 96)).cell? (a.add (k * 2)) = some (.int .i64 (rAt zs k)) := lkeep (lb_alloc (Below.refl _ _) _) c0
        have d1 : (w.alloc (.cells (wcur (wRel zs) (fun _ => .int .i64 0) ((zs.length + 64) * 2) (k * 2)) 96)).cell? (⟨(a.add (k * 2)).block, (a.add (k * 2)).off + 1, none⟩) = some (.int .i64 (rSym zs k)) := lkeep (lb_alloc (Below.refl _ _) _) c1
        clear c0 c1
        go_wp2
        go_roundw
        case rel => exact ⟨k + 1, by go_num, by omega, by rw [← HS.out]⟩
        case measure => simp [intOf]; omega
      · have HS : Hid _ := rel_mark zs k hlt h2
        go_wp2_with fail
        refine (num_any 9 k (by omega) (by omega) (by omega) (by omega) _).mono ?_
        rintro e w1 ⟨rfl, rfl⟩
        go_wp2
        go_roundw
        case rel => exact ⟨k + 1, by go_num, by omega, by rw [← HS.out]⟩
        case measure => simp [intOf]; omega
    · obtain rfl : k = zs.length + 64 := by omega
      clear hlt hk
      go_wp2
      go_ret
      exact ⟨rfl, rfl⟩







end Go.Proofs.Ytiihfkjgdhfmiaa

namespace Go.Proofs.Ytiihfkjgdhfmiaa
open Go.RowKit

/-- How a copy ends: a list of its own. -/
def CopyP (el sz n : Nat) (news : List Value) (w : World) (e : Ending) (w' : World) : Prop := ∃ (O : Option Addr) (cap : Nat), e = .returned (.slice O n cap) ∧ w'.ownsRow w.heap.size el sz (.slice O n cap) n news ∧ w.grownBy w' none ∧ (O = none → cap = 0)
theorem copyP_mk {el sz n : Nat} {news : List Value} {w w' : World} {v : Value} {e : Ending} (he : e = .returned v) (h : w'.ownsRow w.heap.size el sz v n news) (hg : w.grownBy w' none) : CopyP el sz n news w e w' := by
  subst he
  rcases h.2 with ⟨rfl, rfl⟩ | ⟨g, cap, cur, rfl, _⟩
  · exact ⟨none, 0, rfl, h, hg, fun _ => rfl⟩
  · exact ⟨some ⟨g, 0, none⟩, cap, rfl, h, hg, fun e => by cases e⟩
def iNews (K : IntKind) (zs : List Int) : List Value := (List.range zs.length).map (wInt K zs)
def sNews (zs : List Sym) : List Value := (List.range (zs.length * 3)).map (wSym zs)
def rNews (zs : List Rel) : List Value := (List.range (zs.length * 2)).map (wRel zs)
theorem iNews_cell {w : World} {a : Addr} {K : IntKind} {zs : List Int} (hA : IntsAt w (some a) K zs) (j : Nat) (u : Value) (h : (iNews K zs)[j]? = some u) : w.cell? (a.add j) = some u := by
  have hj : j < zs.length := by
    have := (List.getElem?_eq_some_iff.1 h).1; simpa [iNews] using this
  obtain ⟨b, e, c⟩ := hA j hj
  obtain rfl := Option.some.inj e
  rw [c, ← h]
  simp [iNews, hj, wInt]
theorem iNews_one (K : IntKind) (zs : List Int) : ∀ u ∈ iNews K zs, u.oneCell' = true := by
  intro u hu
  obtain ⟨i, _, rfl⟩ := List.mem_map.1 hu
  unfold wInt; split <;> rfl
theorem copywords_any (O : Option Addr) (ca : Nat) (zs : List Int) (w : World) (hA : IntsAt w O .u32 zs) (h0 : O = none → ca = 0) (hz : zs.length ≤ 1048576) :
    Calls Try.prog 48 #[.slice O zs.length ca] w fun e w' => CopyP 78 1 zs.length (iNews .u32 zs) w e w' := by
  obtain ⟨i0, hi, hz0, hz1, hz2⟩ := info45
  cases O with
  | none =>
    obtain rfl := h0 rfl
    have hl : zs.length = 0 := by
      cases zs with
      | nil => rfl
      | cons x t => obtain ⟨a, e, _⟩ := hA 0 (by simp); cases e
    have hn : iNews .u32 zs = [] := by unfold iNews; rw [hl]; rfl
    rw [hl, hn]
    have hr := run_append_owned_none (P := Try.prog) (w := w) w.heap.size 44 44 78 i0 1 Try.underlying44 hi (.slice none 0 0) 0 [] (World.ownsRow_nil w _ _ _)
    go_enter Try.func48, Try.ntmps48
    go_wp2
    go_ret
    exact copyP_mk rfl (World.ownsRow_nil w _ _ _) (World.grownBy.refl w _)
  | some a =>
    go_enter Try.func48, Try.ntmps48
    go_wp2_with (at_builtin; refine wpList_append_own _ rfl (.tmp 4) (.tmp 5) 44 rfl w.heap.size 78 i0 (.int .u32 0) 1 4 Try.underlying44 hi hz0 hz1 hz2 rfl (by decide) (.slice none 0 0) 0 [] rfl (World.ownsRow_nil w _ _ _) a zs.length ca (iNews .u32 zs) rfl (by simp [iNews]) (iNews_cell hA) (iNews_one _ _) (by unfold maxLen; omega) (by omega) (Nat.le_refl _) ?_; intro v' w' hown hgrow hnil)
    go_ret
    exact copyP_mk rfl (by simpa using hown) hgrow
theorem copylongs_any (O : Option Addr) (ca : Nat) (zs : List Int) (w : World) (hA : IntsAt w O .i64 zs) (h0 : O = none → ca = 0) (hz : zs.length ≤ 1048576) :
    Calls Try.prog 49 #[.slice O zs.length ca] w fun e w' => CopyP 2 1 zs.length (iNews .i64 zs) w e w' := by
  obtain ⟨i0, hi, hz0, hz1, hz2⟩ := info2
  cases O with
  | none =>
    obtain rfl := h0 rfl
    have hl : zs.length = 0 := by
      cases zs with
      | nil => rfl
      | cons x t => obtain ⟨a, e, _⟩ := hA 0 (by simp); cases e
    have hn : iNews .i64 zs = [] := by unfold iNews; rw [hl]; rfl
    rw [hl, hn]
    have hr := run_append_owned_none (P := Try.prog) (w := w) w.heap.size 45 45 2 i0 1 Try.underlying45 hi (.slice none 0 0) 0 [] (World.ownsRow_nil w _ _ _)
    go_enter Try.func49, Try.ntmps49
    go_wp2
    go_ret
    exact copyP_mk rfl (World.ownsRow_nil w _ _ _) (World.grownBy.refl w _)
  | some a =>
    go_enter Try.func49, Try.ntmps49
    go_wp2_with (at_builtin; refine wpList_append_own _ rfl (.tmp 4) (.tmp 5) 45 rfl w.heap.size 2 i0 (.int .i64 0) 1 8 Try.underlying45 hi hz0 hz1 hz2 rfl (by decide) (.slice none 0 0) 0 [] rfl (World.ownsRow_nil w _ _ _) a zs.length ca (iNews .i64 zs) rfl (by simp [iNews]) (iNews_cell hA) (iNews_one _ _) (by unfold maxLen; omega) (by omega) (Nat.le_refl _) ?_; intro v' w' hown hgrow hnil)
    go_ret
    exact copyP_mk rfl (by simpa using hown) hgrow
theorem sNews_cell {w : World} {a : Addr} {zs : List Sym} (hA : SymsAt w (some a) zs) (j : Nat) (u : Value) (h : (sNews zs)[j]? = some u) : w.cell? (a.add j) = some u := by
  have hj : j < zs.length * 3 := by
    have := (List.getElem?_eq_some_iff.1 h).1; simpa [sNews] using this
  have hu : wSym zs j = u := by simpa [sNews, hj] using h
  have hi : j / 3 < zs.length := by omega
  obtain ⟨b, e, c0, c1, c2⟩ := hA (j / 3) hi
  obtain rfl := Option.some.inj e
  rw [← hu]
  have hm : j % 3 = 0 ∨ j % 3 = 1 ∨ j % 3 = 2 := by omega
  rcases hm with m | m | m
  · have e : j = j / 3 * 3 := by omega
    rw [e, wSym_item0 zs (j / 3) hi]; exact c0
  · have e : j = j / 3 * 3 + 1 := by omega
    rw [e, wSym_item1 zs (j / 3) hi, ← Deep.add_add]; exact c1
  · have e : j = j / 3 * 3 + 2 := by omega
    rw [e, wSym_item2 zs (j / 3) hi, ← Deep.add_add]; exact c2
theorem sNews_one (zs : List Sym) : ∀ u ∈ sNews zs, u.oneCell' = true := by
  intro u hu
  obtain ⟨i, _, rfl⟩ := List.mem_map.1 hu
  unfold wSym; split <;> (split <;> (try split) <;> rfl)
theorem rNews_cell {w : World} {a : Addr} {zs : List Rel} (hA : RelsAt w (some a) zs) (j : Nat) (u : Value) (h : (rNews zs)[j]? = some u) : w.cell? (a.add j) = some u := by
  have hj : j < zs.length * 2 := by
    have := (List.getElem?_eq_some_iff.1 h).1; simpa [rNews] using this
  have hu : wRel zs j = u := by simpa [rNews, hj] using h
  have hi : j / 2 < zs.length := by omega
  obtain ⟨b, e, c0, c1⟩ := hA (j / 2) hi
  obtain rfl := Option.some.inj e
  rw [← hu]
  have hm : j % 2 = 0 ∨ j % 2 = 1 := by omega
  rcases hm with m | m
  · have e : j = j / 2 * 2 := by omega
    rw [e, wRel_item0 zs (j / 2) hi]; exact c0
  · have e : j = j / 2 * 2 + 1 := by omega
    rw [e, wRel_item1 zs (j / 2) hi, ← Deep.add_add]; exact c1
theorem rNews_one (zs : List Rel) : ∀ u ∈ rNews zs, u.oneCell' = true := by
  intro u hu
  obtain ⟨i, _, rfl⟩ := List.mem_map.1 hu
  unfold wRel; split <;> (split <;> rfl)
theorem copysym_any (O : Option Addr) (ca : Nat) (zs : List Sym) (w : World) (hA : SymsAt w O zs) (h0 : O = none → ca = 0) (hz : zs.length ≤ 1048576) :
    Calls Try.prog 50 #[.slice O zs.length ca] w fun e w' => CopyP 52 3 zs.length (sNews zs) w e w' := by
  obtain ⟨i0, hi, hz0, hz1, hz2⟩ := info42
  cases O with
  | none =>
    obtain rfl := h0 rfl
    have hl : zs.length = 0 := by
      cases zs with
      | nil => rfl
      | cons x t => obtain ⟨a, e, _⟩ := hA 0 (by simp); cases e
    have hn : sNews zs = [] := by unfold sNews; rw [hl]; rfl
    rw [hl, hn]
    have hr := run_append_owned_none (P := Try.prog) (w := w) w.heap.size 46 46 52 i0 3 Try.underlying46 hi (.slice none 0 0) 0 [] (World.ownsRow_nil w _ _ _)
    go_enter Try.func50, Try.ntmps50
    go_wp2
    go_ret
    exact copyP_mk rfl (World.ownsRow_nil w _ _ _) (World.grownBy.refl w _)
  | some a =>
    go_enter Try.func50, Try.ntmps50
    go_wp2_with (at_builtin; refine wpList_append_own _ rfl (.tmp 4) (.tmp 5) 46 rfl w.heap.size 52 i0 (.agg #[.string ⟨#[]⟩, .int .i8 0, .int .i64 0]) 3 32 Try.underlying46 hi hz0 hz1 hz2 rfl (by decide) (.slice none 0 0) 0 [] rfl (World.ownsRow_nil w _ _ _) a zs.length ca (sNews zs) rfl (by simp [sNews]) (sNews_cell hA) (sNews_one _) (by unfold maxLen; omega) (by omega) (Nat.le_refl _) ?_; intro v' w' hown hgrow hnil)
    go_ret
    exact copyP_mk rfl (by simpa using hown) hgrow
theorem copyrel_any (O : Option Addr) (ca : Nat) (zs : List Rel) (w : World) (hA : RelsAt w O zs) (h0 : O = none → ca = 0) (hz : zs.length ≤ 1048576) :
    Calls Try.prog 51 #[.slice O zs.length ca] w fun e w' => CopyP 96 2 zs.length (rNews zs) w e w' := by
  obtain ⟨i0, hi, hz0, hz1, hz2⟩ := info44
  cases O with
  | none =>
    obtain rfl := h0 rfl
    have hl : zs.length = 0 := by
      cases zs with
      | nil => rfl
      | cons x t => obtain ⟨a, e, _⟩ := hA 0 (by simp); cases e
    have hn : rNews zs = [] := by unfold rNews; rw [hl]; rfl
    rw [hl, hn]
    have hr := run_append_owned_none (P := Try.prog) (w := w) w.heap.size 47 47 96 i0 2 Try.underlying47 hi (.slice none 0 0) 0 [] (World.ownsRow_nil w _ _ _)
    go_enter Try.func51, Try.ntmps51
    go_wp2
    go_ret
    exact copyP_mk rfl (World.ownsRow_nil w _ _ _) (World.grownBy.refl w _)
  | some a =>
    go_enter Try.func51, Try.ntmps51
    go_wp2_with (at_builtin; refine wpList_append_own _ rfl (.tmp 4) (.tmp 5) 47 rfl w.heap.size 96 i0 (.agg #[.int .i64 0, .int .i64 0]) 2 16 Try.underlying47 hi hz0 hz1 hz2 rfl (by decide) (.slice none 0 0) 0 [] rfl (World.ownsRow_nil w _ _ _) a zs.length ca (rNews zs) rfl (by simp [rNews]) (rNews_cell hA) (rNews_one _) (by unfold maxLen; omega) (by omega) (Nat.le_refl _) ?_; intro v' w' hown hgrow hnil)
    go_ret
    exact copyP_mk rfl (by simpa using hown) hgrow
theorem gcell {w w' : World} (hg : w.grownBy w' none) {p : Addr} {v : Value} (hc : w.cell? p = some v) : w'.cell? p = some v := hg.cell hc (by simp)
theorem gfroz {w w' : World} (hg : w.grownBy w' none) {p : Addr} {v : Value} (hc : w.cell? p = some v) (hf : w.frozen? p = false) : w'.frozen? p = false := by
  rw [World.frozen?_of_block (hg.block p.block (World.block_lt_of_cell? w p hc) (by simp))]; exact hf
theorem scell_ne {w : World} {b i j : Nat} {v u : Value} (hij : ¬ i = j) (h : w.cell? ⟨b, j, none⟩ = some u) : (w.setCell ⟨b, i, none⟩ v).cell? ⟨b, j, none⟩ = some u := by
  rw [← h]; simp [go_sem]
theorem scell_eq {w : World} {b i : Nat} {v u : Value} (h : w.cell? ⟨b, i, none⟩ = some u) : (w.setCell ⟨b, i, none⟩ v).cell? ⟨b, i, none⟩ = some v := by
  simp [go_sem, h]
theorem scell_far {w : World} {b c i j : Nat} {v u : Value} (hbc : ¬ b = c) (h : w.cell? ⟨c, j, none⟩ = some u) : (w.setCell ⟨b, i, none⟩ v).cell? ⟨c, j, none⟩ = some u := by
  rw [← h]; simp [go_sem]
theorem sfroz {w : World} {b i : Nat} {v : Value} {q : Addr} (h : w.frozen? q = false) : (w.setCell ⟨b, i, none⟩ v).frozen? q = false := by
  rw [← h]; simp [go_sem]
theorem keepN {w w' : World} {base e sz : Nat} {v : Value} {n : Nat} {xs : List Value} (h : w.ownsRow base e sz v n xs) (hg : w.grownBy w' none) : w'.ownsRow base e sz v n xs := h.kept hg (by
  by_cases c : v.ownBlock = none
  · exact Or.inl c
  · exact Or.inr c)
theorem keepS {w w' : World} {base e sz b : Nat} {v : Value} {n : Nat} {xs : List Value} (h : w.ownsRow base e sz v n xs) (hg : w.grownBy w' (some b)) (hb : b < base) : w'.ownsRow base e sz v n xs := h.kept hg (Or.inr fun c => by
  have := (h.lt b c).1; omega)
theorem ownMono {w : World} {base base' e sz : Nat} {v : Value} {n : Nat} {xs : List Value} (h : w.ownsRow base e sz v n xs) (hb : base' ≤ base) : w.ownsRow base' e sz v n xs := ⟨h.1, h.2.imp id fun ⟨g, cap, cur, a, b, c⟩ => ⟨g, cap, cur, a, Nat.le_trans hb b, c⟩⟩
theorem gset (w : World) (b i : Nat) (v : Value) : w.grownBy (w.setCell ⟨b, i, none⟩ v) (some b) := Lib.grownBy_setB (World.grownBy.refl w _) i v
theorem below_growC {w w1 w2 : World} (h : Below w.heap.size w w1) (hg : w1.grownBy w2 none) : Below w.heap.size w w2 := h.grown hg h.size (fun k e => by cases e)
/-- How a copy of an object ends. -/
def CopyO (nm : ByteArray) (dA : Int) (code data : List Int) (ss : List Sym) (rs : List Rel) (w : World) (e : Ending) (w' : World) : Prop := ∃ (O1 O2 O3 O4 : Option Addr) (k1 k2 k3 k4 : Nat),
  e = .returned (.agg #[.string nm, .slice O1 code.length k1, .int .i64 dA, .slice O2 data.length k2, .slice O3 ss.length k3, .slice O4 rs.length k4]) ∧ Below w.heap.size w w' ∧
  w'.ownsRow w.heap.size 78 1 (.slice O1 code.length k1) code.length (iNews .u32 code) ∧ w'.ownsRow w.heap.size 2 1 (.slice O2 data.length k2) data.length (iNews .i64 data) ∧ w'.ownsRow w.heap.size 52 3 (.slice O3 ss.length k3) ss.length (sNews ss) ∧ w'.ownsRow w.heap.size 96 2 (.slice O4 rs.length k4) rs.length (rNews rs)
set_option maxRecDepth 100000 in
set_option maxHeartbeats 4000000 in
theorem copyobj_any (nm : ByteArray) (dA : Int) (A1 A2 A3 A4 : Option Addr) (c1 c2 c3 c4 : Nat) (code data : List Int) (ss : List Sym) (rs : List Rel) (w : World) (hC : IntsAt w A1 .u32 code) (hD : IntsAt w A2 .i64 data) (hS : SymsAt w A3 ss) (hL : RelsAt w A4 rs) (h01 : A1 = none → c1 = 0) (h02 : A2 = none → c2 = 0) (h03 : A3 = none → c3 = 0) (h04 : A4 = none → c4 = 0) (hc : code.length ≤ 1048576) (hd : data.length ≤ 1048576) (hs : ss.length ≤ 1048576) (hl : rs.length ≤ 1048576) :
    Calls Try.prog 31 #[.agg #[.string nm, .slice A1 code.length c1, .int .i64 dA, .slice A2 data.length c2, .slice A3 ss.length c3, .slice A4 rs.length c4]] w fun e w' => CopyO nm dA code data ss rs w e w' := by
  go_enter Try.func31, Try.ntmps31
  go_wp2_with fail
  refine (copywords_any A1 c1 code _ (hC.keep (lb_alloc (lb_alloc (Below.refl _ _) _) _)) h01 hc).mono ?_
  rintro e w1 ⟨O1, k1, rfl, hown1, hg1, hn1⟩
  have b10 : w1.cell? ⟨w.heap.size, 0, none⟩ = some (.string nm) := gcell hg1 (by simp [go_sem])
  have fb10 : w1.frozen? ⟨w.heap.size, 0, none⟩ = false := gfroz hg1 (v := .string nm) (by simp [go_sem]) (by simp [go_sem])
  have r10 : w1.cell? ⟨w.heap.size + 1, 0, none⟩ = some (.string ⟨#[]⟩) := gcell hg1 (by simp [go_sem])
  have fr10 : w1.frozen? ⟨w.heap.size + 1, 0, none⟩ = false := gfroz hg1 (v := .string ⟨#[]⟩) (by simp [go_sem]) (by simp [go_sem])
  have b11 : w1.cell? ⟨w.heap.size, 1, none⟩ = some (.slice A1 code.length c1) := gcell hg1 (by simp [go_sem])
  have fb11 : w1.frozen? ⟨w.heap.size, 1, none⟩ = false := gfroz hg1 (v := .slice A1 code.length c1) (by simp [go_sem]) (by simp [go_sem])
  have r11 : w1.cell? ⟨w.heap.size + 1, 1, none⟩ = some (.slice none 0 0) := gcell hg1 (by simp [go_sem])
  have fr11 : w1.frozen? ⟨w.heap.size + 1, 1, none⟩ = false := gfroz hg1 (v := .slice none 0 0) (by simp [go_sem]) (by simp [go_sem])
  have b12 : w1.cell? ⟨w.heap.size, 2, none⟩ = some (.int .i64 dA) := gcell hg1 (by simp [go_sem])
  have fb12 : w1.frozen? ⟨w.heap.size, 2, none⟩ = false := gfroz hg1 (v := .int .i64 dA) (by simp [go_sem]) (by simp [go_sem])
  have r12 : w1.cell? ⟨w.heap.size + 1, 2, none⟩ = some (.int .i64 0) := gcell hg1 (by simp [go_sem])
  have fr12 : w1.frozen? ⟨w.heap.size + 1, 2, none⟩ = false := gfroz hg1 (v := .int .i64 0) (by simp [go_sem]) (by simp [go_sem])
  have b13 : w1.cell? ⟨w.heap.size, 3, none⟩ = some (.slice A2 data.length c2) := gcell hg1 (by simp [go_sem])
  have fb13 : w1.frozen? ⟨w.heap.size, 3, none⟩ = false := gfroz hg1 (v := .slice A2 data.length c2) (by simp [go_sem]) (by simp [go_sem])
  have r13 : w1.cell? ⟨w.heap.size + 1, 3, none⟩ = some (.slice none 0 0) := gcell hg1 (by simp [go_sem])
  have fr13 : w1.frozen? ⟨w.heap.size + 1, 3, none⟩ = false := gfroz hg1 (v := .slice none 0 0) (by simp [go_sem]) (by simp [go_sem])
  have b14 : w1.cell? ⟨w.heap.size, 4, none⟩ = some (.slice A3 ss.length c3) := gcell hg1 (by simp [go_sem])
  have fb14 : w1.frozen? ⟨w.heap.size, 4, none⟩ = false := gfroz hg1 (v := .slice A3 ss.length c3) (by simp [go_sem]) (by simp [go_sem])
  have r14 : w1.cell? ⟨w.heap.size + 1, 4, none⟩ = some (.slice none 0 0) := gcell hg1 (by simp [go_sem])
  have fr14 : w1.frozen? ⟨w.heap.size + 1, 4, none⟩ = false := gfroz hg1 (v := .slice none 0 0) (by simp [go_sem]) (by simp [go_sem])
  have b15 : w1.cell? ⟨w.heap.size, 5, none⟩ = some (.slice A4 rs.length c4) := gcell hg1 (by simp [go_sem])
  have fb15 : w1.frozen? ⟨w.heap.size, 5, none⟩ = false := gfroz hg1 (v := .slice A4 rs.length c4) (by simp [go_sem]) (by simp [go_sem])
  have r15 : w1.cell? ⟨w.heap.size + 1, 5, none⟩ = some (.slice none 0 0) := gcell hg1 (by simp [go_sem])
  have fr15 : w1.frozen? ⟨w.heap.size + 1, 5, none⟩ = false := gfroz hg1 (v := .slice none 0 0) (by simp [go_sem]) (by simp [go_sem])
  have x10 : (w1.setCell ⟨w.heap.size, 1, none⟩ (.slice O1 code.length k1)).cell? ⟨w.heap.size, 0, none⟩ = some (.string nm) := scell_ne (by omega) b10
  have fx10 : (w1.setCell ⟨w.heap.size, 1, none⟩ (.slice O1 code.length k1)).frozen? ⟨w.heap.size, 0, none⟩ = false := sfroz fb10
  have y10 : (w1.setCell ⟨w.heap.size, 1, none⟩ (.slice O1 code.length k1)).cell? ⟨w.heap.size + 1, 0, none⟩ = some (.string ⟨#[]⟩) := scell_far (by omega) r10
  have fy10 : (w1.setCell ⟨w.heap.size, 1, none⟩ (.slice O1 code.length k1)).frozen? ⟨w.heap.size + 1, 0, none⟩ = false := sfroz fr10
  have x11 : (w1.setCell ⟨w.heap.size, 1, none⟩ (.slice O1 code.length k1)).cell? ⟨w.heap.size, 1, none⟩ = some (.slice O1 code.length k1) := scell_eq b11
  have fx11 : (w1.setCell ⟨w.heap.size, 1, none⟩ (.slice O1 code.length k1)).frozen? ⟨w.heap.size, 1, none⟩ = false := sfroz fb11
  have y11 : (w1.setCell ⟨w.heap.size, 1, none⟩ (.slice O1 code.length k1)).cell? ⟨w.heap.size + 1, 1, none⟩ = some (.slice none 0 0) := scell_far (by omega) r11
  have fy11 : (w1.setCell ⟨w.heap.size, 1, none⟩ (.slice O1 code.length k1)).frozen? ⟨w.heap.size + 1, 1, none⟩ = false := sfroz fr11
  have x12 : (w1.setCell ⟨w.heap.size, 1, none⟩ (.slice O1 code.length k1)).cell? ⟨w.heap.size, 2, none⟩ = some (.int .i64 dA) := scell_ne (by omega) b12
  have fx12 : (w1.setCell ⟨w.heap.size, 1, none⟩ (.slice O1 code.length k1)).frozen? ⟨w.heap.size, 2, none⟩ = false := sfroz fb12
  have y12 : (w1.setCell ⟨w.heap.size, 1, none⟩ (.slice O1 code.length k1)).cell? ⟨w.heap.size + 1, 2, none⟩ = some (.int .i64 0) := scell_far (by omega) r12
  have fy12 : (w1.setCell ⟨w.heap.size, 1, none⟩ (.slice O1 code.length k1)).frozen? ⟨w.heap.size + 1, 2, none⟩ = false := sfroz fr12
  have x13 : (w1.setCell ⟨w.heap.size, 1, none⟩ (.slice O1 code.length k1)).cell? ⟨w.heap.size, 3, none⟩ = some (.slice A2 data.length c2) := scell_ne (by omega) b13
  have fx13 : (w1.setCell ⟨w.heap.size, 1, none⟩ (.slice O1 code.length k1)).frozen? ⟨w.heap.size, 3, none⟩ = false := sfroz fb13
  have y13 : (w1.setCell ⟨w.heap.size, 1, none⟩ (.slice O1 code.length k1)).cell? ⟨w.heap.size + 1, 3, none⟩ = some (.slice none 0 0) := scell_far (by omega) r13
  have fy13 : (w1.setCell ⟨w.heap.size, 1, none⟩ (.slice O1 code.length k1)).frozen? ⟨w.heap.size + 1, 3, none⟩ = false := sfroz fr13
  have x14 : (w1.setCell ⟨w.heap.size, 1, none⟩ (.slice O1 code.length k1)).cell? ⟨w.heap.size, 4, none⟩ = some (.slice A3 ss.length c3) := scell_ne (by omega) b14
  have fx14 : (w1.setCell ⟨w.heap.size, 1, none⟩ (.slice O1 code.length k1)).frozen? ⟨w.heap.size, 4, none⟩ = false := sfroz fb14
  have y14 : (w1.setCell ⟨w.heap.size, 1, none⟩ (.slice O1 code.length k1)).cell? ⟨w.heap.size + 1, 4, none⟩ = some (.slice none 0 0) := scell_far (by omega) r14
  have fy14 : (w1.setCell ⟨w.heap.size, 1, none⟩ (.slice O1 code.length k1)).frozen? ⟨w.heap.size + 1, 4, none⟩ = false := sfroz fr14
  have x15 : (w1.setCell ⟨w.heap.size, 1, none⟩ (.slice O1 code.length k1)).cell? ⟨w.heap.size, 5, none⟩ = some (.slice A4 rs.length c4) := scell_ne (by omega) b15
  have fx15 : (w1.setCell ⟨w.heap.size, 1, none⟩ (.slice O1 code.length k1)).frozen? ⟨w.heap.size, 5, none⟩ = false := sfroz fb15
  have y15 : (w1.setCell ⟨w.heap.size, 1, none⟩ (.slice O1 code.length k1)).cell? ⟨w.heap.size + 1, 5, none⟩ = some (.slice none 0 0) := scell_far (by omega) r15
  have fy15 : (w1.setCell ⟨w.heap.size, 1, none⟩ (.slice O1 code.length k1)).frozen? ⟨w.heap.size + 1, 5, none⟩ = false := sfroz fr15
  have HB1 : Hid (Below w.heap.size w w1) := below_growC (lb_alloc (lb_alloc (Below.refl _ _) _) _) hg1
  have HX1 : Hid (Below w.heap.size w (w1.setCell ⟨w.heap.size, 1, none⟩ (.slice O1 code.length k1))) := HB1.out.setCell (Nat.le_refl _) _
  have hb1 : w.heap.size + 2 ≤ w1.heap.size := by have := hg1.size; simp at this; omega
  have HO11 : Hid (w1.ownsRow (w.heap.size + 2) 78 1 (.slice O1 code.length k1) code.length (iNews .u32 code)) := ownMono hown1 (by simp)
  have HP11 : Hid ((w1.setCell ⟨w.heap.size, 1, none⟩ (.slice O1 code.length k1)).ownsRow (w.heap.size + 2) 78 1 (.slice O1 code.length k1) code.length (iNews .u32 code)) := keepS HO11.out (gset _ _ _ _) (by omega)
  clear hown1 hg1 hn1
  go_wp2_with fail
  refine (copylongs_any A2 c2 data _ (hD.keep HX1.out) h02 hd).mono ?_
  rintro e w2 ⟨O2, k2, rfl, hown2, hg2, hn2⟩
  have b20 := gcell hg2 x10
  have fb20 := gfroz hg2 x10 fx10
  have r20 := gcell hg2 y10
  have fr20 := gfroz hg2 y10 fy10
  have b21 := gcell hg2 x11
  have fb21 := gfroz hg2 x11 fx11
  have r21 := gcell hg2 y11
  have fr21 := gfroz hg2 y11 fy11
  have b22 := gcell hg2 x12
  have fb22 := gfroz hg2 x12 fx12
  have r22 := gcell hg2 y12
  have fr22 := gfroz hg2 y12 fy12
  have b23 := gcell hg2 x13
  have fb23 := gfroz hg2 x13 fx13
  have r23 := gcell hg2 y13
  have fr23 := gfroz hg2 y13 fy13
  have b24 := gcell hg2 x14
  have fb24 := gfroz hg2 x14 fx14
  have r24 := gcell hg2 y14
  have fr24 := gfroz hg2 y14 fy14
  have b25 := gcell hg2 x15
  have fb25 := gfroz hg2 x15 fx15
  have r25 := gcell hg2 y15
  have fr25 := gfroz hg2 y15 fy15
  have x20 : (w2.setCell ⟨w.heap.size, 3, none⟩ (.slice O2 data.length k2)).cell? ⟨w.heap.size, 0, none⟩ = some (.string nm) := scell_ne (by omega) b20
  have fx20 : (w2.setCell ⟨w.heap.size, 3, none⟩ (.slice O2 data.length k2)).frozen? ⟨w.heap.size, 0, none⟩ = false := sfroz fb20
  have y20 : (w2.setCell ⟨w.heap.size, 3, none⟩ (.slice O2 data.length k2)).cell? ⟨w.heap.size + 1, 0, none⟩ = some (.string ⟨#[]⟩) := scell_far (by omega) r20
  have fy20 : (w2.setCell ⟨w.heap.size, 3, none⟩ (.slice O2 data.length k2)).frozen? ⟨w.heap.size + 1, 0, none⟩ = false := sfroz fr20
  have x21 : (w2.setCell ⟨w.heap.size, 3, none⟩ (.slice O2 data.length k2)).cell? ⟨w.heap.size, 1, none⟩ = some (.slice O1 code.length k1) := scell_ne (by omega) b21
  have fx21 : (w2.setCell ⟨w.heap.size, 3, none⟩ (.slice O2 data.length k2)).frozen? ⟨w.heap.size, 1, none⟩ = false := sfroz fb21
  have y21 : (w2.setCell ⟨w.heap.size, 3, none⟩ (.slice O2 data.length k2)).cell? ⟨w.heap.size + 1, 1, none⟩ = some (.slice none 0 0) := scell_far (by omega) r21
  have fy21 : (w2.setCell ⟨w.heap.size, 3, none⟩ (.slice O2 data.length k2)).frozen? ⟨w.heap.size + 1, 1, none⟩ = false := sfroz fr21
  have x22 : (w2.setCell ⟨w.heap.size, 3, none⟩ (.slice O2 data.length k2)).cell? ⟨w.heap.size, 2, none⟩ = some (.int .i64 dA) := scell_ne (by omega) b22
  have fx22 : (w2.setCell ⟨w.heap.size, 3, none⟩ (.slice O2 data.length k2)).frozen? ⟨w.heap.size, 2, none⟩ = false := sfroz fb22
  have y22 : (w2.setCell ⟨w.heap.size, 3, none⟩ (.slice O2 data.length k2)).cell? ⟨w.heap.size + 1, 2, none⟩ = some (.int .i64 0) := scell_far (by omega) r22
  have fy22 : (w2.setCell ⟨w.heap.size, 3, none⟩ (.slice O2 data.length k2)).frozen? ⟨w.heap.size + 1, 2, none⟩ = false := sfroz fr22
  have x23 : (w2.setCell ⟨w.heap.size, 3, none⟩ (.slice O2 data.length k2)).cell? ⟨w.heap.size, 3, none⟩ = some (.slice O2 data.length k2) := scell_eq b23
  have fx23 : (w2.setCell ⟨w.heap.size, 3, none⟩ (.slice O2 data.length k2)).frozen? ⟨w.heap.size, 3, none⟩ = false := sfroz fb23
  have y23 : (w2.setCell ⟨w.heap.size, 3, none⟩ (.slice O2 data.length k2)).cell? ⟨w.heap.size + 1, 3, none⟩ = some (.slice none 0 0) := scell_far (by omega) r23
  have fy23 : (w2.setCell ⟨w.heap.size, 3, none⟩ (.slice O2 data.length k2)).frozen? ⟨w.heap.size + 1, 3, none⟩ = false := sfroz fr23
  have x24 : (w2.setCell ⟨w.heap.size, 3, none⟩ (.slice O2 data.length k2)).cell? ⟨w.heap.size, 4, none⟩ = some (.slice A3 ss.length c3) := scell_ne (by omega) b24
  have fx24 : (w2.setCell ⟨w.heap.size, 3, none⟩ (.slice O2 data.length k2)).frozen? ⟨w.heap.size, 4, none⟩ = false := sfroz fb24
  have y24 : (w2.setCell ⟨w.heap.size, 3, none⟩ (.slice O2 data.length k2)).cell? ⟨w.heap.size + 1, 4, none⟩ = some (.slice none 0 0) := scell_far (by omega) r24
  have fy24 : (w2.setCell ⟨w.heap.size, 3, none⟩ (.slice O2 data.length k2)).frozen? ⟨w.heap.size + 1, 4, none⟩ = false := sfroz fr24
  have x25 : (w2.setCell ⟨w.heap.size, 3, none⟩ (.slice O2 data.length k2)).cell? ⟨w.heap.size, 5, none⟩ = some (.slice A4 rs.length c4) := scell_ne (by omega) b25
  have fx25 : (w2.setCell ⟨w.heap.size, 3, none⟩ (.slice O2 data.length k2)).frozen? ⟨w.heap.size, 5, none⟩ = false := sfroz fb25
  have y25 : (w2.setCell ⟨w.heap.size, 3, none⟩ (.slice O2 data.length k2)).cell? ⟨w.heap.size + 1, 5, none⟩ = some (.slice none 0 0) := scell_far (by omega) r25
  have fy25 : (w2.setCell ⟨w.heap.size, 3, none⟩ (.slice O2 data.length k2)).frozen? ⟨w.heap.size + 1, 5, none⟩ = false := sfroz fr25
  have HB2 : Hid (Below w.heap.size w w2) := below_growC HX1.out hg2
  have HX2 : Hid (Below w.heap.size w (w2.setCell ⟨w.heap.size, 3, none⟩ (.slice O2 data.length k2))) := HB2.out.setCell (Nat.le_refl _) _
  have hb2 : w.heap.size + 2 ≤ w2.heap.size := by have := hg2.size; simp at this; omega
  have HO22 : Hid (w2.ownsRow (w.heap.size + 2) 2 1 (.slice O2 data.length k2) data.length (iNews .i64 data)) := ownMono hown2 (by simp; omega)
  have HO21 : Hid (w2.ownsRow (w.heap.size + 2) 78 1 (.slice O1 code.length k1) code.length (iNews .u32 code)) := keepN HP11.out hg2
  have HP21 : Hid ((w2.setCell ⟨w.heap.size, 3, none⟩ (.slice O2 data.length k2)).ownsRow (w.heap.size + 2) 78 1 (.slice O1 code.length k1) code.length (iNews .u32 code)) := keepS HO21.out (gset _ _ _ _) (by omega)
  have HP22 : Hid ((w2.setCell ⟨w.heap.size, 3, none⟩ (.slice O2 data.length k2)).ownsRow (w.heap.size + 2) 2 1 (.slice O2 data.length k2) data.length (iNews .i64 data)) := keepS HO22.out (gset _ _ _ _) (by omega)
  clear hown2 hg2 hn2 x10 fx10 y10 fy10 b10 fb10 r10 fr10 x11 fx11 y11 fy11 b11 fb11 r11 fr11 x12 fx12 y12 fy12 b12 fb12 r12 fr12 x13 fx13 y13 fy13 b13 fb13 r13 fr13 x14 fx14 y14 fy14 b14 fb14 r14 fr14 x15 fx15 y15 fy15 b15 fb15 r15 fr15
  go_wp2_with fail
  refine (copysym_any A3 c3 ss _ (hS.keep HX2.out) h03 hs).mono ?_
  rintro e w3 ⟨O3, k3, rfl, hown3, hg3, hn3⟩
  have b30 := gcell hg3 x20
  have fb30 := gfroz hg3 x20 fx20
  have r30 := gcell hg3 y20
  have fr30 := gfroz hg3 y20 fy20
  have b31 := gcell hg3 x21
  have fb31 := gfroz hg3 x21 fx21
  have r31 := gcell hg3 y21
  have fr31 := gfroz hg3 y21 fy21
  have b32 := gcell hg3 x22
  have fb32 := gfroz hg3 x22 fx22
  have r32 := gcell hg3 y22
  have fr32 := gfroz hg3 y22 fy22
  have b33 := gcell hg3 x23
  have fb33 := gfroz hg3 x23 fx23
  have r33 := gcell hg3 y23
  have fr33 := gfroz hg3 y23 fy23
  have b34 := gcell hg3 x24
  have fb34 := gfroz hg3 x24 fx24
  have r34 := gcell hg3 y24
  have fr34 := gfroz hg3 y24 fy24
  have b35 := gcell hg3 x25
  have fb35 := gfroz hg3 x25 fx25
  have r35 := gcell hg3 y25
  have fr35 := gfroz hg3 y25 fy25
  have x30 : (w3.setCell ⟨w.heap.size, 4, none⟩ (.slice O3 ss.length k3)).cell? ⟨w.heap.size, 0, none⟩ = some (.string nm) := scell_ne (by omega) b30
  have fx30 : (w3.setCell ⟨w.heap.size, 4, none⟩ (.slice O3 ss.length k3)).frozen? ⟨w.heap.size, 0, none⟩ = false := sfroz fb30
  have y30 : (w3.setCell ⟨w.heap.size, 4, none⟩ (.slice O3 ss.length k3)).cell? ⟨w.heap.size + 1, 0, none⟩ = some (.string ⟨#[]⟩) := scell_far (by omega) r30
  have fy30 : (w3.setCell ⟨w.heap.size, 4, none⟩ (.slice O3 ss.length k3)).frozen? ⟨w.heap.size + 1, 0, none⟩ = false := sfroz fr30
  have x31 : (w3.setCell ⟨w.heap.size, 4, none⟩ (.slice O3 ss.length k3)).cell? ⟨w.heap.size, 1, none⟩ = some (.slice O1 code.length k1) := scell_ne (by omega) b31
  have fx31 : (w3.setCell ⟨w.heap.size, 4, none⟩ (.slice O3 ss.length k3)).frozen? ⟨w.heap.size, 1, none⟩ = false := sfroz fb31
  have y31 : (w3.setCell ⟨w.heap.size, 4, none⟩ (.slice O3 ss.length k3)).cell? ⟨w.heap.size + 1, 1, none⟩ = some (.slice none 0 0) := scell_far (by omega) r31
  have fy31 : (w3.setCell ⟨w.heap.size, 4, none⟩ (.slice O3 ss.length k3)).frozen? ⟨w.heap.size + 1, 1, none⟩ = false := sfroz fr31
  have x32 : (w3.setCell ⟨w.heap.size, 4, none⟩ (.slice O3 ss.length k3)).cell? ⟨w.heap.size, 2, none⟩ = some (.int .i64 dA) := scell_ne (by omega) b32
  have fx32 : (w3.setCell ⟨w.heap.size, 4, none⟩ (.slice O3 ss.length k3)).frozen? ⟨w.heap.size, 2, none⟩ = false := sfroz fb32
  have y32 : (w3.setCell ⟨w.heap.size, 4, none⟩ (.slice O3 ss.length k3)).cell? ⟨w.heap.size + 1, 2, none⟩ = some (.int .i64 0) := scell_far (by omega) r32
  have fy32 : (w3.setCell ⟨w.heap.size, 4, none⟩ (.slice O3 ss.length k3)).frozen? ⟨w.heap.size + 1, 2, none⟩ = false := sfroz fr32
  have x33 : (w3.setCell ⟨w.heap.size, 4, none⟩ (.slice O3 ss.length k3)).cell? ⟨w.heap.size, 3, none⟩ = some (.slice O2 data.length k2) := scell_ne (by omega) b33
  have fx33 : (w3.setCell ⟨w.heap.size, 4, none⟩ (.slice O3 ss.length k3)).frozen? ⟨w.heap.size, 3, none⟩ = false := sfroz fb33
  have y33 : (w3.setCell ⟨w.heap.size, 4, none⟩ (.slice O3 ss.length k3)).cell? ⟨w.heap.size + 1, 3, none⟩ = some (.slice none 0 0) := scell_far (by omega) r33
  have fy33 : (w3.setCell ⟨w.heap.size, 4, none⟩ (.slice O3 ss.length k3)).frozen? ⟨w.heap.size + 1, 3, none⟩ = false := sfroz fr33
  have x34 : (w3.setCell ⟨w.heap.size, 4, none⟩ (.slice O3 ss.length k3)).cell? ⟨w.heap.size, 4, none⟩ = some (.slice O3 ss.length k3) := scell_eq b34
  have fx34 : (w3.setCell ⟨w.heap.size, 4, none⟩ (.slice O3 ss.length k3)).frozen? ⟨w.heap.size, 4, none⟩ = false := sfroz fb34
  have y34 : (w3.setCell ⟨w.heap.size, 4, none⟩ (.slice O3 ss.length k3)).cell? ⟨w.heap.size + 1, 4, none⟩ = some (.slice none 0 0) := scell_far (by omega) r34
  have fy34 : (w3.setCell ⟨w.heap.size, 4, none⟩ (.slice O3 ss.length k3)).frozen? ⟨w.heap.size + 1, 4, none⟩ = false := sfroz fr34
  have x35 : (w3.setCell ⟨w.heap.size, 4, none⟩ (.slice O3 ss.length k3)).cell? ⟨w.heap.size, 5, none⟩ = some (.slice A4 rs.length c4) := scell_ne (by omega) b35
  have fx35 : (w3.setCell ⟨w.heap.size, 4, none⟩ (.slice O3 ss.length k3)).frozen? ⟨w.heap.size, 5, none⟩ = false := sfroz fb35
  have y35 : (w3.setCell ⟨w.heap.size, 4, none⟩ (.slice O3 ss.length k3)).cell? ⟨w.heap.size + 1, 5, none⟩ = some (.slice none 0 0) := scell_far (by omega) r35
  have fy35 : (w3.setCell ⟨w.heap.size, 4, none⟩ (.slice O3 ss.length k3)).frozen? ⟨w.heap.size + 1, 5, none⟩ = false := sfroz fr35
  have HB3 : Hid (Below w.heap.size w w3) := below_growC HX2.out hg3
  have HX3 : Hid (Below w.heap.size w (w3.setCell ⟨w.heap.size, 4, none⟩ (.slice O3 ss.length k3))) := HB3.out.setCell (Nat.le_refl _) _
  have hb3 : w.heap.size + 2 ≤ w3.heap.size := by have := hg3.size; simp at this; omega
  have HO33 : Hid (w3.ownsRow (w.heap.size + 2) 52 3 (.slice O3 ss.length k3) ss.length (sNews ss)) := ownMono hown3 (by simp; omega)
  have HO31 : Hid (w3.ownsRow (w.heap.size + 2) 78 1 (.slice O1 code.length k1) code.length (iNews .u32 code)) := keepN HP21.out hg3
  have HO32 : Hid (w3.ownsRow (w.heap.size + 2) 2 1 (.slice O2 data.length k2) data.length (iNews .i64 data)) := keepN HP22.out hg3
  have HP31 : Hid ((w3.setCell ⟨w.heap.size, 4, none⟩ (.slice O3 ss.length k3)).ownsRow (w.heap.size + 2) 78 1 (.slice O1 code.length k1) code.length (iNews .u32 code)) := keepS HO31.out (gset _ _ _ _) (by omega)
  have HP32 : Hid ((w3.setCell ⟨w.heap.size, 4, none⟩ (.slice O3 ss.length k3)).ownsRow (w.heap.size + 2) 2 1 (.slice O2 data.length k2) data.length (iNews .i64 data)) := keepS HO32.out (gset _ _ _ _) (by omega)
  have HP33 : Hid ((w3.setCell ⟨w.heap.size, 4, none⟩ (.slice O3 ss.length k3)).ownsRow (w.heap.size + 2) 52 3 (.slice O3 ss.length k3) ss.length (sNews ss)) := keepS HO33.out (gset _ _ _ _) (by omega)
  clear hown3 hg3 hn3 x20 fx20 y20 fy20 b20 fb20 r20 fr20 x21 fx21 y21 fy21 b21 fb21 r21 fr21 x22 fx22 y22 fy22 b22 fb22 r22 fr22 x23 fx23 y23 fy23 b23 fb23 r23 fr23 x24 fx24 y24 fy24 b24 fb24 r24 fr24 x25 fx25 y25 fy25 b25 fb25 r25 fr25
  go_wp2_with fail
  refine (copyrel_any A4 c4 rs _ (hL.keep HX3.out) h04 hl).mono ?_
  rintro e w4 ⟨O4, k4, rfl, hown4, hg4, hn4⟩
  have b40 := gcell hg4 x30
  have fb40 := gfroz hg4 x30 fx30
  have r40 := gcell hg4 y30
  have fr40 := gfroz hg4 y30 fy30
  have b41 := gcell hg4 x31
  have fb41 := gfroz hg4 x31 fx31
  have r41 := gcell hg4 y31
  have fr41 := gfroz hg4 y31 fy31
  have b42 := gcell hg4 x32
  have fb42 := gfroz hg4 x32 fx32
  have r42 := gcell hg4 y32
  have fr42 := gfroz hg4 y32 fy32
  have b43 := gcell hg4 x33
  have fb43 := gfroz hg4 x33 fx33
  have r43 := gcell hg4 y33
  have fr43 := gfroz hg4 y33 fy33
  have b44 := gcell hg4 x34
  have fb44 := gfroz hg4 x34 fx34
  have r44 := gcell hg4 y34
  have fr44 := gfroz hg4 y34 fy34
  have b45 := gcell hg4 x35
  have fb45 := gfroz hg4 x35 fx35
  have r45 := gcell hg4 y35
  have fr45 := gfroz hg4 y35 fy35
  have x40 : (w4.setCell ⟨w.heap.size, 5, none⟩ (.slice O4 rs.length k4)).cell? ⟨w.heap.size, 0, none⟩ = some (.string nm) := scell_ne (by omega) b40
  have fx40 : (w4.setCell ⟨w.heap.size, 5, none⟩ (.slice O4 rs.length k4)).frozen? ⟨w.heap.size, 0, none⟩ = false := sfroz fb40
  have y40 : (w4.setCell ⟨w.heap.size, 5, none⟩ (.slice O4 rs.length k4)).cell? ⟨w.heap.size + 1, 0, none⟩ = some (.string ⟨#[]⟩) := scell_far (by omega) r40
  have fy40 : (w4.setCell ⟨w.heap.size, 5, none⟩ (.slice O4 rs.length k4)).frozen? ⟨w.heap.size + 1, 0, none⟩ = false := sfroz fr40
  have x41 : (w4.setCell ⟨w.heap.size, 5, none⟩ (.slice O4 rs.length k4)).cell? ⟨w.heap.size, 1, none⟩ = some (.slice O1 code.length k1) := scell_ne (by omega) b41
  have fx41 : (w4.setCell ⟨w.heap.size, 5, none⟩ (.slice O4 rs.length k4)).frozen? ⟨w.heap.size, 1, none⟩ = false := sfroz fb41
  have y41 : (w4.setCell ⟨w.heap.size, 5, none⟩ (.slice O4 rs.length k4)).cell? ⟨w.heap.size + 1, 1, none⟩ = some (.slice none 0 0) := scell_far (by omega) r41
  have fy41 : (w4.setCell ⟨w.heap.size, 5, none⟩ (.slice O4 rs.length k4)).frozen? ⟨w.heap.size + 1, 1, none⟩ = false := sfroz fr41
  have x42 : (w4.setCell ⟨w.heap.size, 5, none⟩ (.slice O4 rs.length k4)).cell? ⟨w.heap.size, 2, none⟩ = some (.int .i64 dA) := scell_ne (by omega) b42
  have fx42 : (w4.setCell ⟨w.heap.size, 5, none⟩ (.slice O4 rs.length k4)).frozen? ⟨w.heap.size, 2, none⟩ = false := sfroz fb42
  have y42 : (w4.setCell ⟨w.heap.size, 5, none⟩ (.slice O4 rs.length k4)).cell? ⟨w.heap.size + 1, 2, none⟩ = some (.int .i64 0) := scell_far (by omega) r42
  have fy42 : (w4.setCell ⟨w.heap.size, 5, none⟩ (.slice O4 rs.length k4)).frozen? ⟨w.heap.size + 1, 2, none⟩ = false := sfroz fr42
  have x43 : (w4.setCell ⟨w.heap.size, 5, none⟩ (.slice O4 rs.length k4)).cell? ⟨w.heap.size, 3, none⟩ = some (.slice O2 data.length k2) := scell_ne (by omega) b43
  have fx43 : (w4.setCell ⟨w.heap.size, 5, none⟩ (.slice O4 rs.length k4)).frozen? ⟨w.heap.size, 3, none⟩ = false := sfroz fb43
  have y43 : (w4.setCell ⟨w.heap.size, 5, none⟩ (.slice O4 rs.length k4)).cell? ⟨w.heap.size + 1, 3, none⟩ = some (.slice none 0 0) := scell_far (by omega) r43
  have fy43 : (w4.setCell ⟨w.heap.size, 5, none⟩ (.slice O4 rs.length k4)).frozen? ⟨w.heap.size + 1, 3, none⟩ = false := sfroz fr43
  have x44 : (w4.setCell ⟨w.heap.size, 5, none⟩ (.slice O4 rs.length k4)).cell? ⟨w.heap.size, 4, none⟩ = some (.slice O3 ss.length k3) := scell_ne (by omega) b44
  have fx44 : (w4.setCell ⟨w.heap.size, 5, none⟩ (.slice O4 rs.length k4)).frozen? ⟨w.heap.size, 4, none⟩ = false := sfroz fb44
  have y44 : (w4.setCell ⟨w.heap.size, 5, none⟩ (.slice O4 rs.length k4)).cell? ⟨w.heap.size + 1, 4, none⟩ = some (.slice none 0 0) := scell_far (by omega) r44
  have fy44 : (w4.setCell ⟨w.heap.size, 5, none⟩ (.slice O4 rs.length k4)).frozen? ⟨w.heap.size + 1, 4, none⟩ = false := sfroz fr44
  have x45 : (w4.setCell ⟨w.heap.size, 5, none⟩ (.slice O4 rs.length k4)).cell? ⟨w.heap.size, 5, none⟩ = some (.slice O4 rs.length k4) := scell_eq b45
  have fx45 : (w4.setCell ⟨w.heap.size, 5, none⟩ (.slice O4 rs.length k4)).frozen? ⟨w.heap.size, 5, none⟩ = false := sfroz fb45
  have y45 : (w4.setCell ⟨w.heap.size, 5, none⟩ (.slice O4 rs.length k4)).cell? ⟨w.heap.size + 1, 5, none⟩ = some (.slice none 0 0) := scell_far (by omega) r45
  have fy45 : (w4.setCell ⟨w.heap.size, 5, none⟩ (.slice O4 rs.length k4)).frozen? ⟨w.heap.size + 1, 5, none⟩ = false := sfroz fr45
  have HB4 : Hid (Below w.heap.size w w4) := below_growC HX3.out hg4
  have HX4 : Hid (Below w.heap.size w (w4.setCell ⟨w.heap.size, 5, none⟩ (.slice O4 rs.length k4))) := HB4.out.setCell (Nat.le_refl _) _
  have hb4 : w.heap.size + 2 ≤ w4.heap.size := by have := hg4.size; simp at this; omega
  have HO44 : Hid (w4.ownsRow (w.heap.size + 2) 96 2 (.slice O4 rs.length k4) rs.length (rNews rs)) := ownMono hown4 (by simp; omega)
  have HO41 : Hid (w4.ownsRow (w.heap.size + 2) 78 1 (.slice O1 code.length k1) code.length (iNews .u32 code)) := keepN HP31.out hg4
  have HO42 : Hid (w4.ownsRow (w.heap.size + 2) 2 1 (.slice O2 data.length k2) data.length (iNews .i64 data)) := keepN HP32.out hg4
  have HO43 : Hid (w4.ownsRow (w.heap.size + 2) 52 3 (.slice O3 ss.length k3) ss.length (sNews ss)) := keepN HP33.out hg4
  have HP41 : Hid ((w4.setCell ⟨w.heap.size, 5, none⟩ (.slice O4 rs.length k4)).ownsRow (w.heap.size + 2) 78 1 (.slice O1 code.length k1) code.length (iNews .u32 code)) := keepS HO41.out (gset _ _ _ _) (by omega)
  have HP42 : Hid ((w4.setCell ⟨w.heap.size, 5, none⟩ (.slice O4 rs.length k4)).ownsRow (w.heap.size + 2) 2 1 (.slice O2 data.length k2) data.length (iNews .i64 data)) := keepS HO42.out (gset _ _ _ _) (by omega)
  have HP43 : Hid ((w4.setCell ⟨w.heap.size, 5, none⟩ (.slice O4 rs.length k4)).ownsRow (w.heap.size + 2) 52 3 (.slice O3 ss.length k3) ss.length (sNews ss)) := keepS HO43.out (gset _ _ _ _) (by omega)
  have HP44 : Hid ((w4.setCell ⟨w.heap.size, 5, none⟩ (.slice O4 rs.length k4)).ownsRow (w.heap.size + 2) 96 2 (.slice O4 rs.length k4) rs.length (rNews rs)) := keepS HO44.out (gset _ _ _ _) (by omega)
  clear hown4 hg4 hn4 x30 fx30 y30 fy30 b30 fb30 r30 fr30 x31 fx31 y31 fy31 b31 fb31 r31 fr31 x32 fx32 y32 fy32 b32 fb32 r32 fr32 x33 fx33 y33 fy33 b33 fb33 r33 fr33 x34 fx34 y34 fy34 b34 fb34 r34 fr34 x35 fx35 y35 fy35 b35 fb35 r35 fr35
  go_wp2
  exact bodyPost_ret (v := .agg #[.string nm, .slice O1 code.length k1, .int .i64 dA, .slice O2 data.length k2, .slice O3 ss.length k3, .slice O4 rs.length k4]) (by simp [results, Try.results31, go_sem, y40, y41, y42, y43, y44, y45]) rfl ⟨O1, O2, O3, O4, k1, k2, k3, k4, rfl, ((((((HX4.out.setCell (Nat.le_succ _) _).setCell (Nat.le_succ _) _).setCell (Nat.le_succ _) _).setCell (Nat.le_succ _) _).setCell (Nat.le_succ _) _).setCell (Nat.le_succ _) _), ownMono (keepS HP41.out (Lib.grownBy_setB (Lib.grownBy_setB (Lib.grownBy_setB (Lib.grownBy_setB (Lib.grownBy_setB (gset _ _ _ _) _ _) _ _) _ _) _ _) _ _) (by omega)) (by omega), ownMono (keepS HP42.out (Lib.grownBy_setB (Lib.grownBy_setB (Lib.grownBy_setB (Lib.grownBy_setB (Lib.grownBy_setB (gset _ _ _ _) _ _) _ _) _ _) _ _) _ _) (by omega)) (by omega), ownMono (keepS HP43.out (Lib.grownBy_setB (Lib.grownBy_setB (Lib.grownBy_setB (Lib.grownBy_setB (Lib.grownBy_setB (gset _ _ _ _) _ _) _ _) _ _) _ _) _ _) (by omega)) (by omega), ownMono (keepS HP44.out (Lib.grownBy_setB (Lib.grownBy_setB (Lib.grownBy_setB (Lib.grownBy_setB (Lib.grownBy_setB (gset _ _ _ _) _ _) _ _) _ _) _ _) _ _) (by omega)) (by omega)⟩





end Go.Proofs.Ytiihfkjgdhfmiaa

namespace Go.Proofs.Ytiihfkjgdhfmiaa
open Go.RowKit

theorem own_any {w : World} {base : Nat} {e : TypeId} {size : Nat} {v : Value} {n : Nat} {xs : List Value} (h : w.ownsRow base e size v n xs) : ∃ A c, v = .slice A n c ∧ n ≤ c := by
  rcases h.2 with ⟨rfl, rfl⟩ | ⟨g, cap, cur, rfl, _, _, hc, _⟩
  · exact ⟨none, 0, rfl, Nat.le_refl _⟩
  · exact ⟨_, _, rfl, hc⟩

theorem sNews_get {l : List Sym} {i : Nat} (h : i < l.length) : (sNews l)[i * 3]? = some (.string (sName l i)) ∧ (sNews l)[i * 3 + 1]? = some (.int .i8 (sKind l i)) ∧ (sNews l)[i * 3 + 2]? = some (.int .i64 (sAt l i)) := by
  refine ⟨?_, ?_, ?_⟩
  · rw [sNews, List.getElem?_map, List.getElem?_range (by omega)]
    simp only [Option.map_some, wSym]
    rw [show i * 3 / 3 = i by omega, show i * 3 % 3 = 0 by omega, if_pos h]
    rfl
  · rw [sNews, List.getElem?_map, List.getElem?_range (by omega)]
    simp only [Option.map_some, wSym]
    rw [show (i * 3 + 1) / 3 = i by omega, show (i * 3 + 1) % 3 = 1 by omega, if_pos h]
    rfl
  · rw [sNews, List.getElem?_map, List.getElem?_range (by omega)]
    simp only [Option.map_some, wSym]
    rw [show (i * 3 + 2) / 3 = i by omega, show (i * 3 + 2) % 3 = 2 by omega, if_pos h]
    rfl
theorem rNews_get {l : List Rel} {i : Nat} (h : i < l.length) : (rNews l)[i * 2]? = some (.int .i64 (rAt l i)) ∧ (rNews l)[i * 2 + 1]? = some (.int .i64 (rSym l i)) := by
  refine ⟨?_, ?_⟩
  · rw [rNews, List.getElem?_map, List.getElem?_range (by omega)]
    simp only [Option.map_some, wRel]
    rw [show i * 2 / 2 = i by omega, show i * 2 % 2 = 0 by omega, if_pos h]
    rfl
  · rw [rNews, List.getElem?_map, List.getElem?_range (by omega)]
    simp only [Option.map_some, wRel]
    rw [show (i * 2 + 1) / 2 = i by omega, show (i * 2 + 1) % 2 = 1 by omega, if_pos h]
    rfl

theorem iNews_get {K : IntKind} {l : List Int} {i : Nat} (h : i < l.length) : (iNews K l)[i]? = some (.int K (nth l i)) := by
  simp [iNews, h, wInt]
theorem nrow_ints {w : World} {base c n : Nat} {e : TypeId} {A : Option Addr} {K : IntKind} {l : List Int} (h : w.ownsRow base e 1 (.slice A n c) l.length (iNews K l)) : IntsAt w A K l := fun i hi => by
  rcases h.2 with ⟨_, h0⟩ | ⟨j, cap, cur, hv, hb, hg, hc, _⟩
  · omega
  · cases hv
    exact ⟨_, rfl, h.cells rfl _ _ (iNews_get hi)⟩
theorem nrow_syms {w : World} {base c n : Nat} {e : TypeId} {A : Option Addr} {l : List Sym} (h : w.ownsRow base e 3 (.slice A n c) l.length (sNews l)) : SymsAt w A l := fun i hi => by
  rcases h.2 with ⟨_, h0⟩ | ⟨j, cap, cur, hv, hb, hg, hc, _⟩
  · omega
  · cases hv
    obtain ⟨a, b, d⟩ := sNews_get hi
    exact ⟨_, rfl, h.cells rfl _ _ a, by rw [Deep.add_add]; exact h.cells rfl _ _ b, by rw [Deep.add_add]; exact h.cells rfl _ _ d⟩
theorem nrow_rels {w : World} {base c n : Nat} {e : TypeId} {A : Option Addr} {l : List Rel} (h : w.ownsRow base e 2 (.slice A n c) l.length (rNews l)) : RelsAt w A l := fun i hi => by
  rcases h.2 with ⟨_, h0⟩ | ⟨j, cap, cur, hv, hb, hg, hc, _⟩
  · omega
  · cases hv
    obtain ⟨a, b⟩ := rNews_get hi
    exact ⟨_, rfl, h.cells rfl _ _ a, by rw [Deep.add_add]; exact h.cells rfl _ _ b⟩
/-- No list that is none has room. -/
def NoneO (p : Pl) : Prop := (p.A1 = none → p.c1 = 0) ∧ (p.A2 = none → p.c2 = 0) ∧ (p.A3 = none → p.c3 = 0) ∧ (p.A4 = none → p.c4 = 0)
theorem copyob_any (o : Ob) (p : Pl) (w : World) (h : ObIn w p o) (h0 : NoneO p) :
    Calls Try.prog 31 #[.agg #[.string o.nm, .slice p.A1 o.code.length p.c1, .int .i64 o.dA, .slice p.A2 o.data.length p.c2, .slice p.A3 o.ss.length p.c3, .slice p.A4 o.rs.length p.c4]] w fun e w' => ∃ p' : Pl, e = .returned (.agg #[.string o.nm, .slice p'.A1 o.code.length p'.c1, .int .i64 o.dA, .slice p'.A2 o.data.length p'.c2, .slice p'.A3 o.ss.length p'.c3, .slice p'.A4 o.rs.length p'.c4]) ∧ Below w.heap.size w w' ∧ ObIn w' p' o := by
  refine (copyobj_any o.nm o.dA p.A1 p.A2 p.A3 p.A4 p.c1 p.c2 p.c3 p.c4 o.code o.data o.ss o.rs w h.cd h.dt h.sy h.rl h0.1 h0.2.1 h0.2.2.1 h0.2.2.2 h.hc h.hd h.hs h.hl).mono ?_
  rintro e w' ⟨O1, O2, O3, O4, k1, k2, k3, k4, rfl, hb, r1, r2, r3, r4⟩
  obtain ⟨_, c, e4, h4⟩ := own_any r4
  refine ⟨⟨O1, O2, O3, O4, k1, k2, k3, k4⟩, rfl, hb, ⟨nrow_ints r1, nrow_ints r2, nrow_syms r3, nrow_rels r4, h.cr, h.dr, h.da, h.hc, h.hd, h.hs, h.hl, h.hN, ?_⟩⟩
  cases e4
  exact h4



end Go.Proofs.Ytiihfkjgdhfmiaa
