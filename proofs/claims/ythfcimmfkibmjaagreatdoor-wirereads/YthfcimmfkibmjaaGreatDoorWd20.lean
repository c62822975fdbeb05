/-
  A list of numbers copied by append, by the document's helpers: a list of its own; it is at most 2^20 long. A list of symbols, of relocations copied by append, by the document's helpers: a list of its own; it is at most 2^20 long. An object copied by the document's helper: each list is its own; the lists are at most 2^20 long. Bytes copied, and held against each other, by the statements of the document; they are at most 2^20. Write and Read one behind the other; the statements' own small run. Rows with blocks of their own, marked and grown: what stays; no Go in sight.
-/
import Derived.Test.YthfcimmfkibmjaaGreatDoorProg
import Derived.WalkKit
import Derived.WalkSpells
import Derived.WalkLawsBesides
import Derived.RowKit3
import Derived.Below
import Derived.Deep.QuietTactic
import Derived.BigQuiet
import Derived.WalkSmall
import Derived.Test.YthfcimmfkibmjaaGreatDoorWd19
import Derived.Laws.AppendOwn
import Derived.Laws.OwnMore
import Derived.Deep.Slices
import Derived.Lib.BufferOwn
import Derived.Laws.Rows
import Derived.Test.YthfcimmfkibmjaaGreatDoorWd06
import Derived.Test.YthfcimmfkibmjaaGreatDoorWd18
import Derived.Test.YthfcimmfkibmjaaGreatDoorWd16
import Derived.Deep.RegionHeld3
import Derived.Deep.AppendLies
namespace Go.Proofs.YthfcimmfkibmjaaGreatDoor
open Go.RowKit

/-- How a copy ends: a list of its own. -/
def CopyP (el sz n : Nat) (news : List Value) (w : World) (e : Ending) (w' : World) : Prop := ∃ (O : Option Addr) (cap : Nat), e = .returned (.slice O n cap) ∧ w'.ownsRow w.heap.size el sz (.slice O n cap) n news ∧ w.grownBy w' none ∧ (O = none → cap = 0)
theorem copyP_mk {el sz n : Nat} {news : List Value} {w w' : World} {v : Value} {e : Ending} (he : e = .returned v) (h : w'.ownsRow w.heap.size el sz v n news) (hg : w.grownBy w' none) : CopyP el sz n news w e w' := by
  subst he
  rcases h.2 with ⟨rfl, rfl⟩ | ⟨g, cap, cur, rfl, _⟩
  · exact ⟨none, 0, rfl, h, hg, fun _ => rfl⟩
  · exact ⟨some ⟨g, 0, none⟩, cap, rfl, h, hg, fun e => by cases e⟩
def iNews (K : IntKind) (zs : List Int) : List Value := (List.range zs.length).map (wInt K zs)
def sNews (zs : List Sym) : List Value := (List.range (zs.length * 3)).map (wSym zs)
def rNews (zs : List Rel) : List Value := (List.range (zs.length * 2)).map (wRel zs)
theorem iNews_cell {w : World} {a : Addr} {K : IntKind} {zs : List Int} (hA : IntsAt w (some a) K zs) (j : Nat) (u : Value) (h : (iNews K zs)[j]? = some u) : w.cell? (a.add j) = some u := by
  have hj : j < zs.length := by
    have := (List.getElem?_eq_some_iff.1 h).1; simpa [iNews] using this
  obtain ⟨b, e, c⟩ := hA j hj
  obtain rfl := Option.some.inj e
  rw [c, ← h]
  simp [iNews, hj, wInt]
theorem iNews_one (K : IntKind) (zs : List Int) : ∀ u ∈ iNews K zs, u.oneCell' = true := by
  intro u hu
  obtain ⟨i, _, rfl⟩ := List.mem_map.1 hu
  unfold wInt; split <;> rfl
theorem copywords_any (O : Option Addr) (ca : Nat) (zs : List Int) (w : World) (hA : IntsAt w O .u32 zs) (h0 : O = none → ca = 0) (hz : zs.length ≤ 1048576) :
    Calls Tryz.prog 73 #[.slice O zs.length ca] w fun e w' => CopyP 78 1 zs.length (iNews .u32 zs) w e w' := by
  obtain ⟨i0, hi, hz0, hz1, hz2⟩ := info45
  cases O with
  | none =>
    obtain rfl := h0 rfl
    have hl : zs.length = 0 := by
      cases zs with
      | nil => rfl
      | cons x t => obtain ⟨a, e, _⟩ := hA 0 (by simp); cases e
    have hn : iNews .u32 zs = [] := by unfold iNews; rw [hl]; rfl
    rw [hl, hn]
    have hr := run_append_owned_none (P := Tryz.prog) (w := w) w.heap.size 22 22 78 i0 1 Tryz.underlying22 hi (.slice none 0 0) 0 [] (World.ownsRow_nil w _ _ _)
    go_enter Tryz.func73, Tryz.ntmps73
    go_wp2
    go_ret
    exact copyP_mk rfl (World.ownsRow_nil w _ _ _) (World.grownBy.refl w _)
  | some a =>
    go_enter Tryz.func73, Tryz.ntmps73
    go_wp2_with (at_builtin; refine wpList_append_own _ rfl (.tmp 4) (.tmp 5) 22 rfl w.heap.size 78 i0 (.int .u32 0) 1 4 Tryz.underlying22 hi hz0 hz1 hz2 rfl (by decide) (.slice none 0 0) 0 [] rfl (World.ownsRow_nil w _ _ _) a zs.length ca (iNews .u32 zs) rfl (by simp [iNews]) (iNews_cell hA) (iNews_one _ _) (by unfold maxLen; omega) (by omega) (Nat.le_refl _) ?_; intro v' w' hown hgrow hnil)
    go_ret
    exact copyP_mk rfl (by simpa using hown) hgrow
theorem copylongs_any (O : Option Addr) (ca : Nat) (zs : List Int) (w : World) (hA : IntsAt w O .i64 zs) (h0 : O = none → ca = 0) (hz : zs.length ≤ 1048576) :
    Calls Tryz.prog 74 #[.slice O zs.length ca] w fun e w' => CopyP 2 1 zs.length (iNews .i64 zs) w e w' := by
  obtain ⟨i0, hi, hz0, hz1, hz2⟩ := info2
  cases O with
  | none =>
    obtain rfl := h0 rfl
    have hl : zs.length = 0 := by
      cases zs with
      | nil => rfl
      | cons x t => obtain ⟨a, e, _⟩ := hA 0 (by simp); cases e
    have hn : iNews .i64 zs = [] := by unfold iNews; rw [hl]; rfl
    rw [hl, hn]
    have hr := run_append_owned_none (P := Tryz.prog) (w := w) w.heap.size 23 23 2 i0 1 Tryz.underlying23 hi (.slice none 0 0) 0 [] (World.ownsRow_nil w _ _ _)
    go_enter Tryz.func74, Tryz.ntmps74
    go_wp2
    go_ret
    exact copyP_mk rfl (World.ownsRow_nil w _ _ _) (World.grownBy.refl w _)
  | some a =>
    go_enter Tryz.func74, Tryz.ntmps74
    go_wp2_with (at_builtin; refine wpList_append_own _ rfl (.tmp 4) (.tmp 5) 23 rfl w.heap.size 2 i0 (.int .i64 0) 1 8 Tryz.underlying23 hi hz0 hz1 hz2 rfl (by decide) (.slice none 0 0) 0 [] rfl (World.ownsRow_nil w _ _ _) a zs.length ca (iNews .i64 zs) rfl (by simp [iNews]) (iNews_cell hA) (iNews_one _ _) (by unfold maxLen; omega) (by omega) (Nat.le_refl _) ?_; intro v' w' hown hgrow hnil)
    go_ret
    exact copyP_mk rfl (by simpa using hown) hgrow
theorem sNews_cell {w : World} {a : Addr} {zs : List Sym} (hA : SymsAt w (some a) zs) (j : Nat) (u : Value) (h : (sNews zs)[j]? = some u) : w.cell? (a.add j) = some u := by
  have hj : j < zs.length * 3 := by
    have := (List.getElem?_eq_some_iff.1 h).1; simpa [sNews] using this
  have hu : wSym zs j = u := by simpa [sNews, hj] using h
  have hi : j / 3 < zs.length := by omega
  obtain ⟨b, e, c0, c1, c2⟩ := hA (j / 3) hi
  obtain rfl := Option.some.inj e
  rw [← hu]
  have hm : j % 3 = 0 ∨ j % 3 = 1 ∨ j % 3 = 2 := by omega
  rcases hm with m | m | m
  · have e : j = j / 3 * 3 := by omega
    rw [e, wSym_item0 zs (j / 3) hi]; exact c0
  · have e : j = j / 3 * 3 + 1 := by omega
    rw [e, wSym_item1 zs (j / 3) hi, ← Deep.add_add]; exact c1
  · have e : j = j / 3 * 3 + 2 := by omega
    rw [e, wSym_item2 zs (j / 3) hi, ← Deep.add_add]; exact c2
theorem sNews_one (zs : List Sym) : ∀ u ∈ sNews zs, u.oneCell' = true := by
  intro u hu
  obtain ⟨i, _, rfl⟩ := List.mem_map.1 hu
  unfold wSym; split <;> (split <;> (try split) <;> rfl)
theorem rNews_cell {w : World} {a : Addr} {zs : List Rel} (hA : RelsAt w (some a) zs) (j : Nat) (u : Value) (h : (rNews zs)[j]? = some u) : w.cell? (a.add j) = some u := by
  have hj : j < zs.length * 2 := by
    have := (List.getElem?_eq_some_iff.1 h).1; simpa [rNews] using this
  have hu : wRel zs j = u := by simpa [rNews, hj] using h
  have hi : j / 2 < zs.length := by omega
  obtain ⟨b, e, c0, c1⟩ := hA (j / 2) hi
  obtain rfl := Option.some.inj e
  rw [← hu]
  have hm : j % 2 = 0 ∨ j % 2 = 1 := by omega
  rcases hm with m | m
  · have e : j = j / 2 * 2 := by omega
    rw [e, wRel_item0 zs (j / 2) hi]; exact c0
  · have e : j = j / 2 * 2 + 1 := by omega
    rw [e, wRel_item1 zs (j / 2) hi, ← Deep.add_add]; exact c1
theorem rNews_one (zs : List Rel) : ∀ u ∈ rNews zs, u.oneCell' = true := by
  intro u hu
  obtain ⟨i, _, rfl⟩ := List.mem_map.1 hu
  unfold wRel; split <;> (split <;> rfl)
theorem copysym_any (O : Option Addr) (ca : Nat) (zs : List Sym) (w : World) (hA : SymsAt w O zs) (h0 : O = none → ca = 0) (hz : zs.length ≤ 1048576) :
    Calls Tryz.prog 75 #[.slice O zs.length ca] w fun e w' => CopyP 68 3 zs.length (sNews zs) w e w' := by
  obtain ⟨i0, hi, hz0, hz1, hz2⟩ := info42
  cases O with
  | none =>
    obtain rfl := h0 rfl
    have hl : zs.length = 0 := by
      cases zs with
      | nil => rfl
      | cons x t => obtain ⟨a, e, _⟩ := hA 0 (by simp); cases e
    have hn : sNews zs = [] := by unfold sNews; rw [hl]; rfl
    rw [hl, hn]
    have hr := run_append_owned_none (P := Tryz.prog) (w := w) w.heap.size 24 24 68 i0 3 Tryz.underlying24 hi (.slice none 0 0) 0 [] (World.ownsRow_nil w _ _ _)
    go_enter Tryz.func75, Tryz.ntmps75
    go_wp2
    go_ret
    exact copyP_mk rfl (World.ownsRow_nil w _ _ _) (World.grownBy.refl w _)
  | some a =>
    go_enter Tryz.func75, Tryz.ntmps75
    go_wp2_with (at_builtin; refine wpList_append_own _ rfl (.tmp 4) (.tmp 5) 24 rfl w.heap.size 68 i0 (.agg #[.string ⟨#[]⟩, .int .i8 0, .int .i64 0]) 3 32 Tryz.underlying24 hi hz0 hz1 hz2 rfl (by decide) (.slice none 0 0) 0 [] rfl (World.ownsRow_nil w _ _ _) a zs.length ca (sNews zs) rfl (by simp [sNews]) (sNews_cell hA) (sNews_one _) (by unfold maxLen; omega) (by omega) (Nat.le_refl _) ?_; intro v' w' hown hgrow hnil)
    go_ret
    exact copyP_mk rfl (by simpa using hown) hgrow
theorem copyrel_any (O : Option Addr) (ca : Nat) (zs : List Rel) (w : World) (hA : RelsAt w O zs) (h0 : O = none → ca = 0) (hz : zs.length ≤ 1048576) :
    Calls Tryz.prog 76 #[.slice O zs.length ca] w fun e w' => CopyP 119 2 zs.length (rNews zs) w e w' := by
  obtain ⟨i0, hi, hz0, hz1, hz2⟩ := info44
  cases O with
  | none =>
    obtain rfl := h0 rfl
    have hl : zs.length = 0 := by
      cases zs with
      | nil => rfl
      | cons x t => obtain ⟨a, e, _⟩ := hA 0 (by simp); cases e
    have hn : rNews zs = [] := by unfold rNews; rw [hl]; rfl
    rw [hl, hn]
    have hr := run_append_owned_none (P := Tryz.prog) (w := w) w.heap.size 25 25 119 i0 2 Tryz.underlying25 hi (.slice none 0 0) 0 [] (World.ownsRow_nil w _ _ _)
    go_enter Tryz.func76, Tryz.ntmps76
    go_wp2
    go_ret
    exact copyP_mk rfl (World.ownsRow_nil w _ _ _) (World.grownBy.refl w _)
  | some a =>
    go_enter Tryz.func76, Tryz.ntmps76
    go_wp2_with (at_builtin; refine wpList_append_own _ rfl (.tmp 4) (.tmp 5) 25 rfl w.heap.size 119 i0 (.agg #[.int .i64 0, .int .i64 0]) 2 16 Tryz.underlying25 hi hz0 hz1 hz2 rfl (by decide) (.slice none 0 0) 0 [] rfl (World.ownsRow_nil w _ _ _) a zs.length ca (rNews zs) rfl (by simp [rNews]) (rNews_cell hA) (rNews_one _) (by unfold maxLen; omega) (by omega) (Nat.le_refl _) ?_; intro v' w' hown hgrow hnil)
    go_ret
    exact copyP_mk rfl (by simpa using hown) hgrow
theorem gcell {w w' : World} (hg : w.grownBy w' none) {p : Addr} {v : Value} (hc : w.cell? p = some v) : w'.cell? p = some v := hg.cell hc (by simp)
theorem gfroz {w w' : World} (hg : w.grownBy w' none) {p : Addr} {v : Value} (hc : w.cell? p = some v) (hf : w.frozen? p = false) : w'.frozen? p = false := by
  rw [World.frozen?_of_block (hg.block p.block (World.block_lt_of_cell? w p hc) (by simp))]; exact hf
theorem scell_ne {w : World} {b i j : Nat} {v u : Value} (hij : ¬ i = j) (h : w.cell? ⟨b, j, none⟩ = some u) : (w.setCell ⟨b, i, none⟩ v).cell? ⟨b, j, none⟩ = some u := by
  rw [← h]; simp [go_sem]
theorem scell_eq {w : World} {b i : Nat} {v u : Value} (h : w.cell? ⟨b, i, none⟩ = some u) : (w.setCell ⟨b, i, none⟩ v).cell? ⟨b, i, none⟩ = some v := by
  simp [go_sem, h]
theorem scell_far {w : World} {b c i j : Nat} {v u : Value} (hbc : ¬ b = c) (h : w.cell? ⟨c, j, none⟩ = some u) : (w.setCell ⟨b, i, none⟩ v).cell? ⟨c, j, none⟩ = some u := by
  rw [← h]; simp [go_sem]
theorem sfroz {w : World} {b i : Nat} {v : Value} {q : Addr} (h : w.frozen? q = false) : (w.setCell ⟨b, i, none⟩ v).frozen? q = false := by
  rw [← h]; simp [go_sem]
theorem keepN {w w' : World} {base e sz : Nat} {v : Value} {n : Nat} {xs : List Value} (h : w.ownsRow base e sz v n xs) (hg : w.grownBy w' none) : w'.ownsRow base e sz v n xs := h.kept hg (by
  by_cases c : v.ownBlock = none
  · exact Or.inl c
  · exact Or.inr c)
theorem keepS {w w' : World} {base e sz b : Nat} {v : Value} {n : Nat} {xs : List Value} (h : w.ownsRow base e sz v n xs) (hg : w.grownBy w' (some b)) (hb : b < base) : w'.ownsRow base e sz v n xs := h.kept hg (Or.inr fun c => by
  have := (h.lt b c).1; omega)
theorem ownMono {w : World} {base base' e sz : Nat} {v : Value} {n : Nat} {xs : List Value} (h : w.ownsRow base e sz v n xs) (hb : base' ≤ base) : w.ownsRow base' e sz v n xs := ⟨h.1, h.2.imp id fun ⟨g, cap, cur, a, b, c⟩ => ⟨g, cap, cur, a, Nat.le_trans hb b, c⟩⟩
theorem gset (w : World) (b i : Nat) (v : Value) : w.grownBy (w.setCell ⟨b, i, none⟩ v) (some b) := Lib.grownBy_setB (World.grownBy.refl w _) i v
theorem below_grow {w w1 w2 : World} (h : Below w.heap.size w w1) (hg : w1.grownBy w2 none) : Below w.heap.size w w2 := h.grown hg h.size (fun k e => by cases e)
/-- How a copy of an object ends. -/
def CopyO (nm : ByteArray) (dA : Int) (code data : List Int) (ss : List Sym) (rs : List Rel) (w : World) (e : Ending) (w' : World) : Prop := ∃ (O1 O2 O3 O4 : Option Addr) (k1 k2 k3 k4 : Nat),
  e = .returned (.agg #[.string nm, .slice O1 code.length k1, .int .i64 dA, .slice O2 data.length k2, .slice O3 ss.length k3, .slice O4 rs.length k4]) ∧ Below w.heap.size w w' ∧
  w'.ownsRow w.heap.size 78 1 (.slice O1 code.length k1) code.length (iNews .u32 code) ∧ w'.ownsRow w.heap.size 2 1 (.slice O2 data.length k2) data.length (iNews .i64 data) ∧ w'.ownsRow w.heap.size 68 3 (.slice O3 ss.length k3) ss.length (sNews ss) ∧ w'.ownsRow w.heap.size 119 2 (.slice O4 rs.length k4) rs.length (rNews rs)
set_option maxRecDepth 100000 in
set_option maxHeartbeats 4000000 in
theorem copyobj_any (nm : ByteArray) (dA : Int) (A1 A2 A3 A4 : Option Addr) (c1 c2 c3 c4 : Nat) (code data : List Int) (ss : List Sym) (rs : List Rel) (w : World) (hC : IntsAt w A1 .u32 code) (hD : IntsAt w A2 .i64 data) (hS : SymsAt w A3 ss) (hL : RelsAt w A4 rs) (h01 : A1 = none → c1 = 0) (h02 : A2 = none → c2 = 0) (h03 : A3 = none → c3 = 0) (h04 : A4 = none → c4 = 0) (hc : code.length ≤ 1048576) (hd : data.length ≤ 1048576) (hs : ss.length ≤ 1048576) (hl : rs.length ≤ 1048576) :
    Calls Tryz.prog 23 #[.agg #[.string nm, .slice A1 code.length c1, .int .i64 dA, .slice A2 data.length c2, .slice A3 ss.length c3, .slice A4 rs.length c4]] w fun e w' => CopyO nm dA code data ss rs w e w' := by
  go_enter Tryz.func23, Tryz.ntmps23
  go_wp2_with fail
  refine (copywords_any A1 c1 code _ (hC.keep (lb_alloc (lb_alloc (Below.refl _ _) _) _)) h01 hc).mono ?_
  rintro e w1 ⟨O1, k1, rfl, hown1, hg1, hn1⟩
  have b10 : w1.cell? ⟨w.heap.size, 0, none⟩ = some (.string nm) := gcell hg1 (by simp [go_sem])
  have fb10 : w1.frozen? ⟨w.heap.size, 0, none⟩ = false := gfroz hg1 (v := .string nm) (by simp [go_sem]) (by simp [go_sem])
  have r10 : w1.cell? ⟨w.heap.size + 1, 0, none⟩ = some (.string ⟨#[]⟩) := gcell hg1 (by simp [go_sem])
  have fr10 : w1.frozen? ⟨w.heap.size + 1, 0, none⟩ = false := gfroz hg1 (v := .string ⟨#[]⟩) (by simp [go_sem]) (by simp [go_sem])
  have b11 : w1.cell? ⟨w.heap.size, 1, none⟩ = some (.slice A1 code.length c1) := gcell hg1 (by simp [go_sem])
  have fb11 : w1.frozen? ⟨w.heap.size, 1, none⟩ = false := gfroz hg1 (v := .slice A1 code.length c1) (by simp [go_sem]) (by simp [go_sem])
  have r11 : w1.cell? ⟨w.heap.size + 1, 1, none⟩ = some (.slice none 0 0) := gcell hg1 (by simp [go_sem])
  have fr11 : w1.frozen? ⟨w.heap.size + 1, 1, none⟩ = false := gfroz hg1 (v := .slice none 0 0) (by simp [go_sem]) (by simp [go_sem])
  have b12 : w1.cell? ⟨w.heap.size, 2, none⟩ = some (.int .i64 dA) := gcell hg1 (by simp [go_sem])
  have fb12 : w1.frozen? ⟨w.heap.size, 2, none⟩ = false := gfroz hg1 (v := .int .i64 dA) (by simp [go_sem]) (by simp [go_sem])
  have r12 : w1.cell? ⟨w.heap.size + 1, 2, none⟩ = some (.int .i64 0) := gcell hg1 (by simp [go_sem])
  have fr12 : w1.frozen? ⟨w.heap.size + 1, 2, none⟩ = false := gfroz hg1 (v := .int .i64 0) (by simp [go_sem]) (by simp [go_sem])
  have b13 : w1.cell? ⟨w.heap.size, 3, none⟩ = some (.slice A2 data.length c2) := gcell hg1 (by simp [go_sem])
  have fb13 : w1.frozen? ⟨w.heap.size, 3, none⟩ = false := gfroz hg1 (v := .slice A2 data.length c2) (by simp [go_sem]) (by simp [go_sem])
  have r13 : w1.cell? ⟨w.heap.size + 1, 3, none⟩ = some (.slice none 0 0) := gcell hg1 (by simp [go_sem])
  have fr13 : w1.frozen? ⟨w.heap.size + 1, 3, none⟩ = false := gfroz hg1 (v := .slice none 0 0) (by simp [go_sem]) (by simp [go_sem])
  have b14 : w1.cell? ⟨w.heap.size, 4, none⟩ = some (.slice A3 ss.length c3) := gcell hg1 (by simp [go_sem])
  have fb14 : w1.frozen? ⟨w.heap.size, 4, none⟩ = false := gfroz hg1 (v := .slice A3 ss.length c3) (by simp [go_sem]) (by simp [go_sem])
  have r14 : w1.cell? ⟨w.heap.size + 1, 4, none⟩ = some (.slice none 0 0) := gcell hg1 (by simp [go_sem])
  have fr14 : w1.frozen? ⟨w.heap.size + 1, 4, none⟩ = false := gfroz hg1 (v := .slice none 0 0) (by simp [go_sem]) (by simp [go_sem])
  have b15 : w1.cell? ⟨w.heap.size, 5, none⟩ = some (.slice A4 rs.length c4) := gcell hg1 (by simp [go_sem])
  have fb15 : w1.frozen? ⟨w.heap.size, 5, none⟩ = false := gfroz hg1 (v := .slice A4 rs.length c4) (by simp [go_sem]) (by simp [go_sem])
  have r15 : w1.cell? ⟨w.heap.size + 1, 5, none⟩ = some (.slice none 0 0) := gcell hg1 (by simp [go_sem])
  have fr15 : w1.frozen? ⟨w.heap.size + 1, 5, none⟩ = false := gfroz hg1 (v := .slice none 0 0) (by simp [go_sem]) (by simp [go_sem])
  have x10 : (w1.setCell ⟨w.heap.size, 1, none⟩ (.slice O1 code.length k1)).cell? ⟨w.heap.size, 0, none⟩ = some (.string nm) := scell_ne (by omega) b10
  have fx10 : (w1.setCell ⟨w.heap.size, 1, none⟩ (.slice O1 code.length k1)).frozen? ⟨w.heap.size, 0, none⟩ = false := sfroz fb10
  have y10 : (w1.setCell ⟨w.heap.size, 1, none⟩ (.slice O1 code.length k1)).cell? ⟨w.heap.size + 1, 0, none⟩ = some (.string ⟨#[]⟩) := scell_far (by omega) r10
  have fy10 : (w1.setCell ⟨w.heap.size, 1, none⟩ (.slice O1 code.length k1)).frozen? ⟨w.heap.size + 1, 0, none⟩ = false := sfroz fr10
  have x11 : (w1.setCell ⟨w.heap.size, 1, none⟩ (.slice O1 code.length k1)).cell? ⟨w.heap.size, 1, none⟩ = some (.slice O1 code.length k1) := scell_eq b11
  have fx11 : (w1.setCell ⟨w.heap.size, 1, none⟩ (.slice O1 code.length k1)).frozen? ⟨w.heap.size, 1, none⟩ = false := sfroz fb11
  have y11 : (w1.setCell ⟨w.heap.size, 1, none⟩ (.slice O1 code.length k1)).cell? ⟨w.heap.size + 1, 1, none⟩ = some (.slice none 0 0) := scell_far (by omega) r11
  have fy11 : (w1.setCell ⟨w.heap.size, 1, none⟩ (.slice O1 code.length k1)).frozen? ⟨w.heap.size + 1, 1, none⟩ = false := sfroz fr11
  have x12 : (w1.setCell ⟨w.heap.size, 1, none⟩ (.slice O1 code.length k1)).cell? ⟨w.heap.size, 2, none⟩ = some (.int .i64 dA) := scell_ne (by omega) b12
  have fx12 : (w1.setCell ⟨w.heap.size, 1, none⟩ (.slice O1 code.length k1)).frozen? ⟨w.heap.size, 2, none⟩ = false := sfroz fb12
  have y12 : (w1.setCell ⟨w.heap.size, 1, none⟩ (.slice O1 code.length k1)).cell? ⟨w.heap.size + 1, 2, none⟩ = some (.int .i64 0) := scell_far (by omega) r12
  have fy12 : (w1.setCell ⟨w.heap.size, 1, none⟩ (.slice O1 code.length k1)).frozen? ⟨w.heap.size + 1, 2, none⟩ = false := sfroz fr12
  have x13 : (w1.setCell ⟨w.heap.size, 1, none⟩ (.slice O1 code.length k1)).cell? ⟨w.heap.size, 3, none⟩ = some (.slice A2 data.length c2) := scell_ne (by omega) b13
  have fx13 : (w1.setCell ⟨w.heap.size, 1, none⟩ (.slice O1 code.length k1)).frozen? ⟨w.heap.size, 3, none⟩ = false := sfroz fb13
  have y13 : (w1.setCell ⟨w.heap.size, 1, none⟩ (.slice O1 code.length k1)).cell? ⟨w.heap.size + 1, 3, none⟩ = some (.slice none 0 0) := scell_far (by omega) r13
  have fy13 : (w1.setCell ⟨w.heap.size, 1, none⟩ (.slice O1 code.length k1)).frozen? ⟨w.heap.size + 1, 3, none⟩ = false := sfroz fr13
  have x14 : (w1.setCell ⟨w.heap.size, 1, none⟩ (.slice O1 code.length k1)).cell? ⟨w.heap.size, 4, none⟩ = some (.slice A3 ss.length c3) := scell_ne (by omega) b14
  have fx14 : (w1.setCell ⟨w.heap.size, 1, none⟩ (.slice O1 code.length k1)).frozen? ⟨w.heap.size, 4, none⟩ = false := sfroz fb14
  have y14 : (w1.setCell ⟨w.heap.size, 1, none⟩ (.slice O1 code.length k1)).cell? ⟨w.heap.size + 1, 4, none⟩ = some (.slice none 0 0) := scell_far (by omega) r14
  have fy14 : (w1.setCell ⟨w.heap.size, 1, none⟩ (.slice O1 code.length k1)).frozen? ⟨w.heap.size + 1, 4, none⟩ = false := sfroz fr14
  have x15 : (w1.setCell ⟨w.heap.size, 1, none⟩ (.slice O1 code.length k1)).cell? ⟨w.heap.size, 5, none⟩ = some (.slice A4 rs.length c4) := scell_ne (by omega) b15
  have fx15 : (w1.setCell ⟨w.heap.size, 1, none⟩ (.slice O1 code.length k1)).frozen? ⟨w.heap.size, 5, none⟩ = false := sfroz fb15
  have y15 : (w1.setCell ⟨w.heap.size, 1, none⟩ (.slice O1 code.length k1)).cell? ⟨w.heap.size + 1, 5, none⟩ = some (.slice none 0 0) := scell_far (by omega) r15
  have fy15 : (w1.setCell ⟨w.heap.size, 1, none⟩ (.slice O1 code.length k1)).frozen? ⟨w.heap.size + 1, 5, none⟩ = false := sfroz fr15
  have HB1 : Hid (Below w.heap.size w w1) := below_grow (lb_alloc (lb_alloc (Below.refl _ _) _) _) hg1
  have HX1 : Hid (Below w.heap.size w (w1.setCell ⟨w.heap.size, 1, none⟩ (.slice O1 code.length k1))) := HB1.out.setCell (Nat.le_refl _) _
  have hb1 : w.heap.size + 2 ≤ w1.heap.size := by have := hg1.size; simp at this; omega
  have HO11 : Hid (w1.ownsRow (w.heap.size + 2) 78 1 (.slice O1 code.length k1) code.length (iNews .u32 code)) := ownMono hown1 (by simp)
  have HP11 : Hid ((w1.setCell ⟨w.heap.size, 1, none⟩ (.slice O1 code.length k1)).ownsRow (w.heap.size + 2) 78 1 (.slice O1 code.length k1) code.length (iNews .u32 code)) := keepS HO11.out (gset _ _ _ _) (by omega)
  clear hown1 hg1 hn1
  go_wp2_with fail
  refine (copylongs_any A2 c2 data _ (hD.keep HX1.out) h02 hd).mono ?_
  rintro e w2 ⟨O2, k2, rfl, hown2, hg2, hn2⟩
  have b20 := gcell hg2 x10
  have fb20 := gfroz hg2 x10 fx10
  have r20 := gcell hg2 y10
  have fr20 := gfroz hg2 y10 fy10
  have b21 := gcell hg2 x11
  have fb21 := gfroz hg2 x11 fx11
  have r21 := gcell hg2 y11
  have fr21 := gfroz hg2 y11 fy11
  have b22 := gcell hg2 x12
  have fb22 := gfroz hg2 x12 fx12
  have r22 := gcell hg2 y12
  have fr22 := gfroz hg2 y12 fy12
  have b23 := gcell hg2 x13
  have fb23 := gfroz hg2 x13 fx13
  have r23 := gcell hg2 y13
  have fr23 := gfroz hg2 y13 fy13
  have b24 := gcell hg2 x14
  have fb24 := gfroz hg2 x14 fx14
  have r24 := gcell hg2 y14
  have fr24 := gfroz hg2 y14 fy14
  have b25 := gcell hg2 x15
  have fb25 := gfroz hg2 x15 fx15
  have r25 := gcell hg2 y15
  have fr25 := gfroz hg2 y15 fy15
  have x20 : (w2.setCell ⟨w.heap.size, 3, none⟩ (.slice O2 data.length k2)).cell? ⟨w.heap.size, 0, none⟩ = some (.string nm) := scell_ne (by omega) b20
  have fx20 : (w2.setCell ⟨w.heap.size, 3, none⟩ (.slice O2 data.length k2)).frozen? ⟨w.heap.size, 0, none⟩ = false := sfroz fb20
  have y20 : (w2.setCell ⟨w.heap.size, 3, none⟩ (.slice O2 data.length k2)).cell? ⟨w.heap.size + 1, 0, none⟩ = some (.string ⟨#[]⟩) := scell_far (by omega) r20
  have fy20 : (w2.setCell ⟨w.heap.size, 3, none⟩ (.slice O2 data.length k2)).frozen? ⟨w.heap.size + 1, 0, none⟩ = false := sfroz fr20
  have x21 : (w2.setCell ⟨w.heap.size, 3, none⟩ (.slice O2 data.length k2)).cell? ⟨w.heap.size, 1, none⟩ = some (.slice O1 code.length k1) := scell_ne (by omega) b21
  have fx21 : (w2.setCell ⟨w.heap.size, 3, none⟩ (.slice O2 data.length k2)).frozen? ⟨w.heap.size, 1, none⟩ = false := sfroz fb21
  have y21 : (w2.setCell ⟨w.heap.size, 3, none⟩ (.slice O2 data.length k2)).cell? ⟨w.heap.size + 1, 1, none⟩ = some (.slice none 0 0) := scell_far (by omega) r21
  have fy21 : (w2.setCell ⟨w.heap.size, 3, none⟩ (.slice O2 data.length k2)).frozen? ⟨w.heap.size + 1, 1, none⟩ = false := sfroz fr21
  have x22 : (w2.setCell ⟨w.heap.size, 3, none⟩ (.slice O2 data.length k2)).cell? ⟨w.heap.size, 2, none⟩ = some (.int .i64 dA) := scell_ne (by omega) b22
  have fx22 : (w2.setCell ⟨w.heap.size, 3, none⟩ (.slice O2 data.length k2)).frozen? ⟨w.heap.size, 2, none⟩ = false := sfroz fb22
  have y22 : (w2.setCell ⟨w.heap.size, 3, none⟩ (.slice O2 data.length k2)).cell? ⟨w.heap.size + 1, 2, none⟩ = some (.int .i64 0) := scell_far (by omega) r22
  have fy22 : (w2.setCell ⟨w.heap.size, 3, none⟩ (.slice O2 data.length k2)).frozen? ⟨w.heap.size + 1, 2, none⟩ = false := sfroz fr22
  have x23 : (w2.setCell ⟨w.heap.size, 3, none⟩ (.slice O2 data.length k2)).cell? ⟨w.heap.size, 3, none⟩ = some (.slice O2 data.length k2) := scell_eq b23
  have fx23 : (w2.setCell ⟨w.heap.size, 3, none⟩ (.slice O2 data.length k2)).frozen? ⟨w.heap.size, 3, none⟩ = false := sfroz fb23
  have y23 : (w2.setCell ⟨w.heap.size, 3, none⟩ (.slice O2 data.length k2)).cell? ⟨w.heap.size + 1, 3, none⟩ = some (.slice none 0 0) := scell_far (by omega) r23
  have fy23 : (w2.setCell ⟨w.heap.size, 3, none⟩ (.slice O2 data.length k2)).frozen? ⟨w.heap.size + 1, 3, none⟩ = false := sfroz fr23
  have x24 : (w2.setCell ⟨w.heap.size, 3, none⟩ (.slice O2 data.length k2)).cell? ⟨w.heap.size, 4, none⟩ = some (.slice A3 ss.length c3) := scell_ne (by omega) b24
  have fx24 : (w2.setCell ⟨w.heap.size, 3, none⟩ (.slice O2 data.length k2)).frozen? ⟨w.heap.size, 4, none⟩ = false := sfroz fb24
  have y24 : (w2.setCell ⟨w.heap.size, 3, none⟩ (.slice O2 data.length k2)).cell? ⟨w.heap.size + 1, 4, none⟩ = some (.slice none 0 0) := scell_far (by omega) r24
  have fy24 : (w2.setCell ⟨w.heap.size, 3, none⟩ (.slice O2 data.length k2)).frozen? ⟨w.heap.size + 1, 4, none⟩ = false := sfroz fr24
  have x25 : (w2.setCell ⟨w.heap.size, 3, none⟩ (.slice O2 data.length k2)).cell? ⟨w.heap.size, 5, none⟩ = some (.slice A4 rs.length c4) := scell_ne (by omega) b25
  have fx25 : (w2.setCell ⟨w.heap.size, 3, none⟩ (.slice O2 data.length k2)).frozen? ⟨w.heap.size, 5, none⟩ = false := sfroz fb25
  have y25 : (w2.setCell ⟨w.heap.size, 3, none⟩ (.slice O2 data.length k2)).cell? ⟨w.heap.size + 1, 5, none⟩ = some (.slice none 0 0) := scell_far (by omega) r25
  have fy25 : (w2.setCell ⟨w.heap.size, 3, none⟩ (.slice O2 data.length k2)).frozen? ⟨w.heap.size + 1, 5, none⟩ = false := sfroz fr25
  have HB2 : Hid (Below w.heap.size w w2) := below_grow HX1.out hg2
  have HX2 : Hid (Below w.heap.size w (w2.setCell ⟨w.heap.size, 3, none⟩ (.slice O2 data.length k2))) := HB2.out.setCell (Nat.le_refl _) _
  have hb2 : w.heap.size + 2 ≤ w2.heap.size := by have := hg2.size; simp at this; omega
  have HO22 : Hid (w2.ownsRow (w.heap.size + 2) 2 1 (.slice O2 data.length k2) data.length (iNews .i64 data)) := ownMono hown2 (by simp; omega)
  have HO21 : Hid (w2.ownsRow (w.heap.size + 2) 78 1 (.slice O1 code.length k1) code.length (iNews .u32 code)) := keepN HP11.out hg2
  have HP21 : Hid ((w2.setCell ⟨w.heap.size, 3, none⟩ (.slice O2 data.length k2)).ownsRow (w.heap.size + 2) 78 1 (.slice O1 code.length k1) code.length (iNews .u32 code)) := keepS HO21.out (gset _ _ _ _) (by omega)
  have HP22 : Hid ((w2.setCell ⟨w.heap.size, 3, none⟩ (.slice O2 data.length k2)).ownsRow (w.heap.size + 2) 2 1 (.slice O2 data.length k2) data.length (iNews .i64 data)) := keepS HO22.out (gset _ _ _ _) (by omega)
  clear hown2 hg2 hn2 x10 fx10 y10 fy10 b10 fb10 r10 fr10 x11 fx11 y11 fy11 b11 fb11 r11 fr11 x12 fx12 y12 fy12 b12 fb12 r12 fr12 x13 fx13 y13 fy13 b13 fb13 r13 fr13 x14 fx14 y14 fy14 b14 fb14 r14 fr14 x15 fx15 y15 fy15 b15 fb15 r15 fr15
  go_wp2_with fail
  refine (copysym_any A3 c3 ss _ (hS.keep HX2.out) h03 hs).mono ?_
  rintro e w3 ⟨O3, k3, rfl, hown3, hg3, hn3⟩
  have b30 := gcell hg3 x20
  have fb30 := gfroz hg3 x20 fx20
  have r30 := gcell hg3 y20
  have fr30 := gfroz hg3 y20 fy20
  have b31 := gcell hg3 x21
  have fb31 := gfroz hg3 x21 fx21
  have r31 := gcell hg3 y21
  have fr31 := gfroz hg3 y21 fy21
  have b32 := gcell hg3 x22
  have fb32 := gfroz hg3 x22 fx22
  have r32 := gcell hg3 y22
  have fr32 := gfroz hg3 y22 fy22
  have b33 := gcell hg3 x23
  have fb33 := gfroz hg3 x23 fx23
  have r33 := gcell hg3 y23
  have fr33 := gfroz hg3 y23 fy23
  have b34 := gcell hg3 x24
  have fb34 := gfroz hg3 x24 fx24
  have r34 := gcell hg3 y24
  have fr34 := gfroz hg3 y24 fy24
  have b35 := gcell hg3 x25
  have fb35 := gfroz hg3 x25 fx25
  have r35 := gcell hg3 y25
  have fr35 := gfroz hg3 y25 fy25
  have x30 : (w3.setCell ⟨w.heap.size, 4, none⟩ (.slice O3 ss.length k3)).cell? ⟨w.heap.size, 0, none⟩ = some (.string nm) := scell_ne (by omega) b30
  have fx30 : (w3.setCell ⟨w.heap.size, 4, none⟩ (.slice O3 ss.length k3)).frozen? ⟨w.heap.size, 0, none⟩ = false := sfroz fb30
  have y30 : (w3.setCell ⟨w.heap.size, 4, none⟩ (.slice O3 ss.length k3)).cell? ⟨w.heap.size + 1, 0, none⟩ = some (.string ⟨#[]⟩) := scell_far (by omega) r30
  have fy30 : (w3.setCell ⟨w.heap.size, 4, none⟩ (.slice O3 ss.length k3)).frozen? ⟨w.heap.size + 1, 0, none⟩ = false := sfroz fr30
  have x31 : (w3.setCell ⟨w.heap.size, 4, none⟩ (.slice O3 ss.length k3)).cell? ⟨w.heap.size, 1, none⟩ = some (.slice O1 code.length k1) := scell_ne (by omega) b31
  have fx31 : (w3.setCell ⟨w.heap.size, 4, none⟩ (.slice O3 ss.length k3)).frozen? ⟨w.heap.size, 1, none⟩ = false := sfroz fb31
  have y31 : (w3.setCell ⟨w.heap.size, 4, none⟩ (.slice O3 ss.length k3)).cell? ⟨w.heap.size + 1, 1, none⟩ = some (.slice none 0 0) := scell_far (by omega) r31
  have fy31 : (w3.setCell ⟨w.heap.size, 4, none⟩ (.slice O3 ss.length k3)).frozen? ⟨w.heap.size + 1, 1, none⟩ = false := sfroz fr31
  have x32 : (w3.setCell ⟨w.heap.size, 4, none⟩ (.slice O3 ss.length k3)).cell? ⟨w.heap.size, 2, none⟩ = some (.int .i64 dA) := scell_ne (by omega) b32
  have fx32 : (w3.setCell ⟨w.heap.size, 4, none⟩ (.slice O3 ss.length k3)).frozen? ⟨w.heap.size, 2, none⟩ = false := sfroz fb32
  have y32 : (w3.setCell ⟨w.heap.size, 4, none⟩ (.slice O3 ss.length k3)).cell? ⟨w.heap.size + 1, 2, none⟩ = some (.int .i64 0) := scell_far (by omega) r32
  have fy32 : (w3.setCell ⟨w.heap.size, 4, none⟩ (.slice O3 ss.length k3)).frozen? ⟨w.heap.size + 1, 2, none⟩ = false := sfroz fr32
  have x33 : (w3.setCell ⟨w.heap.size, 4, none⟩ (.slice O3 ss.length k3)).cell? ⟨w.heap.size, 3, none⟩ = some (.slice O2 data.length k2) := scell_ne (by omega) b33
  have fx33 : (w3.setCell ⟨w.heap.size, 4, none⟩ (.slice O3 ss.length k3)).frozen? ⟨w.heap.size, 3, none⟩ = false := sfroz fb33
  have y33 : (w3.setCell ⟨w.heap.size, 4, none⟩ (.slice O3 ss.length k3)).cell? ⟨w.heap.size + 1, 3, none⟩ = some (.slice none 0 0) := scell_far (by omega) r33
  have fy33 : (w3.setCell ⟨w.heap.size, 4, none⟩ (.slice O3 ss.length k3)).frozen? ⟨w.heap.size + 1, 3, none⟩ = false := sfroz fr33
  have x34 : (w3.setCell ⟨w.heap.size, 4, none⟩ (.slice O3 ss.length k3)).cell? ⟨w.heap.size, 4, none⟩ = some (.slice O3 ss.length k3) := scell_eq b34
  have fx34 : (w3.setCell ⟨w.heap.size, 4, none⟩ (.slice O3 ss.length k3)).frozen? ⟨w.heap.size, 4, none⟩ = false := sfroz fb34
  have y34 : (w3.setCell ⟨w.heap.size, 4, none⟩ (.slice O3 ss.length k3)).cell? ⟨w.heap.size + 1, 4, none⟩ = some (.slice none 0 0) := scell_far (by omega) r34
  have fy34 : (w3.setCell ⟨w.heap.size, 4, none⟩ (.slice O3 ss.length k3)).frozen? ⟨w.heap.size + 1, 4, none⟩ = false := sfroz fr34
  have x35 : (w3.setCell ⟨w.heap.size, 4, none⟩ (.slice O3 ss.length k3)).cell? ⟨w.heap.size, 5, none⟩ = some (.slice A4 rs.length c4) := scell_ne (by omega) b35
  have fx35 : (w3.setCell ⟨w.heap.size, 4, none⟩ (.slice O3 ss.length k3)).frozen? ⟨w.heap.size, 5, none⟩ = false := sfroz fb35
  have y35 : (w3.setCell ⟨w.heap.size, 4, none⟩ (.slice O3 ss.length k3)).cell? ⟨w.heap.size + 1, 5, none⟩ = some (.slice none 0 0) := scell_far (by omega) r35
  have fy35 : (w3.setCell ⟨w.heap.size, 4, none⟩ (.slice O3 ss.length k3)).frozen? ⟨w.heap.size + 1, 5, none⟩ = false := sfroz fr35
  have HB3 : Hid (Below w.heap.size w w3) := below_grow HX2.out hg3
  have HX3 : Hid (Below w.heap.size w (w3.setCell ⟨w.heap.size, 4, none⟩ (.slice O3 ss.length k3))) := HB3.out.setCell (Nat.le_refl _) _
  have hb3 : w.heap.size + 2 ≤ w3.heap.size := by have := hg3.size; simp at this; omega
  have HO33 : Hid (w3.ownsRow (w.heap.size + 2) 68 3 (.slice O3 ss.length k3) ss.length (sNews ss)) := ownMono hown3 (by simp; omega)
  have HO31 : Hid (w3.ownsRow (w.heap.size + 2) 78 1 (.slice O1 code.length k1) code.length (iNews .u32 code)) := keepN HP21.out hg3
  have HO32 : Hid (w3.ownsRow (w.heap.size + 2) 2 1 (.slice O2 data.length k2) data.length (iNews .i64 data)) := keepN HP22.out hg3
  have HP31 : Hid ((w3.setCell ⟨w.heap.size, 4, none⟩ (.slice O3 ss.length k3)).ownsRow (w.heap.size + 2) 78 1 (.slice O1 code.length k1) code.length (iNews .u32 code)) := keepS HO31.out (gset _ _ _ _) (by omega)
  have HP32 : Hid ((w3.setCell ⟨w.heap.size, 4, none⟩ (.slice O3 ss.length k3)).ownsRow (w.heap.size + 2) 2 1 (.slice O2 data.length k2) data.length (iNews .i64 data)) := keepS HO32.out (gset _ _ _ _) (by omega)
  have HP33 : Hid ((w3.setCell ⟨w.heap.size, 4, none⟩ (.slice O3 ss.length k3)).ownsRow (w.heap.size + 2) 68 3 (.slice O3 ss.length k3) ss.length (sNews ss)) := keepS HO33.out (gset _ _ _ _) (by omega)
  clear hown3 hg3 hn3 x20 fx20 y20 fy20 b20 fb20 r20 fr20 x21 fx21 y21 fy21 b21 fb21 r21 fr21 x22 fx22 y22 fy22 b22 fb22 r22 fr22 x23 fx23 y23 fy23 b23 fb23 r23 fr23 x24 fx24 y24 fy24 b24 fb24 r24 fr24 x25 fx25 y25 fy25 b25 fb25 r25 fr25
  go_wp2_with fail
  refine (copyrel_any A4 c4 rs _ (hL.keep HX3.out) h04 hl).mono ?_
  rintro e w4 ⟨O4, k4, rfl, hown4, hg4, hn4⟩
  have b40 := gcell hg4 x30
  have fb40 := gfroz hg4 x30 fx30
  have r40 := gcell hg4 y30
  have fr40 := gfroz hg4 y30 fy30
  have b41 := gcell hg4 x31
  have fb41 := gfroz hg4 x31 fx31
  have r41 := gcell hg4 y31
  have fr41 := gfroz hg4 y31 fy31
  have b42 := gcell hg4 x32
  have fb42 := gfroz hg4 x32 fx32
  have r42 := gcell hg4 y32
  have fr42 := gfroz hg4 y32 fy32
  have b43 := gcell hg4 x33
  have fb43 := gfroz hg4 x33 fx33
  have r43 := gcell hg4 y33
  have fr43 := gfroz hg4 y33 fy33
  have b44 := gcell hg4 x34
  have fb44 := gfroz hg4 x34 fx34
  have r44 := gcell hg4 y34
  have fr44 := gfroz hg4 y34 fy34
  have b45 := gcell hg4 x35
  have fb45 := gfroz hg4 x35 fx35
  have r45 := gcell hg4 y35
  have fr45 := gfroz hg4 y35 fy35
  have x40 : (w4.setCell ⟨w.heap.size, 5, none⟩ (.slice O4 rs.length k4)).cell? ⟨w.heap.size, 0, none⟩ = some (.string nm) := scell_ne (by omega) b40
  have fx40 : (w4.setCell ⟨w.heap.size, 5, none⟩ (.slice O4 rs.length k4)).frozen? ⟨w.heap.size, 0, none⟩ = false := sfroz fb40
  have y40 : (w4.setCell ⟨w.heap.size, 5, none⟩ (.slice O4 rs.length k4)).cell? ⟨w.heap.size + 1, 0, none⟩ = some (.string ⟨#[]⟩) := scell_far (by omega) r40
  have fy40 : (w4.setCell ⟨w.heap.size, 5, none⟩ (.slice O4 rs.length k4)).frozen? ⟨w.heap.size + 1, 0, none⟩ = false := sfroz fr40
  have x41 : (w4.setCell ⟨w.heap.size, 5, none⟩ (.slice O4 rs.length k4)).cell? ⟨w.heap.size, 1, none⟩ = some (.slice O1 code.length k1) := scell_ne (by omega) b41
  have fx41 : (w4.setCell ⟨w.heap.size, 5, none⟩ (.slice O4 rs.length k4)).frozen? ⟨w.heap.size, 1, none⟩ = false := sfroz fb41
  have y41 : (w4.setCell ⟨w.heap.size, 5, none⟩ (.slice O4 rs.length k4)).cell? ⟨w.heap.size + 1, 1, none⟩ = some (.slice none 0 0) := scell_far (by omega) r41
  have fy41 : (w4.setCell ⟨w.heap.size, 5, none⟩ (.slice O4 rs.length k4)).frozen? ⟨w.heap.size + 1, 1, none⟩ = false := sfroz fr41
  have x42 : (w4.setCell ⟨w.heap.size, 5, none⟩ (.slice O4 rs.length k4)).cell? ⟨w.heap.size, 2, none⟩ = some (.int .i64 dA) := scell_ne (by omega) b42
  have fx42 : (w4.setCell ⟨w.heap.size, 5, none⟩ (.slice O4 rs.length k4)).frozen? ⟨w.heap.size, 2, none⟩ = false := sfroz fb42
  have y42 : (w4.setCell ⟨w.heap.size, 5, none⟩ (.slice O4 rs.length k4)).cell? ⟨w.heap.size + 1, 2, none⟩ = some (.int .i64 0) := scell_far (by omega) r42
  have fy42 : (w4.setCell ⟨w.heap.size, 5, none⟩ (.slice O4 rs.length k4)).frozen? ⟨w.heap.size + 1, 2, none⟩ = false := sfroz fr42
  have x43 : (w4.setCell ⟨w.heap.size, 5, none⟩ (.slice O4 rs.length k4)).cell? ⟨w.heap.size, 3, none⟩ = some (.slice O2 data.length k2) := scell_ne (by omega) b43
  have fx43 : (w4.setCell ⟨w.heap.size, 5, none⟩ (.slice O4 rs.length k4)).frozen? ⟨w.heap.size, 3, none⟩ = false := sfroz fb43
  have y43 : (w4.setCell ⟨w.heap.size, 5, none⟩ (.slice O4 rs.length k4)).cell? ⟨w.heap.size + 1, 3, none⟩ = some (.slice none 0 0) := scell_far (by omega) r43
  have fy43 : (w4.setCell ⟨w.heap.size, 5, none⟩ (.slice O4 rs.length k4)).frozen? ⟨w.heap.size + 1, 3, none⟩ = false := sfroz fr43
  have x44 : (w4.setCell ⟨w.heap.size, 5, none⟩ (.slice O4 rs.length k4)).cell? ⟨w.heap.size, 4, none⟩ = some (.slice O3 ss.length k3) := scell_ne (by omega) b44
  have fx44 : (w4.setCell ⟨w.heap.size, 5, none⟩ (.slice O4 rs.length k4)).frozen? ⟨w.heap.size, 4, none⟩ = false := sfroz fb44
  have y44 : (w4.setCell ⟨w.heap.size, 5, none⟩ (.slice O4 rs.length k4)).cell? ⟨w.heap.size + 1, 4, none⟩ = some (.slice none 0 0) := scell_far (by omega) r44
  have fy44 : (w4.setCell ⟨w.heap.size, 5, none⟩ (.slice O4 rs.length k4)).frozen? ⟨w.heap.size + 1, 4, none⟩ = false := sfroz fr44
  have x45 : (w4.setCell ⟨w.heap.size, 5, none⟩ (.slice O4 rs.length k4)).cell? ⟨w.heap.size, 5, none⟩ = some (.slice O4 rs.length k4) := scell_eq b45
  have fx45 : (w4.setCell ⟨w.heap.size, 5, none⟩ (.slice O4 rs.length k4)).frozen? ⟨w.heap.size, 5, none⟩ = false := sfroz fb45
  have y45 : (w4.setCell ⟨w.heap.size, 5, none⟩ (.slice O4 rs.length k4)).cell? ⟨w.heap.size + 1, 5, none⟩ = some (.slice none 0 0) := scell_far (by omega) r45
  have fy45 : (w4.setCell ⟨w.heap.size, 5, none⟩ (.slice O4 rs.length k4)).frozen? ⟨w.heap.size + 1, 5, none⟩ = false := sfroz fr45
  have HB4 : Hid (Below w.heap.size w w4) := below_grow HX3.out hg4
  have HX4 : Hid (Below w.heap.size w (w4.setCell ⟨w.heap.size, 5, none⟩ (.slice O4 rs.length k4))) := HB4.out.setCell (Nat.le_refl _) _
  have hb4 : w.heap.size + 2 ≤ w4.heap.size := by have := hg4.size; simp at this; omega
  have HO44 : Hid (w4.ownsRow (w.heap.size + 2) 119 2 (.slice O4 rs.length k4) rs.length (rNews rs)) := ownMono hown4 (by simp; omega)
  have HO41 : Hid (w4.ownsRow (w.heap.size + 2) 78 1 (.slice O1 code.length k1) code.length (iNews .u32 code)) := keepN HP31.out hg4
  have HO42 : Hid (w4.ownsRow (w.heap.size + 2) 2 1 (.slice O2 data.length k2) data.length (iNews .i64 data)) := keepN HP32.out hg4
  have HO43 : Hid (w4.ownsRow (w.heap.size + 2) 68 3 (.slice O3 ss.length k3) ss.length (sNews ss)) := keepN HP33.out hg4
  have HP41 : Hid ((w4.setCell ⟨w.heap.size, 5, none⟩ (.slice O4 rs.length k4)).ownsRow (w.heap.size + 2) 78 1 (.slice O1 code.length k1) code.length (iNews .u32 code)) := keepS HO41.out (gset _ _ _ _) (by omega)
  have HP42 : Hid ((w4.setCell ⟨w.heap.size, 5, none⟩ (.slice O4 rs.length k4)).ownsRow (w.heap.size + 2) 2 1 (.slice O2 data.length k2) data.length (iNews .i64 data)) := keepS HO42.out (gset _ _ _ _) (by omega)
  have HP43 : Hid ((w4.setCell ⟨w.heap.size, 5, none⟩ (.slice O4 rs.length k4)).ownsRow (w.heap.size + 2) 68 3 (.slice O3 ss.length k3) ss.length (sNews ss)) := keepS HO43.out (gset _ _ _ _) (by omega)
  have HP44 : Hid ((w4.setCell ⟨w.heap.size, 5, none⟩ (.slice O4 rs.length k4)).ownsRow (w.heap.size + 2) 119 2 (.slice O4 rs.length k4) rs.length (rNews rs)) := keepS HO44.out (gset _ _ _ _) (by omega)
  clear hown4 hg4 hn4 x30 fx30 y30 fy30 b30 fb30 r30 fr30 x31 fx31 y31 fy31 b31 fb31 r31 fr31 x32 fx32 y32 fy32 b32 fb32 r32 fr32 x33 fx33 y33 fy33 b33 fb33 r33 fr33 x34 fx34 y34 fy34 b34 fb34 r34 fr34 x35 fx35 y35 fy35 b35 fb35 r35 fr35
  go_wp2
  exact bodyPost_ret (v := .agg #[.string nm, .slice O1 code.length k1, .int .i64 dA, .slice O2 data.length k2, .slice O3 ss.length k3, .slice O4 rs.length k4]) (by simp [results, Tryz.results23, go_sem, y40, y41, y42, y43, y44, y45]) rfl ⟨O1, O2, O3, O4, k1, k2, k3, k4, rfl, ((((((HX4.out.setCell (Nat.le_succ _) _).setCell (Nat.le_succ _) _).setCell (Nat.le_succ _) _).setCell (Nat.le_succ _) _).setCell (Nat.le_succ _) _).setCell (Nat.le_succ _) _), ownMono (keepS HP41.out (Lib.grownBy_setB (Lib.grownBy_setB (Lib.grownBy_setB (Lib.grownBy_setB (Lib.grownBy_setB (gset _ _ _ _) _ _) _ _) _ _) _ _) _ _) (by omega)) (by omega), ownMono (keepS HP42.out (Lib.grownBy_setB (Lib.grownBy_setB (Lib.grownBy_setB (Lib.grownBy_setB (Lib.grownBy_setB (gset _ _ _ _) _ _) _ _) _ _) _ _) _ _) (by omega)) (by omega), ownMono (keepS HP43.out (Lib.grownBy_setB (Lib.grownBy_setB (Lib.grownBy_setB (Lib.grownBy_setB (Lib.grownBy_setB (gset _ _ _ _) _ _) _ _) _ _) _ _) _ _) (by omega)) (by omega), ownMono (keepS HP44.out (Lib.grownBy_setB (Lib.grownBy_setB (Lib.grownBy_setB (Lib.grownBy_setB (Lib.grownBy_setB (gset _ _ _ _) _ _) _ _) _ _) _ _) _ _) (by omega)) (by omega)⟩


end Go.Proofs.YthfcimmfkibmjaaGreatDoor

namespace Go.Proofs.YthfcimmfkibmjaaGreatDoor
open Go.RowKit

theorem copybytes_any (O : Option Addr) (ca : Nat) (zs : List Int) (w : World) (hA : IntsAt w O .u8 zs) (h0 : O = none → ca = 0) (hz : zs.length ≤ 1048576) :
    Calls Tryz.prog 21 #[.slice O zs.length ca] w fun e w' => CopyP 5 1 zs.length (iNews .u8 zs) w e w' := by
  obtain ⟨i0, hi, hz0, hz1, hz2⟩ := info5
  cases O with
  | none =>
    obtain rfl := h0 rfl
    have hl : zs.length = 0 := by
      cases zs with
      | nil => rfl
      | cons x t => obtain ⟨a, e, _⟩ := hA 0 (by simp); cases e
    have hn : iNews .u8 zs = [] := by unfold iNews; rw [hl]; rfl
    rw [hl, hn]
    have hr := run_append_owned_none (P := Tryz.prog) (w := w) w.heap.size 31 31 5 i0 1 Tryz.underlying31 hi (.slice none 0 0) 0 [] (World.ownsRow_nil w _ _ _)
    go_enter Tryz.func21, Tryz.ntmps21
    go_wp2
    go_ret
    exact copyP_mk rfl (World.ownsRow_nil w _ _ _) (World.grownBy.refl w _)
  | some a =>
    go_enter Tryz.func21, Tryz.ntmps21
    go_wp2_with (at_builtin; refine wpList_append_own _ rfl (.tmp 4) (.tmp 5) 31 rfl w.heap.size 5 i0 (.int .u8 0) 1 1 Tryz.underlying31 hi hz0 hz1 hz2 rfl (by decide) (.slice none 0 0) 0 [] rfl (World.ownsRow_nil w _ _ _) a zs.length ca (iNews .u8 zs) rfl (by simp [iNews]) (iNews_cell hA) (iNews_one _ _) (by unfold maxLen; omega) (by omega) (Nat.le_refl _) ?_; intro v' w' hown hgrow hnil)
    go_ret
    exact copyP_mk rfl (by simpa using hown) hgrow
set_option maxRecDepth 100000 in
set_option maxHeartbeats 1000000 in
theorem eqbytes_any (A B : Option Addr) (ca cb : Nat) (zs ys : List Int) (w : World) (hA : IntsAt w A .u8 zs) (hB : IntsAt w B .u8 ys) (hz : zs.length ≤ 1048576) :
    Calls Tryz.prog 11 #[.slice A zs.length ca, .slice B ys.length cb] w fun e w' => e = .returned (.bool (decide (zs = ys))) ∧ Below w.heap.size w w' := by
  by_cases hl : zs.length = ys.length
  · have hl' : ((zs.length : Int) == (ys.length : Int)) = true := by rw [hl]; simp
    have HL : Hid (zs.length = ys.length) := hl
    clear hl
    go_enter Tryz.func11, Tryz.ntmps11
    go_wp2
    go_loopw [5] (fun i wr => ∃ (k m : Nat), i = .int .i64 k ∧ k ≤ zs.length ∧ wr = w.drewN m ∧ Hid (zs.take k = ys.take k)) (fun i _ => zs.length - (intOf i).toNat)
    case atStart => exact ⟨0, 0, rfl, by omega, rfl, by simp [Hid]⟩
    case round =>
      obtain ⟨k, m, rfl, hk, rfl, HT⟩ := hrel
      by_cases hlt : k < zs.length
      · obtain ⟨a, rfl, c1⟩ := hA k hlt
        obtain ⟨b, rfl, c2⟩ := hB k (by have := HL.out; omega)
        have hlt2 : (k : Int) < (ys.length : Int) := by have := HL.out; omega
        by_cases he : nth zs k = nth ys k
        · have HE : Hid (nth zs k = nth ys k) := he
          have he' : (nth zs k == nth ys k) = true := by simpa using he
          clear he
          go_wp2_with fail
          go_quiet (fail)
          go_wp2
          go_roundw
          case rel => exact ⟨k + 1, _, by go_num, by omega, rfl, take_same HT.out hlt (by omega) HE.out⟩
          case measure => simp [intOf]; omega
        · have HE : Hid (¬ nth zs k = nth ys k) := he
          have he' : (nth zs k == nth ys k) = false := by simpa using he
          clear he
          go_wp2_with fail
          go_quiet (fail)
          go_wp2
          go_ret
          exact ⟨retB (decide_eq_false (nth_ne HE.out)).symm, below_drewN (below_drewN (Below.refl _ _) _) _⟩
      · go_wp2
        go_ret
        exact ⟨retB (decide_eq_true (take_all HT.out (by omega) HL.out)).symm, below_drewN (Below.refl _ _) _⟩
  · have hl' : ((zs.length : Int) == (ys.length : Int)) = false := by simp; omega
    have HL : Hid (¬ zs.length = ys.length) := hl
    clear hl
    go_enter Tryz.func11, Tryz.ntmps11
    go_wp2
    go_ret
    exact ⟨retB (decide_eq_false (fun h => HL.out (by rw [h]))).symm, Below.refl _ _⟩


theorem iNews_vals (K : IntKind) (zs : List Int) : iNews K zs = iVals K zs := by
  apply List.ext_getElem?
  intro i
  unfold iNews iVals
  by_cases h : i < zs.length
  · simp [h, wInt, nth, List.getD]
  · simp [h]

end Go.Proofs.YthfcimmfkibmjaaGreatDoor

namespace Go.Proofs.YthfcimmfkibmjaaGreatDoor
open Go.RowKit


theorem bytes_areB (nm : ByteArray) (code : List Int) (dA : Int) (data : List Int) (ss : List Sym) (rs : List Rel) : AreB (bytesB nm code dA data ss rs) := (body_areB nm code dA data ss rs).app (be4_areB _)
theorem bytes_len (nm : ByteArray) (code : List Int) (dA : Int) (data : List Int) (ss : List Sym) (rs : List Rel) : (bytesB nm code dA data ss rs).length = 32 + nm.size + code.length * 4 + data.length * 8 + (ss.flatMap symB).length + rs.length * 8 := by
  unfold bytesB
  rw [List.length_append, be4_len, (part_lens nm code dA data ss rs).2.2.2.2.2]
  omega
theorem may_len {nm : ByteArray} {code : List Int} {dA : Int} {data : List Int} {ss : List Sym} {rs : List Rel} (h : (checkC nm code dA data.length ss rs).1 = 0) : (bytesB nm code dA data ss rs).length ≤ 300000 := by
  have hf := may_fit (check_may h)
  have h5 := syms_size ss (syms_mem fun i hi => (hf.sym i hi).1)
  rw [bytes_len]
  have := hf.hnm; have := hf.hcode; have := hf.hdata; have := hf.hsyms; have := hf.hrels
  omega
/-- What an object that may be is read as. -/
theorem read_back {nm : ByteArray} {code : List Int} {dA : Int} {data : List Int} {ss : List Sym} {rs : List Rel} (h : (checkC nm code dA data.length ss rs).1 = 0) (hR : ∀ i, i < code.length → 0 ≤ nth code i ∧ nth code i < 4294967296) (hD : ∀ i, i < data.length → -9223372036854775808 ≤ nth data i ∧ nth data i < 9223372036854775808) :
    (took (bytesB nm code dA data ss rs)).nm = nm ∧ (took (bytesB nm code dA data ss rs)).code = code ∧ (took (bytesB nm code dA data ss rs)).dA = dA ∧ (took (bytesB nm code dA data ss rs)).data = data ∧ (took (bytesB nm code dA data ss rs)).ss = ss ∧ (took (bytesB nm code dA data ss rs)).rs = rs ∧ (took (bytesB nm code dA data ss rs)).t.bad = 0 := by
  have hf := may_fit (check_may h)
  have mem : ∀ {l : List Int} {P : Int → Prop}, (∀ i, i < l.length → P (nth l i)) → ∀ x ∈ l, P x := fun {l P} hp x hx => by
    obtain ⟨i, hi, e⟩ := List.getElem_of_mem hx
    have := hp i hi
    simpa [nth, List.getD, hi, e] using this
  refine took_read hf.hnm hf.hcode (mem hR) ⟨hf.hdA.1, by have := hf.hdA.2; unfold great; omega⟩ hf.hdata (mem hD) hf.hsyms (fun x hx => ?_) hf.hrels (fun x hx => ?_)
  · obtain ⟨i, hi, e⟩ := List.getElem_of_mem hx
    have := hf.sym i hi
    have e2 : ss.getD i symD = x := by simp [List.getD, hi, e]
    unfold sName sKind sAt at this
    rw [e2] at this
    unfold SymFit great
    omega
  · obtain ⟨i, hi, e⟩ := List.getElem_of_mem hx
    have := hf.rel i hi
    have e2 : rs.getD i (0, 0) = x := by simp [List.getD, hi, e]
    unfold rAt rSym at this
    rw [e2] at this
    unfold RelFit great
    omega
theorem wrote_ok {nm : ByteArray} {code : List Int} {dA : Int} {data : List Int} {ss : List Sym} {rs : List Rel} {w w' : World} {r : Ending} (h : WroteP nm code dA data ss rs w r w') (hk : (checkC nm code dA data.length ss rs).1 = 0) :
    ∃ A c, r = .returned (.tuple #[.slice A (bytesB nm code dA data ss rs).length c, .int .i64 0]) ∧ w'.ownsRow w.heap.size 5 1 (.slice A (bytesB nm code dA data ss rs).length c) (bytesB nm code dA data ss rs).length (bNews (bytesB nm code dA data ss rs)) ∧ IntsAt w' A .u8 (bytesB nm code dA data ss rs) ∧ (bytesB nm code dA data ss rs).length ≤ c ∧ Below w.heap.size w w' := by
  unfold WroteP at h
  rw [if_pos hk] at h
  obtain ⟨v, h1, h2, h3⟩ := h
  obtain ⟨A, c, rfl, h4, h5⟩ := own_ints h2
  exact ⟨A, c, h1, h2, h4, h5, h3⟩
theorem wrote_no {nm : ByteArray} {code : List Int} {dA : Int} {data : List Int} {ss : List Sym} {rs : List Rel} {w w' : World} {r : Ending} (h : WroteP nm code dA data ss rs w r w') (hk : ¬ (checkC nm code dA data.length ss rs).1 = 0) :
    r = .returned (.tuple #[.slice none 0 0, .int .i64 (checkC nm code dA data.length ss rs).1]) ∧ Below w.heap.size w w' := by
  unfold WroteP at h
  rw [if_neg hk] at h
  exact h
/-- What is written is read as it. -/
theorem read_ok {nm : ByteArray} {code : List Int} {dA : Int} {data : List Int} {ss : List Sym} {rs : List Rel} {w w' : World} {r : Ending} (h : ReadP (bytesB nm code dA data ss rs) w r w') (hk : (checkC nm code dA data.length ss rs).1 = 0) (hR : ∀ i, i < code.length → 0 ≤ nth code i ∧ nth code i < 4294967296) (hD : ∀ i, i < data.length → -9223372036854775808 ≤ nth data i ∧ nth data i < 9223372036854775808) :
    ∃ (A1 A2 A3 A4 : Option Addr) (c1 c2 c3 c4 : Nat), r = .returned (.tuple #[.agg #[.string nm, .slice A1 code.length c1, .int .i64 dA, .slice A2 data.length c2, .slice A3 ss.length c3, .slice A4 rs.length c4], .int .i64 0, .int .i64 0]) ∧ RowsO w' w.heap.size A1 A2 A3 A4 c1 c2 c3 c4 code data ss rs ∧ Below w.heap.size w w' := by
  obtain ⟨e1, e2, e3, e4, e5, e6, e7⟩ := read_back hk hR hD
  obtain ⟨hb, h⟩ := h
  rw [e1, e2, e3, e4, e5, e6] at h
  rcases h with ⟨h0, _⟩ | ⟨_, h0, _⟩ | ⟨_, _, A1, A2, A3, A4, c1, c2, c3, c4, h1, h2⟩
  · exact absurd e7 h0
  · exact absurd hk h0
  · exact ⟨A1, A2, A3, A4, c1, c2, c3, c4, h1, h2, hb⟩
def mainN : ByteArray := ⟨#[109, 97, 105, 110]⟩
def haltC : List Int := [2818572288]
theorem main_check : checkC mainN haltC 0 ([] : List Int).length [] [] = (0, 0) := by
  have h0 : nameOK mainN = true := by decide +kernel
  have h1 : sizeC true haltC.length 0 0 0 0 = (0, 0) := by decide +kernel
  have h2 : symC [] haltC.length = (0, 0) := by decide +kernel
  have h3 : relC [] haltC 0 = (0, 0) := by decide +kernel
  have h4 : codC haltC = (0, 0) := by decide +kernel
  unfold checkC
  simp only [List.length_nil]
  rw [h0, h1, h2, h3, h4]
  simp
theorem nil_check : checkC ⟨#[]⟩ [] 0 ([] : List Int).length [] [] = (20, -1) := by
  have h0 : nameOK ⟨#[]⟩ = false := by decide +kernel
  have h1 : sizeC false 0 0 0 0 0 = (20, -1) := by decide +kernel
  unfold checkC
  simp only [List.length_nil]
  rw [h0, h1]
  simp
theorem one_new (w : World) : Calls Tryz.prog 24 #[] w fun e w' => ∃ g : Nat, e = .returned (.agg #[.string mainN, .slice (some ⟨g, 0, none⟩) 1 1, .int .i64 0, .slice none 0 0, .slice none 0 0, .slice none 0 0]) ∧ Below w.heap.size w w' ∧ IntsAt w' (some ⟨g, 0, none⟩) .u32 haltC := by
  go_enter Tryz.func24, Tryz.ntmps24
  go_wp2
  refine bodyPost_ret (v := .agg #[.string mainN, .slice (some ⟨w.heap.size + 1, 0, none⟩) 1 1, .int .i64 0, .slice none 0 0, .slice none 0 0, .slice none 0 0]) (by simp [results, Tryz.results24, go_sem, mainN]) rfl ⟨w.heap.size + 1, rfl, lb_alloc (lb_alloc (Below.refl _ _) _) _, ?_⟩
  intro i hi
  refine ⟨_, rfl, ?_⟩
  rw [add0]
  have : i = 0 := by simp [haltC] at hi; omega
  subst this
  simp [go_sem, haltC, nth]
theorem no_ints (w : World) (K : IntKind) : IntsAt w none K [] := fun i hi => by simp at hi
theorem no_syms (w : World) : SymsAt w none [] := fun i hi => by simp at hi
theorem no_rels (w : World) : RelsAt w none [] := fun i hi => by simp at hi
theorem no_names (i : Nat) : (sName [] i).size ≤ 140737488355328 := by show (0 : Nat) ≤ _; omega
theorem halt_range (i : Nat) (h : i < haltC.length) : 0 ≤ nth haltC i ∧ nth haltC i < 4294967296 := by
  have : i = 0 := by simp [haltC] at h; omega
  subst this
  simp [haltC, nth]
set_option maxRecDepth 100000 in
set_option maxHeartbeats 2000000 in
theorem lives_any (w : World) (hT : w.cell? ⟨0, 0, none⟩ = some errT) : Calls Tryz.prog 7 #[] w fun e w' => e = .returned (.bool true) ∧ Below w.heap.size w w' := by
  have HK1 : Hid ((checkC mainN haltC 0 ([] : List Int).length [] []).1 = 0) := by rw [main_check]; rfl
  have HK2 : Hid ((checkC ⟨#[]⟩ [] 0 ([] : List Int).length [] []).1 = 20) := by rw [nil_check]; rfl
  have HL : Hid ((bytesB mainN haltC 0 [] [] []).length = 40) := by rw [bytes_len]; rfl
  go_enter Tryz.func7, Tryz.ntmps7
  go_wp2_with fail
  refine (one_new _).mono ?_
  rintro e w1 ⟨g1, rfl, hb1, hC1⟩
  have HB1 : Hid (Below w.heap.size w w1) := hb1
  have HC1 : Hid _ := hC1
  clear hb1 hC1
  go_wp2_with fail
  refine (write_any mainN 0 (some ⟨g1, 0, none⟩) none none none 1 0 0 0 haltC [] [] [] _ HC1.out (no_ints _ _) (no_syms _) (no_rels _) halt_range (by simp [haltC]) (by simp) (by simp) (by simp) no_names (by omega)).mono ?_
  intro r w2 hr
  obtain ⟨A, c, rfl, _, hI, hcap, hb2⟩ := wrote_ok hr HK1.out
  have HB2 : Hid (Below w.heap.size w w2) := lb_trans HB1.out hb2
  have hT2 : Hid (w2.cell? ⟨0, 0, none⟩ = some errT) := lkeep HB2.out hT
  have HI : Hid (IntsAt w2 A .u8 (bytesB mainN haltC 0 [] [] [])) := hI
  clear hr hb2 hI
  go_wp2_with fail
  refine (read_any A c (bytesB mainN haltC 0 [] [] []) _ HI.out (bytes_areB _ _ _ _ _ _) (by have := HL.out; omega) hcap hT2.out).mono ?_
  intro r w3 hr
  obtain ⟨A1, A2, A3, A4, c1, c2, c3, c4, rfl, rows, hb3⟩ := read_ok hr HK1.out halt_range (fun i hi => by simp at hi)
  have HB3 : Hid (Below w.heap.size w w3) := lb_trans HB2.out hb3
  have HR : Hid _ := rows
  clear hr hb3 rows
  rw [HL.out]
  have hbx : Hid ((w3.alloc (.cells #[.string mainN, .slice A1 haltC.length c1, .int .i64 0, .slice A2 ([] : List Int).length c2, .slice A3 ([] : List Sym).length c3, .slice A4 ([] : List Rel).length c4] 27)).heap[w3.heap.size]? = some (.cells #[.string mainN, .slice A1 haltC.length c1, .int .i64 0, .slice A2 ([] : List Int).length c2, .slice A3 ([] : List Sym).length c3, .slice A4 ([] : List Rel).length c4] 27 (0, 0))) := heap_alloc_new _ _
  have HB4 : Hid (Below w.heap.size w (w3.alloc (.cells #[.string mainN, .slice A1 haltC.length c1, .int .i64 0, .slice A2 ([] : List Int).length c2, .slice A3 ([] : List Sym).length c3, .slice A4 ([] : List Rel).length c4] 27))) := lb_alloc HB3.out _
  have HR4 : Hid _ := HR.out.keep (lb_alloc (Below.refl _ _) (.cells #[.string mainN, .slice A1 haltC.length c1, .int .i64 0, .slice A2 ([] : List Int).length c2, .slice A3 ([] : List Sym).length c3, .slice A4 ([] : List Rel).length c4] 27))
  go_wp2_with fail
  refine (write_any ⟨#[]⟩ 0 none none none none 0 0 0 0 [] [] [] [] _ (no_ints _ _) (no_ints _ _) (no_syms _) (no_rels _) (fun i hi => by simp at hi) (by simp) (by simp) (by simp) (by simp) no_names (by omega)).mono ?_
  intro r w5 hr
  obtain ⟨rfl, hb5⟩ := wrote_no hr (by rw [HK2.out]; omega)
  rw [HK2.out]
  have HB5 : Hid (Below w.heap.size w w5) := lb_trans HB4.out hb5
  have hx5 : Hid _ := (hb5.block w3.heap.size (by simp)).trans hbx.out
  have R5 : Hid (RowsO w5 w2.heap.size A1 A2 A3 A4 c1 c2 c3 c4 haltC [] [] []) := HR4.out.keep hb5
  obtain ⟨e0, e1, e2, e3, e4, e5⟩ := box6_cell hx5.out
  have hz5 := (Array.getElem?_eq_some_iff.1 hx5.out).1
  have C1 := fun wx => one_new wx
  have E := fun wx (hx : Below w5.heap.size w5 wx) (g : Nat) (hC : IntsAt wx (some ⟨g, 0, none⟩) .u32 haltC) => eqobj_same mainN 0 A1 A2 A3 A4 c1 c2 c3 c4 haltC [] [] [] wx (some ⟨g, 0, none⟩) none none none 1 0 0 0 (row_ints (R5.out.keep hx).r1) (row_ints (R5.out.keep hx).r2) (row_syms (R5.out.keep hx).r3) (row_rels (R5.out.keep hx).r4) (by simp [haltC]) (by simp) (by simp) (by simp) hC (no_ints _ _) (no_syms _) (no_rels _)
  have B5 : Below w5.heap.size w5 w5.drew := (Below.refl _ _).drew
  clear hr hb5
  go_wp2_with fail
  go_region_held3 (fun W => Below w5.heap.size w5 W ∧ W.cell? ⟨w3.heap.size, 0, none⟩ = some (.string mainN) ∧ W.cell? ⟨w3.heap.size, 1, none⟩ = some (.slice A1 haltC.length c1) ∧ W.cell? ⟨w3.heap.size, 2, none⟩ = some (.int .i64 0) ∧ W.cell? ⟨w3.heap.size, 3, none⟩ = some (.slice A2 ([] : List Int).length c2) ∧ W.cell? ⟨w3.heap.size, 4, none⟩ = some (.slice A3 ([] : List Sym).length c3) ∧ W.cell? ⟨w3.heap.size, 5, none⟩ = some (.slice A4 ([] : List Rel).length c4)) (first | (refine ⟨lb_trans ?_ hb, lkeep hb ?_, lkeep hb ?_, lkeep hb ?_, lkeep hb ?_, lkeep hb ?_, lkeep hb ?_⟩ <;> (simp [*]; done)) | (simp [*]; done))
    (first
      | (go_at_call 24; refine (C1 _).mono ?_; rintro e w6 ⟨g6, rfl, hb, hC6⟩)
      | (go_at_call 12; refine (E _ (by first | assumption | exact (‹Below _ _ _ ∧ _›).1) _ (by assumption)).mono ?_; rintro e w7 ⟨rfl, hb⟩))
  rename_i hS'
  obtain ⟨sB, _⟩ := hS'
  have HB7 : Hid (Below w.heap.size w _) := lb_trans HB5.out sB
  clear sB C1 E B5
  go_wp2
  go_ret
  exact ⟨rfl, HB7.out⟩

end Go.Proofs.YthfcimmfkibmjaaGreatDoor

namespace Go.Proofs.YthfcimmfkibmjaaGreatDoor


section
variable {P : Program}
/-- An append of something: in place, or in a block made now with all the others as they were. -/
theorem run_append_two (w : World) (t ty e : TypeId) (i : TypeInfo) (z : Value) (size bytes : Nat) (ht : P.underlying t = some (.slice e)) (hi : P.info? e = some i) (hz : i.zero = some z)
    (hsize : i.size = size) (hby : i.bytes = bytes) (hzs : z.cells.size = size) (hsz : 0 < size)
    (v : Value) (n : Nat) (xs : List Value) (hown : w.ownsRow 0 e size v n xs)
    (a : Addr) (m c : Nat) (news : List Value) (hl : news.length = m * size) (hnews : ∀ j u, news[j]? = some u → w.cell? (a.add j) = some u) (h1 : ∀ u ∈ news, u.oneCell' = true)
    (hm : 0 < m) (h63 : n + m ≤ maxLen) (hbytes : (n + m) * bytes ≤ 140737488355328) :
    ∃ g cap w', (Builtin.append_ #[t, t] ty #[v, .slice (some a) m c]).run P w = .ok (.slice (some ⟨g, 0, none⟩) (n + m) cap) w' ∧
      w'.ownsRow 0 e size (.slice (some ⟨g, 0, none⟩) (n + m) cap) (n + m) (xs ++ news) ∧ w.grownBy w' v.ownBlock ∧ (v = .slice (some ⟨g, 0, none⟩) n cap ∨ (g = w.heap.size ∧ w.grownBy w' none)) := by
  obtain ⟨g', cap', w', hr, h2, h3, h4, _⟩ := run_append_lies (P := P) w t ty 0 e i z size bytes ht hi hz hsize hby hzs hsz v n xs hown a m c news hl hnews h1 hm h63 hbytes (Nat.zero_le _) _ rfl
  rcases hown.2 with ⟨rfl, rfl⟩ | ⟨g, cap, cur, rfl, hbg, hg, hnc, hcm, hcs, htake⟩
  · refine ⟨g', cap', w', hr, h2, h3, .inr ⟨?_, h3⟩⟩
    rcases h4 with h4 | h4
    · cases h4
    · exact h4
  · by_cases hroom : n + m ≤ cap
    · obtain ⟨w2, hr2, h5, h6⟩ := run_append_fits (P := P) w 0 t ty e i size ht hi hsize g n cap xs hown a m c news hl hnews h1 hroom
      exact ⟨g, cap, w2, hr2, h5, h6, .inl rfl⟩
    · subst hsize hby
      have hr2 := run_append_grow (P := P) w t ty e i z ht hi hz ⟨g, 0, none⟩ n cap xs hown.1 (hown.cells (g := g) rfl) a m c news hl hnews (by omega) (by simp only [maxLen] at h63; omega) (growslice_fits (by omega) hbytes)
      have e2 := hr.symm.trans hr2
      simp only [Result.ok.injEq, Value.slice.injEq, Option.some.injEq, Addr.mk.injEq, and_true, true_and] at e2
      obtain ⟨⟨e3, _⟩, e4⟩ := e2
      refine ⟨g', cap', w', hr, h2, h3, .inr ⟨e3, ?_⟩⟩
      rw [e4]
      exact ⟨rfl, rfl, rfl, by simp, fun k hk _ => Go.RowKit.Below.heap_alloc w.drew _ k hk⟩
theorem wp_append_two (w : World) {o : Oper} {a : Act} {K : Act → World → Prop} {Q : Exit → Act → World → Prop} (s x : Operand) (t : TypeId)
    (ho : o.op = .call { callee := .builtin .append, args := #[s, x], argTypes := #[t, t] })
    (e : TypeId) (i : TypeInfo) (z : Value) (size bytes : Nat) (ht : P.underlying t = some (.slice e)) (hi : P.info? e = some i) (hz : i.zero = some z)
    (hsize : i.size = size) (hby : i.bytes = bytes) (hzs : z.cells.size = size) (hsz : 0 < size)
    (v : Value) (n : Nat) (xs : List Value) (hs : a.eval s = v) (hown : w.ownsRow 0 e size v n xs)
    (ad : Addr) (m c : Nat) (news : List Value) (hx : a.eval x = .slice (some ad) m c) (hl : news.length = m * size) (hnews : ∀ j u, news[j]? = some u → w.cell? (ad.add j) = some u) (h1 : ∀ u ∈ news, u.oneCell' = true)
    (hm : 0 < m) (h63 : n + m ≤ maxLen) (hbytes : (n + m) * bytes ≤ 140737488355328)
    (h : ∀ g cap w', w'.ownsRow 0 e size (.slice (some ⟨g, 0, none⟩) (n + m) cap) (n + m) (xs ++ news) → w.grownBy w' v.ownBlock → (v = .slice (some ⟨g, 0, none⟩) n cap ∨ (g = w.heap.size ∧ w.grownBy w' none)) → K (a.put o.dst (.slice (some ⟨g, 0, none⟩) (n + m) cap)) w') : o.wp P a w K Q := by
  obtain ⟨g, cap, w', hr, h2, h3, h4⟩ := run_append_two (P := P) w t o.type e i z size bytes ht hi hz hsize hby hzs hsz v n xs hown ad m c news hl hnews h1 hm h63 hbytes
  unfold Oper.wp execOp
  simp only [ho, resolve, invoke, builtin, Sem.run_bind, Sem.run_pure, Result.andThen_ok, List.map_toArray, List.map_cons, List.map_nil, hs, hx, hr]
  exact h g cap w' h2 h3 h4
theorem wpList_append_two (w : World) {ops : Array Oper} {rest : List Oper} {o : Oper} {a : Act} {Q : Exit → Act → World → Prop} (hgd : o.guard = none) (s x : Operand) (t : TypeId)
    (ho : o.op = .call { callee := .builtin .append, args := #[s, x], argTypes := #[t, t] })
    (e : TypeId) (i : TypeInfo) (z : Value) (size bytes : Nat) (ht : P.underlying t = some (.slice e)) (hi : P.info? e = some i) (hz : i.zero = some z)
    (hsize : i.size = size) (hby : i.bytes = bytes) (hzs : z.cells.size = size) (hsz : 0 < size)
    (v : Value) (n : Nat) (xs : List Value) (hs : a.eval s = v) (hown : w.ownsRow 0 e size v n xs)
    (ad : Addr) (m c : Nat) (news : List Value) (hx : a.eval x = .slice (some ad) m c) (hl : news.length = m * size) (hnews : ∀ j u, news[j]? = some u → w.cell? (ad.add j) = some u) (h1 : ∀ u ∈ news, u.oneCell' = true)
    (hm : 0 < m) (h63 : n + m ≤ maxLen) (hbytes : (n + m) * bytes ≤ 140737488355328)
    (h : ∀ g cap w', w'.ownsRow 0 e size (.slice (some ⟨g, 0, none⟩) (n + m) cap) (n + m) (xs ++ news) → w.grownBy w' v.ownBlock → (v = .slice (some ⟨g, 0, none⟩) n cap ∨ (g = w.heap.size ∧ w.grownBy w' none)) → wpList P ops Q rest (a.put o.dst (.slice (some ⟨g, 0, none⟩) (n + m) cap)) w') : wpList P ops Q (o :: rest) a w :=
  wpList_plain hgd fun _ hK => wp_append_two w s x t ho e i z size bytes ht hi hz hsize hby hzs hsz v n xs hs hown ad m c news hx hl hnews h1 hm h63 hbytes fun g cap w' h2 h3 h4 => hK _ _ (h g cap w' h2 h3 h4)
end

/-- L marks of the list n. -/
def marks (mk : Nat → Nat → List Value) (n L : Nat) : List Value := (List.range L).flatMap (mk n)
theorem marks_zero (mk : Nat → Nat → List Value) (n : Nat) : marks mk n 0 = [] := rfl
theorem marks_succ (mk : Nat → Nat → List Value) (n L : Nat) : marks mk n (L + 1) = marks mk n L ++ mk n L := by simp [marks, List.range_succ]
theorem marks_len {mk : Nat → Nat → List Value} {size : Nat} (h : ∀ n i, (mk n i).length = size) (n L : Nat) : (marks mk n L).length = L * size := by
  induction L with
  | zero => simp [marks]
  | succ L ih => rw [marks_succ, List.length_append, ih, h, Nat.succ_mul]
theorem marks_take {mk : Nat → Nat → List Value} {size : Nat} (h : ∀ n i, (mk n i).length = size) (n : Nat) {L M : Nat} (hL : L ≤ M) : (marks mk n M).take (L * size) = marks mk n L := by
  induction M with
  | zero =>
    obtain rfl : L = 0 := by omega
    simp [marks]
  | succ M ih =>
    by_cases e : L = M + 1
    · subst e
      rw [List.take_of_length_le (by rw [marks_len h]; exact Nat.le_refl _)]
    · rw [marks_succ, List.take_append_of_le_length (by rw [marks_len h]; exact Nat.mul_le_mul_right _ (by omega))]
      exact ih (by omega)
theorem marks_get {mk : Nat → Nat → List Value} {size : Nat} (h : ∀ n i, (mk n i).length = size) (n : Nat) {L i j : Nat} (hi : i < L) (hj : j < size) : (marks mk n L)[i * size + j]? = (mk n i)[j]? := by
  have h1 : (marks mk n (i + 1))[i * size + j]? = (mk n i)[j]? := by
    rw [marks_succ, List.getElem?_append_right (by rw [marks_len h]; omega), marks_len h]
    congr 1
    omega
  rw [← h1, ← marks_take h n (show i + 1 ≤ L by omega), List.getElem?_take, if_pos (by rw [Nat.succ_mul]; omega)]

/-- A row stays where another block grows. -/
theorem own_apart {w w' : World} {base : Nat} {e : TypeId} {size : Nat} {v : Value} {n : Nat} {xs : List Value} {row : Option Nat} (h : w.ownsRow base e size v n xs) (hg : w.grownBy w' row) (hne : ∀ b, v.ownBlock = some b → row ≠ some b) : w'.ownsRow base e size v n xs := by
  refine h.kept hg ?_
  cases hv : v.ownBlock with
  | none => exact .inl rfl
  | some b => exact .inr (fun e => hne b hv e.symm)
/-- What lies in a block's cells is of one kind. -/
theorem own_block {w : World} {base : Nat} {e : TypeId} {size : Nat} {v : Value} {n : Nat} {xs : List Value} (h : w.ownsRow base e size v n xs) {b : Nat} (hb : v.ownBlock = some b) : ∃ cur, w.heap[b]? = some (.cells cur e (0, 0)) := by
  rcases h.2 with ⟨rfl, _⟩ | ⟨g, cap, cur, rfl, _, hg, _⟩
  · cases hb
  · cases hb
    exact ⟨cur, hg⟩
/-- A row of one kind is not a block of another. -/
def Not (w : World) (e : TypeId) (row : Option Nat) : Prop := ∀ b, row = some b → ∀ cur, w.heap[b]? ≠ some (.cells cur e (0, 0))
theorem own_other {w w' : World} {base : Nat} {e : TypeId} {size : Nat} {v : Value} {n : Nat} {xs : List Value} {row : Option Nat} (h : w.ownsRow base e size v n xs) (hg : w.grownBy w' row) (hne : Not w e row) : w'.ownsRow base e size v n xs :=
  own_apart h hg fun b hb hr => by
    obtain ⟨cur, hc⟩ := own_block h hb
    exact hne b hr cur hc
theorem own_not {w : World} {base : Nat} {e : TypeId} {size : Nat} {v : Value} {n : Nat} {xs : List Value} (h : w.ownsRow base e size v n xs) {e' : TypeId} (hne : e ≠ e') : Not w e' v.ownBlock := fun b hb cur hc => by
  obtain ⟨c2, hc2⟩ := own_block h hb
  rw [hc2] at hc
  simp only [Option.some.injEq, Obj.cells.injEq] at hc
  exact hne hc.2.1

/-- A bag's rows: each a value and its length. -/
def rv (rs : List (Value × Nat)) (m : Nat) : Value := (rs.getD m (.slice none 0 0, 0)).1
def rl (rs : List (Value × Nat)) (m : Nat) : Nat := (rs.getD m (.slice none 0 0, 0)).2
def vn (os : List Value) (m : Nat) : Value := os.getD m (.slice none 0 0)
theorem vn_map (rs : List (Value × Nat)) (m : Nat) (h : m < rs.length) : vn (rs.map Prod.fst) m = rv rs m := by simp [vn, rv, h]
theorem vn_last (os : List Value) (x : Value) : vn (os ++ [x]) os.length = x := by simp [vn]
theorem vn_old (os : List Value) (x : Value) (j : Nat) (h : j < os.length) : vn (os ++ [x]) j = vn os j := by
  unfold vn
  rw [List.getD_eq_getElem?_getD, List.getD_eq_getElem?_getD, List.getElem?_append_left h]
/-- Two lists of lists that lie apart, by blocks. -/
def Off (a b : Option Nat) : Prop := ∀ k, a = some k → b ≠ some k
theorem Off.symm {a b : Option Nat} (h : Off a b) : Off b a := fun k hb ha => h k ha hb

section
variable (T TS : TypeId) (size : Nat) (mk : Nat → Nat → List Value) (rs : List (Value × Nat))
/-- What is held: a bag's row, or one grown by one, or by seventy. -/
def Held (os ms : List Value) (v : Value) (k L : Nat) : Prop :=
  (k < rs.length ∧ v = rv rs k ∧ L = rl rs k) ∨ (k < os.length ∧ v = vn os k ∧ L = rl rs k + 1) ∨ (k < ms.length ∧ v = vn ms k ∧ L = rl rs k + 70)
/-- The three lists of lists. -/
structure Three (w : World) (V O M : Value) (os ms : List Value) : Prop where
  bag : w.ownsRow 0 TS 1 V rs.length (rs.map Prod.fst)
  one : w.ownsRow 0 TS 1 O os.length os
  more : w.ownsRow 0 TS 1 M ms.length ms
  vo : Off V.ownBlock O.ownBlock
  vm : Off V.ownBlock M.ownBlock
  om : Off O.ownBlock M.ownBlock
/-- All that is other: the bag's rows, and what is new. -/
structure Fr (w0 w : World) : Prop where
  os : w.os = w0.os
  tape : w.tape = w0.tape
  output : w.output = w0.output
  size : w0.heap.size ≤ w.heap.size
  block : ∀ b, b < w0.heap.size → (∀ m, m < rs.length → (rv rs m).ownBlock ≠ some b) → w.heap[b]? = w0.heap[b]?
/-- Whose block it may be. -/
def Mine (w0 : World) (row : Option Nat) : Prop := ∀ b, row = some b → w0.heap.size ≤ b ∨ ∃ m, m < rs.length ∧ (rv rs m).ownBlock = some b
/-- Ahead of the list n. -/
structure Out (w0 w : World) (n : Nat) (V O M : Value) (os ms : List Value) : Prop where
  three : Three TS rs w V O M os ms
  fr : Fr rs w0 w
  mo : Mine rs w0 O.ownBlock
  mm : Mine rs w0 M.ownBlock
  held : ∀ v k L, Held rs os ms v k L → w.ownsRow 0 T size v L (marks mk k L) ∧ ∀ m, n ≤ m → m < rs.length → ∀ b, v.ownBlock = some b → (rv rs m).ownBlock = some b → L ≤ rl rs m
/-- At the list n, grown to i. -/
structure Ap (w0 w : World) (n : Nat) (V O M : Value) (os ms : List Value) (l : Value) (i : Nat) : Prop where
  out : Out T TS size mk rs w0 w (n + 1) V O M os ms
  cur : w.ownsRow 0 T size l i (marks mk n i)
  my : Mine rs w0 l.ownBlock
  far : ∀ m, n + 1 ≤ m → m < rs.length → Off l.ownBlock (rv rs m).ownBlock
  safe : ∀ v k L, Held rs os ms v k L → ∀ b, v.ownBlock = some b → l.ownBlock = some b → L ≤ i

variable {T TS size mk rs}
theorem Fr.grown {w0 w w' : World} {row : Option Nat} (h : Fr rs w0 w) (hg : w.grownBy w' row) (hm : Mine rs w0 row) : Fr rs w0 w' := by
  refine ⟨hg.os.trans h.os, hg.tape.trans h.tape, hg.output.trans h.output, Nat.le_trans h.size hg.size, fun b hb hn => ?_⟩
  rw [hg.block b (Nat.lt_of_lt_of_le hb h.size) (fun e => ?_), h.block b hb hn]
  rcases hm b e.symm with h1 | ⟨m, h1, h2⟩
  · omega
  · exact hn m h1 h2
theorem Three.other {w w' : World} {V O M : Value} {os ms : List Value} {row : Option Nat} (h : Three TS rs w V O M os ms) (hg : w.grownBy w' row) (hn : Not w TS row) : Three TS rs w' V O M os ms :=
  ⟨own_other h.bag hg hn, own_other h.one hg hn, own_other h.more hg hn, h.vo, h.vm, h.om⟩
/-- A block's number, of one that is owned. -/
theorem own_lt {w : World} {base : Nat} {e : TypeId} {size : Nat} {v : Value} {n : Nat} {xs : List Value} (h : w.ownsRow base e size v n xs) {b : Nat} (hb : v.ownBlock = some b) : b < w.heap.size := (h.lt b hb).2
/-- Where a row is behind an append. -/
def Grew (w w' : World) (v : Value) (n g cap : Nat) : Prop := v = .slice (some ⟨g, 0, none⟩) n cap ∨ (g = w.heap.size ∧ w.grownBy w' none)
theorem Grew.off {w w' : World} {v : Value} {n g cap n' : Nat} {base : Nat} {e : TypeId} {size : Nat} {u : Value} {k : Nat} {xs : List Value} (h : Grew w w' v n g cap) (hu : w.ownsRow base e size u k xs) (ho : Off u.ownBlock v.ownBlock) : Off u.ownBlock (Value.slice (some ⟨g, 0, none⟩) n' cap).ownBlock := by
  rcases h with rfl | ⟨rfl, _⟩
  · exact ho
  · intro b hb e
    have := own_lt hu hb
    simp only [Value.ownBlock, Option.some.injEq] at e
    omega
theorem Grew.mine {w w' w0 : World} {v : Value} {n g cap n' : Nat} (h : Grew w w' v n g cap) (hs : w0.heap.size ≤ w.heap.size) (hm : Mine rs w0 v.ownBlock) : Mine rs w0 (Value.slice (some ⟨g, 0, none⟩) n' cap).ownBlock := by
  rcases h with rfl | ⟨rfl, _⟩
  · exact hm
  · intro b e
    simp only [Value.ownBlock, Option.some.injEq] at e
    left
    omega
theorem Three.addOne {w w' : World} {V O M : Value} {os ms : List Value} {x : Value} {g cap : Nat} (h : Three TS rs w V O M os ms) (ho : w'.ownsRow 0 TS 1 (.slice (some ⟨g, 0, none⟩) (os.length + 1) cap) (os.length + 1) (os ++ [x])) (hg : w.grownBy w' O.ownBlock) (hw : Grew w w' O os.length g cap) :
    Three TS rs w' V (.slice (some ⟨g, 0, none⟩) (os.length + 1) cap) M (os ++ [x]) ms := by
  refine ⟨own_apart h.bag hg h.vo, by rw [List.length_append]; exact ho, own_apart h.more hg (fun b hb e => h.om b e hb), hw.off h.bag h.vo, h.vm, ?_⟩
  exact (hw.off h.more h.om.symm).symm
theorem Three.addMore {w w' : World} {V O M : Value} {os ms : List Value} {x : Value} {g cap : Nat} (h : Three TS rs w V O M os ms) (ho : w'.ownsRow 0 TS 1 (.slice (some ⟨g, 0, none⟩) (ms.length + 1) cap) (ms.length + 1) (ms ++ [x])) (hg : w.grownBy w' M.ownBlock) (hw : Grew w w' M ms.length g cap) :
    Three TS rs w' V O (.slice (some ⟨g, 0, none⟩) (ms.length + 1) cap) os (ms ++ [x]) := by
  refine ⟨own_apart h.bag hg h.vm, own_apart h.one hg h.om, by rw [List.length_append]; exact ho, h.vo, hw.off h.bag h.vm, ?_⟩
  exact hw.off h.one h.om
/-- A held row stays while the current one grows. -/
theorem held_grow (hmk : ∀ n i, (mk n i).length = size) (_hsz : 0 < size) {w w' : World} {v l : Value} {k L n i g cap : Nat} (hv : w.ownsRow 0 T size v L (marks mk k L)) (hl : w.ownsRow 0 T size l i (marks mk n i)) (hs : ∀ b, v.ownBlock = some b → l.ownBlock = some b → L ≤ i)
    (ho : w'.ownsRow 0 T size (.slice (some ⟨g, 0, none⟩) (i + 1) cap) (i + 1) (marks mk n (i + 1))) (hg : w.grownBy w' l.ownBlock) (hw : Grew w w' l i g cap) : w'.ownsRow 0 T size v L (marks mk k L) := by
  rcases hw with rfl | ⟨_, h0⟩
  · by_cases hb : v.ownBlock = some g
    · have hLi := hs g hb rfl
      refine ⟨hv.1, ?_⟩
      rcases hv.2 with h1 | ⟨gv, cv, cur, rfl, _, hgv, hLc, hcm, hcs, htk⟩
      · exact .inl h1
      · obtain rfl : gv = g := by simpa [Value.ownBlock] using hb
        rcases hl.2 with ⟨e1, _⟩ | ⟨g2, c2, cur2, e2, _, hg2, _, _, hcs2, htk2⟩
        · cases e1
        · cases e2
          rw [hgv] at hg2
          cases hg2
          rcases ho.2 with ⟨e1, _⟩ | ⟨g3, c3, cur3, e3, _, hg3, _, _, hcs3, htk3⟩
          · cases e1
          · cases e3
            refine .inr ⟨gv, cv, cur3, rfl, Nat.zero_le _, hg3, hLc, hcm, by omega, ?_⟩
            have a1 : cur3.toList.take (L * size) = marks mk n L := by
              have := congrArg (List.take (L * size)) htk3
              rwa [List.take_take, Nat.min_eq_left (Nat.mul_le_mul_right _ (by omega)), marks_take hmk n (by omega)] at this
            have a2 : cur.toList.take (L * size) = marks mk n L := by
              have := congrArg (List.take (L * size)) htk2
              rwa [List.take_take, Nat.min_eq_left (Nat.mul_le_mul_right _ hLi), marks_take hmk n hLi] at this
            rw [a1, ← a2, htk]
    · exact own_apart hv hg fun b hb' e => by
        have : b = g := by simpa [Value.ownBlock] using e.symm
        exact hb (this ▸ hb')
  · exact own_apart hv h0 fun b _ e => by cases e
theorem Out.other {w0 w w' : World} {n : Nat} {V O M : Value} {os ms : List Value} {row : Option Nat} (h : Out T TS size mk rs w0 w n V O M os ms) (hg : w.grownBy w' row) (hn : Not w TS row) (hn2 : Not w T row) (hm : Mine rs w0 row) : Out T TS size mk rs w0 w' n V O M os ms :=
  ⟨h.three.other hg hn, h.fr.grown hg hm, h.mo, h.mm, fun v k L hh => ⟨own_other (h.held v k L hh).1 hg hn2, (h.held v k L hh).2⟩⟩
/-- The current row grows by one. -/
theorem Ap.grow (hmk : ∀ n i, (mk n i).length = size) (hsz : 0 < size) (hT : T ≠ TS) {w0 w w' : World} {n : Nat} {V O M : Value} {os ms : List Value} {l : Value} {i g cap : Nat} (h : Ap T TS size mk rs w0 w n V O M os ms l i)
    (ho : w'.ownsRow 0 T size (.slice (some ⟨g, 0, none⟩) (i + 1) cap) (i + 1) (marks mk n i ++ mk n i)) (hg : w.grownBy w' l.ownBlock) (hw : l = .slice (some ⟨g, 0, none⟩) i cap ∨ (g = w.heap.size ∧ w.grownBy w' none)) : Ap T TS size mk rs w0 w' n V O M os ms (.slice (some ⟨g, 0, none⟩) (i + 1) cap) (i + 1) := by
  rw [← marks_succ] at ho
  have hw' : Grew w w' l i g cap := hw
  refine ⟨⟨h.out.three.other hg (own_not h.cur hT), h.out.fr.grown hg h.my, h.out.mo, h.out.mm, fun v k L hh => ⟨held_grow hmk hsz (h.out.held v k L hh).1 h.cur (h.safe v k L hh) ho hg hw', (h.out.held v k L hh).2⟩⟩, ho, hw'.mine h.out.fr.size h.my, fun m h1 h2 => ?_, fun v k L hh b hb e => ?_⟩
  · exact (hw'.off (h.out.held _ _ _ (.inl ⟨h2, rfl, rfl⟩)).1 (h.far m h1 h2).symm).symm
  · rcases hw' with rfl | ⟨rfl, _⟩
    · exact Nat.le_succ_of_le (h.safe v k L hh b hb e)
    · have := own_lt (h.out.held v k L hh).1 hb
      simp only [Value.ownBlock, Option.some.injEq] at e
      omega
/-- The row grown by one is kept. -/
theorem Ap.addOne (hT : T ≠ TS) {w0 w w' : World} {n : Nat} {V O M : Value} {os ms : List Value} {l : Value} {i g cap : Nat} (h : Ap T TS size mk rs w0 w n V O M os ms l i) (hi : i = rl rs n + 1) (hos : os.length = n)
    (ho : w'.ownsRow 0 TS 1 (.slice (some ⟨g, 0, none⟩) (os.length + 1) cap) (os.length + 1) (os ++ [l])) (hg : w.grownBy w' O.ownBlock) (hw : O = .slice (some ⟨g, 0, none⟩) os.length cap ∨ (g = w.heap.size ∧ w.grownBy w' none)) :
    Ap T TS size mk rs w0 w' n V (.slice (some ⟨g, 0, none⟩) (os.length + 1) cap) M (os ++ [l]) ms l i := by
  have hw' : Grew w w' O os.length g cap := hw
  have hno := own_not h.out.three.one (e' := T) hT.symm
  have hc : w'.ownsRow 0 T size l i (marks mk n i) := own_other h.cur hg hno
  have hd : ∀ v k L, Held rs (os ++ [l]) ms v k L → Held rs os ms v k L ∨ (v = l ∧ k = n ∧ L = i) := by
    rintro v k L (h1 | ⟨h1, h2, h3⟩ | h1)
    · exact .inl (.inl h1)
    · by_cases e : k < os.length
      · exact .inl (.inr (.inl ⟨e, by rw [h2, vn_old _ _ _ e], h3⟩))
      · obtain rfl : k = os.length := by simp at h1; omega
        rw [vn_last] at h2
        exact .inr ⟨h2, hos, by rw [h3, hos, hi]⟩
    · exact .inl (.inr (.inr h1))
  refine ⟨⟨h.out.three.addOne ho hg hw', h.out.fr.grown hg h.out.mo, hw'.mine h.out.fr.size h.out.mo, h.out.mm, fun v k L hh => ?_⟩, hc, h.my, h.far, fun v k L hh b hb e => ?_⟩
  · rcases hd v k L hh with hh | ⟨rfl, rfl, rfl⟩
    · exact ⟨own_other (h.out.held v k L hh).1 hg hno, (h.out.held v k L hh).2⟩
    · exact ⟨hc, fun m h1 h2 b hb e => absurd e (h.far m h1 h2 b hb)⟩
  · rcases hd v k L hh with hh | ⟨rfl, rfl, rfl⟩
    · exact h.safe v k L hh b hb e
    · exact Nat.le_refl _
/-- The row grown by seventy is kept: on to the next. -/
theorem Ap.addMore (hT : T ≠ TS) {w0 w w' : World} {n : Nat} {V O M : Value} {os ms : List Value} {l : Value} {i g cap : Nat} (h : Ap T TS size mk rs w0 w n V O M os ms l i) (hi : i = rl rs n + 70) (hms : ms.length = n)
    (ho : w'.ownsRow 0 TS 1 (.slice (some ⟨g, 0, none⟩) (ms.length + 1) cap) (ms.length + 1) (ms ++ [l])) (hg : w.grownBy w' M.ownBlock) (hw : M = .slice (some ⟨g, 0, none⟩) ms.length cap ∨ (g = w.heap.size ∧ w.grownBy w' none)) :
    Out T TS size mk rs w0 w' (n + 1) V O (.slice (some ⟨g, 0, none⟩) (ms.length + 1) cap) os (ms ++ [l]) := by
  have hw' : Grew w w' M ms.length g cap := hw
  have hno := own_not h.out.three.more (e' := T) hT.symm
  have hc : w'.ownsRow 0 T size l i (marks mk n i) := own_other h.cur hg hno
  refine ⟨h.out.three.addMore ho hg hw', h.out.fr.grown hg h.out.mm, h.out.mo, hw'.mine h.out.fr.size h.out.mm, fun v k L hh => ?_⟩
  have hd : Held rs os ms v k L ∨ (v = l ∧ k = n ∧ L = i) := by
    rcases hh with h1 | h1 | ⟨h1, h2, h3⟩
    · exact .inl (.inl h1)
    · exact .inl (.inr (.inl h1))
    · by_cases e : k < ms.length
      · exact .inl (.inr (.inr ⟨e, by rw [h2, vn_old _ _ _ e], h3⟩))
      · obtain rfl : k = ms.length := by simp at h1; omega
        rw [vn_last] at h2
        exact .inr ⟨h2, hms, by rw [h3, hms, hi]⟩
  rcases hd with hh | ⟨rfl, rfl, rfl⟩
  · exact ⟨own_other (h.out.held v k L hh).1 hg hno, (h.out.held v k L hh).2⟩
  · exact ⟨hc, fun m h1 h2 b hb e => absurd e (h.far m h1 h2 b hb)⟩
/-- The rows' blocks are different ones. -/
def Sep (rs : List (Value × Nat)) : Prop := ∀ m m', m < m' → m' < rs.length → Off (rv rs m).ownBlock (rv rs m').ownBlock
theorem Sep.eq (h : Sep rs) {m m' : Nat} (hm : m < rs.length) (hm' : m' < rs.length) {b : Nat} (h1 : (rv rs m).ownBlock = some b) (h2 : (rv rs m').ownBlock = some b) : m = m' := by
  rcases Nat.lt_trichotomy m m' with h3 | h3 | h3
  · exact absurd h2 (h m m' h3 hm' b h1)
  · exact h3
  · exact absurd h1 (h m' m h3 hm b h2)
/-- The next list is taken up. -/
theorem Out.take (hs : Sep rs) {w0 w : World} {n : Nat} {V O M : Value} {os ms : List Value} (h : Out T TS size mk rs w0 w n V O M os ms) (hn : n < rs.length) : Ap T TS size mk rs w0 w n V O M os ms (rv rs n) (rl rs n) := by
  have hh : Held rs os ms (rv rs n) n (rl rs n) := .inl ⟨hn, rfl, rfl⟩
  refine ⟨⟨h.three, h.fr, h.mo, h.mm, fun v k L h1 => ⟨(h.held v k L h1).1, fun m h2 => (h.held v k L h1).2 m (by omega)⟩⟩, (h.held _ _ _ hh).1, fun b hb => .inr ⟨n, hn, hb⟩, fun m h1 h2 => hs n m (by omega) h2, fun v k L h1 b hb e => (h.held v k L h1).2 n (Nat.le_refl _) hn b hb e⟩
/-- While the marks are being written: up to the place i of the list n. -/
def Wr (T : TypeId) (size : Nat) (mk : Nat → Nat → List Value) (rs : List (Value × Nat)) (w : World) (n i : Nat) : Prop :=
  ∀ m, m < rs.length → ∃ xs, w.ownsRow 0 T size (rv rs m) (rl rs m) xs ∧ (m < n → xs = marks mk m (rl rs m)) ∧ (m = n → xs.take (i * size) = marks mk n i)
/-- All marks stand. -/
theorem Wr.out (hs : Sep rs) {w0 w : World} {V : Value} (h : Wr T size mk rs w rs.length 0) (hV : w.ownsRow 0 TS 1 V rs.length (rs.map Prod.fst)) (hf : Fr rs w0 w) : Out T TS size mk rs w0 w 0 V (.slice none 0 0) (.slice none 0 0) [] [] := by
  refine ⟨⟨hV, World.ownsRow_nil _ _ _ _, World.ownsRow_nil _ _ _ _, fun b _ e => (by cases e), fun b _ e => (by cases e), fun b _ e => (by cases e)⟩, hf, fun b e => (by cases e), fun b e => (by cases e), fun v k L hh => ?_⟩
  rcases hh with ⟨h1, rfl, rfl⟩ | ⟨h1, _⟩ | ⟨h1, _⟩
  · obtain ⟨xs, hx, h2, _⟩ := h k h1
    rw [h2 h1] at hx
    exact ⟨hx, fun m _ h4 b hb hb' => by rw [hs.eq h1 h4 hb hb']; exact Nat.le_refl _⟩
  · simp at h1
  · simp at h1
theorem Wr.next {w : World} {n : Nat} (h : Wr T size mk rs w n (rl rs n)) : Wr T size mk rs w (n + 1) 0 := by
  intro m hm
  obtain ⟨xs, hx, h1, h2⟩ := h m hm
  refine ⟨xs, hx, fun h3 => ?_, fun _ => by simp [marks]⟩
  by_cases e : m < n
  · exact h1 e
  · obtain rfl : m = n := by omega
    rw [← h2 rfl, List.take_of_length_le (by rw [hx.1]; exact Nat.le_refl _)]
/-- A mark is written. -/
theorem Wr.step (hs : Sep rs) {w w' : World} {n i : Nat} (h : Wr T size mk rs w n i) (hn : n < rs.length) (hg : w.grownBy w' (rv rs n).ownBlock) (ho : ∀ xs, w.ownsRow 0 T size (rv rs n) (rl rs n) xs → xs.take (i * size) = marks mk n i → ∃ ys, w'.ownsRow 0 T size (rv rs n) (rl rs n) ys ∧ ys.take ((i + 1) * size) = marks mk n (i + 1)) : Wr T size mk rs w' n (i + 1) := by
  intro m hm
  obtain ⟨xs, hx, h1, h2⟩ := h m hm
  by_cases e : m = n
  · subst e
    obtain ⟨ys, hy, h3⟩ := ho xs hx (h2 rfl)
    exact ⟨ys, hy, fun h4 => absurd h4 (by omega), fun _ => h3⟩
  · refine ⟨xs, own_apart hx hg fun b hb e2 => e (hs.eq hm hn hb e2), h1, fun h4 => absurd h4 e⟩
end

end Go.Proofs.YthfcimmfkibmjaaGreatDoor
