/-
  A list of numbers copied by append, by the document's helpers: a list of its own; it is at most 2^20 long. A list of symbols, of relocations copied by append, by the document's helpers: a list of its own; it is at most 2^20 long. An object copied by the document's helper: each list is its own; the lists are at most 2^20 long. A copy of an object of a list. Lists of lists of places in memory of their own; no Go in sight. What binding means, as plain mathematics; no Go in sight. A Global symbol is what its name stands for; one more Wanted symbol changes nothing; no Go in sight. Where objects stand in one text, as plain mathematics; no Go in sight. Rows of numbers as lists lie in memory; an image of its own memory; no Go in sight. What the program's Link and Bases are to be shown. What linking keeps; no Go in sight. The marks behind a list of numbers, looked at by the document's helpers: true where they stand; the list is at most 2^20 long. The marks behind a list of symbols, of relocations, looked at by the document's helpers: true where they stand; the list is at most 2^20 long. The marks behind an object's lists, looked at by the document's helper: true where they stand; the lists are at most 2^20 long. An object copied into memory of its own, with marks behind its lists, by the document's helper; its lists are at most 2^20 long. Where an object that was copied with marks lies, and that the marks stand; its lists are at most 2^20 long. The marks behind a list of objects stand. How a list of objects, copied with marks, lies. CopyObjects: a list of objects anew, each with memory of its own. CopyImage of the statements, by what it returns; the lists have at most 2^20 items.
-/
import Derived.Test.YthpkekpojhmaaaaGreatDoorProg
import Derived.WalkKit
import Derived.WalkSpells
import Derived.WalkLawsBesides
import Derived.RowKit3
import Derived.Below
import Derived.Deep.QuietTactic
import Derived.BigQuiet
import Derived.WalkSmall
import Derived.Laws.AppendOwn
import Derived.Laws.OwnMore
import Derived.Deep.Slices
import Derived.Lib.BufferOwn
import Derived.Test.YthpkekpojhmaaaaGreatDoorP05
import Derived.Laws.Rows
import Derived.Test.YthpkekpojhmaaaaGreatDoorP04
import Derived.Test.YthpkekpojhmaaaaGreatDoorP01
namespace Go.Proofs.YthpkekpojhmaaaaGreatDoor
open Go.RowKit

/-- How a copy ends: a list of its own. -/
def CopyP (el sz n : Nat) (news : List Value) (w : World) (e : Ending) (w' : World) : Prop := ∃ (O : Option Addr) (cap : Nat), e = .returned (.slice O n cap) ∧ w'.ownsRow w.heap.size el sz (.slice O n cap) n news ∧ w.grownBy w' none ∧ (O = none → cap = 0)
theorem copyP_mk {el sz n : Nat} {news : List Value} {w w' : World} {v : Value} {e : Ending} (he : e = .returned v) (h : w'.ownsRow w.heap.size el sz v n news) (hg : w.grownBy w' none) : CopyP el sz n news w e w' := by
  subst he
  rcases h.2 with ⟨rfl, rfl⟩ | ⟨g, cap, cur, rfl, _⟩
  · exact ⟨none, 0, rfl, h, hg, fun _ => rfl⟩
  · exact ⟨some ⟨g, 0, none⟩, cap, rfl, h, hg, fun e => by cases e⟩
def iNews (K : IntKind) (zs : List Int) : List Value := (List.range zs.length).map (wInt K zs)
def sNews (zs : List Sym) : List Value := (List.range (zs.length * 3)).map (wSym zs)
def rNews (zs : List Rel) : List Value := (List.range (zs.length * 2)).map (wRel zs)
theorem iNews_cell {w : World} {a : Addr} {K : IntKind} {zs : List Int} (hA : IntsAt w (some a) K zs) (j : Nat) (u : Value) (h : (iNews K zs)[j]? = some u) : w.cell? (a.add j) = some u := by
  have hj : j < zs.length := by
    have := (List.getElem?_eq_some_iff.1 h).1; simpa [iNews] using this
  obtain ⟨b, e, c⟩ := hA j hj
  obtain rfl := Option.some.inj e
  rw [c, ← h]
  simp [iNews, hj, wInt]
theorem iNews_one (K : IntKind) (zs : List Int) : ∀ u ∈ iNews K zs, u.oneCell' = true := by
  intro u hu
  obtain ⟨i, _, rfl⟩ := List.mem_map.1 hu
  unfold wInt; split <;> rfl
theorem copywords_any (O : Option Addr) (ca : Nat) (zs : List Int) (w : World) (hA : IntsAt w O .u32 zs) (h0 : O = none → ca = 0) (hz : zs.length ≤ 1048576) :
    Calls Tryz.prog 68 #[.slice O zs.length ca] w fun e w' => CopyP 78 1 zs.length (iNews .u32 zs) w e w' := by
  obtain ⟨i0, hi, hz0, hz1, hz2⟩ := info45
  cases O with
  | none =>
    obtain rfl := h0 rfl
    have hl : zs.length = 0 := by
      cases zs with
      | nil => rfl
      | cons x t => obtain ⟨a, e, _⟩ := hA 0 (by simp); cases e
    have hn : iNews .u32 zs = [] := by unfold iNews; rw [hl]; rfl
    rw [hl, hn]
    have hr := run_append_owned_none (P := Tryz.prog) (w := w) w.heap.size 26 26 78 i0 1 Tryz.underlying26 hi (.slice none 0 0) 0 [] (World.ownsRow_nil w _ _ _)
    go_enter Tryz.func68, Tryz.ntmps68
    go_wp2
    go_ret
    exact copyP_mk rfl (World.ownsRow_nil w _ _ _) (World.grownBy.refl w _)
  | some a =>
    go_enter Tryz.func68, Tryz.ntmps68
    go_wp2_with (at_builtin; refine wpList_append_own _ rfl (.tmp 4) (.tmp 5) 26 rfl w.heap.size 78 i0 (.int .u32 0) 1 4 Tryz.underlying26 hi hz0 hz1 hz2 rfl (by decide) (.slice none 0 0) 0 [] rfl (World.ownsRow_nil w _ _ _) a zs.length ca (iNews .u32 zs) rfl (by simp [iNews]) (iNews_cell hA) (iNews_one _ _) (by unfold maxLen; omega) (by omega) (Nat.le_refl _) ?_; intro v' w' hown hgrow hnil)
    go_ret
    exact copyP_mk rfl (by simpa using hown) hgrow
theorem copylongs_any (O : Option Addr) (ca : Nat) (zs : List Int) (w : World) (hA : IntsAt w O .i64 zs) (h0 : O = none → ca = 0) (hz : zs.length ≤ 1048576) :
    Calls Tryz.prog 69 #[.slice O zs.length ca] w fun e w' => CopyP 2 1 zs.length (iNews .i64 zs) w e w' := by
  obtain ⟨i0, hi, hz0, hz1, hz2⟩ := info2
  cases O with
  | none =>
    obtain rfl := h0 rfl
    have hl : zs.length = 0 := by
      cases zs with
      | nil => rfl
      | cons x t => obtain ⟨a, e, _⟩ := hA 0 (by simp); cases e
    have hn : iNews .i64 zs = [] := by unfold iNews; rw [hl]; rfl
    rw [hl, hn]
    have hr := run_append_owned_none (P := Tryz.prog) (w := w) w.heap.size 27 27 2 i0 1 Tryz.underlying27 hi (.slice none 0 0) 0 [] (World.ownsRow_nil w _ _ _)
    go_enter Tryz.func69, Tryz.ntmps69
    go_wp2
    go_ret
    exact copyP_mk rfl (World.ownsRow_nil w _ _ _) (World.grownBy.refl w _)
  | some a =>
    go_enter Tryz.func69, Tryz.ntmps69
    go_wp2_with (at_builtin; refine wpList_append_own _ rfl (.tmp 4) (.tmp 5) 27 rfl w.heap.size 2 i0 (.int .i64 0) 1 8 Tryz.underlying27 hi hz0 hz1 hz2 rfl (by decide) (.slice none 0 0) 0 [] rfl (World.ownsRow_nil w _ _ _) a zs.length ca (iNews .i64 zs) rfl (by simp [iNews]) (iNews_cell hA) (iNews_one _ _) (by unfold maxLen; omega) (by omega) (Nat.le_refl _) ?_; intro v' w' hown hgrow hnil)
    go_ret
    exact copyP_mk rfl (by simpa using hown) hgrow
theorem sNews_cell {w : World} {a : Addr} {zs : List Sym} (hA : SymsAt w (some a) zs) (j : Nat) (u : Value) (h : (sNews zs)[j]? = some u) : w.cell? (a.add j) = some u := by
  have hj : j < zs.length * 3 := by
    have := (List.getElem?_eq_some_iff.1 h).1; simpa [sNews] using this
  have hu : wSym zs j = u := by simpa [sNews, hj] using h
  have hi : j / 3 < zs.length := by omega
  obtain ⟨b, e, c0, c1, c2⟩ := hA (j / 3) hi
  obtain rfl := Option.some.inj e
  rw [← hu]
  have hm : j % 3 = 0 ∨ j % 3 = 1 ∨ j % 3 = 2 := by omega
  rcases hm with m | m | m
  · have e : j = j / 3 * 3 := by omega
    rw [e, wSym_item0 zs (j / 3) hi]; exact c0
  · have e : j = j / 3 * 3 + 1 := by omega
    rw [e, wSym_item1 zs (j / 3) hi, ← Deep.add_add]; exact c1
  · have e : j = j / 3 * 3 + 2 := by omega
    rw [e, wSym_item2 zs (j / 3) hi, ← Deep.add_add]; exact c2
theorem sNews_one (zs : List Sym) : ∀ u ∈ sNews zs, u.oneCell' = true := by
  intro u hu
  obtain ⟨i, _, rfl⟩ := List.mem_map.1 hu
  unfold wSym; split <;> (split <;> (try split) <;> rfl)
theorem rNews_cell {w : World} {a : Addr} {zs : List Rel} (hA : RelsAt w (some a) zs) (j : Nat) (u : Value) (h : (rNews zs)[j]? = some u) : w.cell? (a.add j) = some u := by
  have hj : j < zs.length * 2 := by
    have := (List.getElem?_eq_some_iff.1 h).1; simpa [rNews] using this
  have hu : wRel zs j = u := by simpa [rNews, hj] using h
  have hi : j / 2 < zs.length := by omega
  obtain ⟨b, e, c0, c1⟩ := hA (j / 2) hi
  obtain rfl := Option.some.inj e
  rw [← hu]
  have hm : j % 2 = 0 ∨ j % 2 = 1 := by omega
  rcases hm with m | m
  · have e : j = j / 2 * 2 := by omega
    rw [e, wRel_item0 zs (j / 2) hi]; exact c0
  · have e : j = j / 2 * 2 + 1 := by omega
    rw [e, wRel_item1 zs (j / 2) hi, ← Deep.add_add]; exact c1
theorem rNews_one (zs : List Rel) : ∀ u ∈ rNews zs, u.oneCell' = true := by
  intro u hu
  obtain ⟨i, _, rfl⟩ := List.mem_map.1 hu
  unfold wRel; split <;> (split <;> rfl)
theorem copysym_any (O : Option Addr) (ca : Nat) (zs : List Sym) (w : World) (hA : SymsAt w O zs) (h0 : O = none → ca = 0) (hz : zs.length ≤ 1048576) :
    Calls Tryz.prog 75 #[.slice O zs.length ca] w fun e w' => CopyP 131 3 zs.length (sNews zs) w e w' := by
  obtain ⟨i0, hi, hz0, hz1, hz2⟩ := info42
  cases O with
  | none =>
    obtain rfl := h0 rfl
    have hl : zs.length = 0 := by
      cases zs with
      | nil => rfl
      | cons x t => obtain ⟨a, e, _⟩ := hA 0 (by simp); cases e
    have hn : sNews zs = [] := by unfold sNews; rw [hl]; rfl
    rw [hl, hn]
    have hr := run_append_owned_none (P := Tryz.prog) (w := w) w.heap.size 72 72 131 i0 3 Tryz.underlying72 hi (.slice none 0 0) 0 [] (World.ownsRow_nil w _ _ _)
    go_enter Tryz.func75, Tryz.ntmps75
    go_wp2
    go_ret
    exact copyP_mk rfl (World.ownsRow_nil w _ _ _) (World.grownBy.refl w _)
  | some a =>
    go_enter Tryz.func75, Tryz.ntmps75
    go_wp2_with (at_builtin; refine wpList_append_own _ rfl (.tmp 4) (.tmp 5) 72 rfl w.heap.size 131 i0 (.agg #[.string ⟨#[]⟩, .int .i8 0, .int .i64 0]) 3 32 Tryz.underlying72 hi hz0 hz1 hz2 rfl (by decide) (.slice none 0 0) 0 [] rfl (World.ownsRow_nil w _ _ _) a zs.length ca (sNews zs) rfl (by simp [sNews]) (sNews_cell hA) (sNews_one _) (by unfold maxLen; omega) (by omega) (Nat.le_refl _) ?_; intro v' w' hown hgrow hnil)
    go_ret
    exact copyP_mk rfl (by simpa using hown) hgrow
theorem copyrel_any (O : Option Addr) (ca : Nat) (zs : List Rel) (w : World) (hA : RelsAt w O zs) (h0 : O = none → ca = 0) (hz : zs.length ≤ 1048576) :
    Calls Tryz.prog 76 #[.slice O zs.length ca] w fun e w' => CopyP 83 2 zs.length (rNews zs) w e w' := by
  obtain ⟨i0, hi, hz0, hz1, hz2⟩ := info44
  cases O with
  | none =>
    obtain rfl := h0 rfl
    have hl : zs.length = 0 := by
      cases zs with
      | nil => rfl
      | cons x t => obtain ⟨a, e, _⟩ := hA 0 (by simp); cases e
    have hn : rNews zs = [] := by unfold rNews; rw [hl]; rfl
    rw [hl, hn]
    have hr := run_append_owned_none (P := Tryz.prog) (w := w) w.heap.size 73 73 83 i0 2 Tryz.underlying73 hi (.slice none 0 0) 0 [] (World.ownsRow_nil w _ _ _)
    go_enter Tryz.func76, Tryz.ntmps76
    go_wp2
    go_ret
    exact copyP_mk rfl (World.ownsRow_nil w _ _ _) (World.grownBy.refl w _)
  | some a =>
    go_enter Tryz.func76, Tryz.ntmps76
    go_wp2_with (at_builtin; refine wpList_append_own _ rfl (.tmp 4) (.tmp 5) 73 rfl w.heap.size 83 i0 (.agg #[.int .i64 0, .int .i64 0]) 2 16 Tryz.underlying73 hi hz0 hz1 hz2 rfl (by decide) (.slice none 0 0) 0 [] rfl (World.ownsRow_nil w _ _ _) a zs.length ca (rNews zs) rfl (by simp [rNews]) (rNews_cell hA) (rNews_one _) (by unfold maxLen; omega) (by omega) (Nat.le_refl _) ?_; intro v' w' hown hgrow hnil)
    go_ret
    exact copyP_mk rfl (by simpa using hown) hgrow
theorem gcell {w w' : World} (hg : w.grownBy w' none) {p : Addr} {v : Value} (hc : w.cell? p = some v) : w'.cell? p = some v := hg.cell hc (by simp)
theorem gfroz {w w' : World} (hg : w.grownBy w' none) {p : Addr} {v : Value} (hc : w.cell? p = some v) (hf : w.frozen? p = false) : w'.frozen? p = false := by
  rw [World.frozen?_of_block (hg.block p.block (World.block_lt_of_cell? w p hc) (by simp))]; exact hf
theorem scell_ne {w : World} {b i j : Nat} {v u : Value} (hij : ¬ i = j) (h : w.cell? ⟨b, j, none⟩ = some u) : (w.setCell ⟨b, i, none⟩ v).cell? ⟨b, j, none⟩ = some u := by
  rw [← h]; simp [go_sem]
theorem scell_eq {w : World} {b i : Nat} {v u : Value} (h : w.cell? ⟨b, i, none⟩ = some u) : (w.setCell ⟨b, i, none⟩ v).cell? ⟨b, i, none⟩ = some v := by
  simp [go_sem, h]
theorem scell_far {w : World} {b c i j : Nat} {v u : Value} (hbc : ¬ b = c) (h : w.cell? ⟨c, j, none⟩ = some u) : (w.setCell ⟨b, i, none⟩ v).cell? ⟨c, j, none⟩ = some u := by
  rw [← h]; simp [go_sem]
theorem sfroz {w : World} {b i : Nat} {v : Value} {q : Addr} (h : w.frozen? q = false) : (w.setCell ⟨b, i, none⟩ v).frozen? q = false := by
  rw [← h]; simp [go_sem]
theorem keepN {w w' : World} {base e sz : Nat} {v : Value} {n : Nat} {xs : List Value} (h : w.ownsRow base e sz v n xs) (hg : w.grownBy w' none) : w'.ownsRow base e sz v n xs := h.kept hg (by
  by_cases c : v.ownBlock = none
  · exact Or.inl c
  · exact Or.inr c)
theorem keepS {w w' : World} {base e sz b : Nat} {v : Value} {n : Nat} {xs : List Value} (h : w.ownsRow base e sz v n xs) (hg : w.grownBy w' (some b)) (hb : b < base) : w'.ownsRow base e sz v n xs := h.kept hg (Or.inr fun c => by
  have := (h.lt b c).1; omega)
theorem ownMono {w : World} {base base' e sz : Nat} {v : Value} {n : Nat} {xs : List Value} (h : w.ownsRow base e sz v n xs) (hb : base' ≤ base) : w.ownsRow base' e sz v n xs := ⟨h.1, h.2.imp id fun ⟨g, cap, cur, a, b, c⟩ => ⟨g, cap, cur, a, Nat.le_trans hb b, c⟩⟩
theorem gset (w : World) (b i : Nat) (v : Value) : w.grownBy (w.setCell ⟨b, i, none⟩ v) (some b) := Lib.grownBy_setB (World.grownBy.refl w _) i v
theorem below_growC {w w1 w2 : World} (h : Below w.heap.size w w1) (hg : w1.grownBy w2 none) : Below w.heap.size w w2 := h.grown hg h.size (fun k e => by cases e)
/-- How a copy of an object ends. -/
def CopyO (nm : ByteArray) (dA : Int) (code data : List Int) (ss : List Sym) (rs : List Rel) (w : World) (e : Ending) (w' : World) : Prop := ∃ (O1 O2 O3 O4 : Option Addr) (k1 k2 k3 k4 : Nat),
  e = .returned (.agg #[.string nm, .slice O1 code.length k1, .int .i64 dA, .slice O2 data.length k2, .slice O3 ss.length k3, .slice O4 rs.length k4]) ∧ Below w.heap.size w w' ∧
  w'.ownsRow w.heap.size 78 1 (.slice O1 code.length k1) code.length (iNews .u32 code) ∧ w'.ownsRow w.heap.size 2 1 (.slice O2 data.length k2) data.length (iNews .i64 data) ∧ w'.ownsRow w.heap.size 131 3 (.slice O3 ss.length k3) ss.length (sNews ss) ∧ w'.ownsRow w.heap.size 83 2 (.slice O4 rs.length k4) rs.length (rNews rs)
set_option maxRecDepth 100000 in
set_option maxHeartbeats 4000000 in
theorem copyobj_any (nm : ByteArray) (dA : Int) (A1 A2 A3 A4 : Option Addr) (c1 c2 c3 c4 : Nat) (code data : List Int) (ss : List Sym) (rs : List Rel) (w : World) (hC : IntsAt w A1 .u32 code) (hD : IntsAt w A2 .i64 data) (hS : SymsAt w A3 ss) (hL : RelsAt w A4 rs) (h01 : A1 = none → c1 = 0) (h02 : A2 = none → c2 = 0) (h03 : A3 = none → c3 = 0) (h04 : A4 = none → c4 = 0) (hc : code.length ≤ 1048576) (hd : data.length ≤ 1048576) (hs : ss.length ≤ 1048576) (hl : rs.length ≤ 1048576) :
    Calls Tryz.prog 24 #[.agg #[.string nm, .slice A1 code.length c1, .int .i64 dA, .slice A2 data.length c2, .slice A3 ss.length c3, .slice A4 rs.length c4]] w fun e w' => CopyO nm dA code data ss rs w e w' := by
  go_enter Tryz.func24, Tryz.ntmps24
  go_wp2_with fail
  refine (copywords_any A1 c1 code _ (hC.keep (lb_alloc (lb_alloc (Below.refl _ _) _) _)) h01 hc).mono ?_
  rintro e w1 ⟨O1, k1, rfl, hown1, hg1, hn1⟩
  have b10 : w1.cell? ⟨w.heap.size, 0, none⟩ = some (.string nm) := gcell hg1 (by simp [go_sem])
  have fb10 : w1.frozen? ⟨w.heap.size, 0, none⟩ = false := gfroz hg1 (v := .string nm) (by simp [go_sem]) (by simp [go_sem])
  have r10 : w1.cell? ⟨w.heap.size + 1, 0, none⟩ = some (.string ⟨#[]⟩) := gcell hg1 (by simp [go_sem])
  have fr10 : w1.frozen? ⟨w.heap.size + 1, 0, none⟩ = false := gfroz hg1 (v := .string ⟨#[]⟩) (by simp [go_sem]) (by simp [go_sem])
  have b11 : w1.cell? ⟨w.heap.size, 1, none⟩ = some (.slice A1 code.length c1) := gcell hg1 (by simp [go_sem])
  have fb11 : w1.frozen? ⟨w.heap.size, 1, none⟩ = false := gfroz hg1 (v := .slice A1 code.length c1) (by simp [go_sem]) (by simp [go_sem])
  have r11 : w1.cell? ⟨w.heap.size + 1, 1, none⟩ = some (.slice none 0 0) := gcell hg1 (by simp [go_sem])
  have fr11 : w1.frozen? ⟨w.heap.size + 1, 1, none⟩ = false := gfroz hg1 (v := .slice none 0 0) (by simp [go_sem]) (by simp [go_sem])
  have b12 : w1.cell? ⟨w.heap.size, 2, none⟩ = some (.int .i64 dA) := gcell hg1 (by simp [go_sem])
  have fb12 : w1.frozen? ⟨w.heap.size, 2, none⟩ = false := gfroz hg1 (v := .int .i64 dA) (by simp [go_sem]) (by simp [go_sem])
  have r12 : w1.cell? ⟨w.heap.size + 1, 2, none⟩ = some (.int .i64 0) := gcell hg1 (by simp [go_sem])
  have fr12 : w1.frozen? ⟨w.heap.size + 1, 2, none⟩ = false := gfroz hg1 (v := .int .i64 0) (by simp [go_sem]) (by simp [go_sem])
  have b13 : w1.cell? ⟨w.heap.size, 3, none⟩ = some (.slice A2 data.length c2) := gcell hg1 (by simp [go_sem])
  have fb13 : w1.frozen? ⟨w.heap.size, 3, none⟩ = false := gfroz hg1 (v := .slice A2 data.length c2) (by simp [go_sem]) (by simp [go_sem])
  have r13 : w1.cell? ⟨w.heap.size + 1, 3, none⟩ = some (.slice none 0 0) := gcell hg1 (by simp [go_sem])
  have fr13 : w1.frozen? ⟨w.heap.size + 1, 3, none⟩ = false := gfroz hg1 (v := .slice none 0 0) (by simp [go_sem]) (by simp [go_sem])
  have b14 : w1.cell? ⟨w.heap.size, 4, none⟩ = some (.slice A3 ss.length c3) := gcell hg1 (by simp [go_sem])
  have fb14 : w1.frozen? ⟨w.heap.size, 4, none⟩ = false := gfroz hg1 (v := .slice A3 ss.length c3) (by simp [go_sem]) (by simp [go_sem])
  have r14 : w1.cell? ⟨w.heap.size + 1, 4, none⟩ = some (.slice none 0 0) := gcell hg1 (by simp [go_sem])
  have fr14 : w1.frozen? ⟨w.heap.size + 1, 4, none⟩ = false := gfroz hg1 (v := .slice none 0 0) (by simp [go_sem]) (by simp [go_sem])
  have b15 : w1.cell? ⟨w.heap.size, 5, none⟩ = some (.slice A4 rs.length c4) := gcell hg1 (by simp [go_sem])
  have fb15 : w1.frozen? ⟨w.heap.size, 5, none⟩ = false := gfroz hg1 (v := .slice A4 rs.length c4) (by simp [go_sem]) (by simp [go_sem])
  have r15 : w1.cell? ⟨w.heap.size + 1, 5, none⟩ = some (.slice none 0 0) := gcell hg1 (by simp [go_sem])
  have fr15 : w1.frozen? ⟨w.heap.size + 1, 5, none⟩ = false := gfroz hg1 (v := .slice none 0 0) (by simp [go_sem]) (by simp [go_sem])
  have x10 : (w1.setCell ⟨w.heap.size, 1, none⟩ (.slice O1 code.length k1)).cell? ⟨w.heap.size, 0, none⟩ = some (.string nm) := scell_ne (by omega) b10
  have fx10 : (w1.setCell ⟨w.heap.size, 1, none⟩ (.slice O1 code.length k1)).frozen? ⟨w.heap.size, 0, none⟩ = false := sfroz fb10
  have y10 : (w1.setCell ⟨w.heap.size, 1, none⟩ (.slice O1 code.length k1)).cell? ⟨w.heap.size + 1, 0, none⟩ = some (.string ⟨#[]⟩) := scell_far (by omega) r10
  have fy10 : (w1.setCell ⟨w.heap.size, 1, none⟩ (.slice O1 code.length k1)).frozen? ⟨w.heap.size + 1, 0, none⟩ = false := sfroz fr10
  have x11 : (w1.setCell ⟨w.heap.size, 1, none⟩ (.slice O1 code.length k1)).cell? ⟨w.heap.size, 1, none⟩ = some (.slice O1 code.length k1) := scell_eq b11
  have fx11 : (w1.setCell ⟨w.heap.size, 1, none⟩ (.slice O1 code.length k1)).frozen? ⟨w.heap.size, 1, none⟩ = false := sfroz fb11
  have y11 : (w1.setCell ⟨w.heap.size, 1, none⟩ (.slice O1 code.length k1)).cell? ⟨w.heap.size + 1, 1, none⟩ = some (.slice none 0 0) := scell_far (by omega) r11
  have fy11 : (w1.setCell ⟨w.heap.size, 1, none⟩ (.slice O1 code.length k1)).frozen? ⟨w.heap.size + 1, 1, none⟩ = false := sfroz fr11
  have x12 : (w1.setCell ⟨w.heap.size, 1, none⟩ (.slice O1 code.length k1)).cell? ⟨w.heap.size, 2, none⟩ = some (.int .i64 dA) := scell_ne (by omega) b12
  have fx12 : (w1.setCell ⟨w.heap.size, 1, none⟩ (.slice O1 code.length k1)).frozen? ⟨w.heap.size, 2, none⟩ = false := sfroz fb12
  have y12 : (w1.setCell ⟨w.heap.size, 1, none⟩ (.slice O1 code.length k1)).cell? ⟨w.heap.size + 1, 2, none⟩ = some (.int .i64 0) := scell_far (by omega) r12
  have fy12 : (w1.setCell ⟨w.heap.size, 1, none⟩ (.slice O1 code.length k1)).frozen? ⟨w.heap.size + 1, 2, none⟩ = false := sfroz fr12
  have x13 : (w1.setCell ⟨w.heap.size, 1, none⟩ (.slice O1 code.length k1)).cell? ⟨w.heap.size, 3, none⟩ = some (.slice A2 data.length c2) := scell_ne (by omega) b13
  have fx13 : (w1.setCell ⟨w.heap.size, 1, none⟩ (.slice O1 code.length k1)).frozen? ⟨w.heap.size, 3, none⟩ = false := sfroz fb13
  have y13 : (w1.setCell ⟨w.heap.size, 1, none⟩ (.slice O1 code.length k1)).cell? ⟨w.heap.size + 1, 3, none⟩ = some (.slice none 0 0) := scell_far (by omega) r13
  have fy13 : (w1.setCell ⟨w.heap.size, 1, none⟩ (.slice O1 code.length k1)).frozen? ⟨w.heap.size + 1, 3, none⟩ = false := sfroz fr13
  have x14 : (w1.setCell ⟨w.heap.size, 1, none⟩ (.slice O1 code.length k1)).cell? ⟨w.heap.size, 4, none⟩ = some (.slice A3 ss.length c3) := scell_ne (by omega) b14
  have fx14 : (w1.setCell ⟨w.heap.size, 1, none⟩ (.slice O1 code.length k1)).frozen? ⟨w.heap.size, 4, none⟩ = false := sfroz fb14
  have y14 : (w1.setCell ⟨w.heap.size, 1, none⟩ (.slice O1 code.length k1)).cell? ⟨w.heap.size + 1, 4, none⟩ = some (.slice none 0 0) := scell_far (by omega) r14
  have fy14 : (w1.setCell ⟨w.heap.size, 1, none⟩ (.slice O1 code.length k1)).frozen? ⟨w.heap.size + 1, 4, none⟩ = false := sfroz fr14
  have x15 : (w1.setCell ⟨w.heap.size, 1, none⟩ (.slice O1 code.length k1)).cell? ⟨w.heap.size, 5, none⟩ = some (.slice A4 rs.length c4) := scell_ne (by omega) b15
  have fx15 : (w1.setCell ⟨w.heap.size, 1, none⟩ (.slice O1 code.length k1)).frozen? ⟨w.heap.size, 5, none⟩ = false := sfroz fb15
  have y15 : (w1.setCell ⟨w.heap.size, 1, none⟩ (.slice O1 code.length k1)).cell? ⟨w.heap.size + 1, 5, none⟩ = some (.slice none 0 0) := scell_far (by omega) r15
  have fy15 : (w1.setCell ⟨w.heap.size, 1, none⟩ (.slice O1 code.length k1)).frozen? ⟨w.heap.size + 1, 5, none⟩ = false := sfroz fr15
  have HB1 : Hid (Below w.heap.size w w1) := below_growC (lb_alloc (lb_alloc (Below.refl _ _) _) _) hg1
  have HX1 : Hid (Below w.heap.size w (w1.setCell ⟨w.heap.size, 1, none⟩ (.slice O1 code.length k1))) := HB1.out.setCell (Nat.le_refl _) _
  have hb1 : w.heap.size + 2 ≤ w1.heap.size := by have := hg1.size; simp at this; omega
  have HO11 : Hid (w1.ownsRow (w.heap.size + 2) 78 1 (.slice O1 code.length k1) code.length (iNews .u32 code)) := ownMono hown1 (by simp)
  have HP11 : Hid ((w1.setCell ⟨w.heap.size, 1, none⟩ (.slice O1 code.length k1)).ownsRow (w.heap.size + 2) 78 1 (.slice O1 code.length k1) code.length (iNews .u32 code)) := keepS HO11.out (gset _ _ _ _) (by omega)
  clear hown1 hg1 hn1
  go_wp2_with fail
  refine (copylongs_any A2 c2 data _ (hD.keep HX1.out) h02 hd).mono ?_
  rintro e w2 ⟨O2, k2, rfl, hown2, hg2, hn2⟩
  have b20 := gcell hg2 x10
  have fb20 := gfroz hg2 x10 fx10
  have r20 := gcell hg2 y10
  have fr20 := gfroz hg2 y10 fy10
  have b21 := gcell hg2 x11
  have fb21 := gfroz hg2 x11 fx11
  have r21 := gcell hg2 y11
  have fr21 := gfroz hg2 y11 fy11
  have b22 := gcell hg2 x12
  have fb22 := gfroz hg2 x12 fx12
  have r22 := gcell hg2 y12
  have fr22 := gfroz hg2 y12 fy12
  have b23 := gcell hg2 x13
  have fb23 := gfroz hg2 x13 fx13
  have r23 := gcell hg2 y13
  have fr23 := gfroz hg2 y13 fy13
  have b24 := gcell hg2 x14
  have fb24 := gfroz hg2 x14 fx14
  have r24 := gcell hg2 y14
  have fr24 := gfroz hg2 y14 fy14
  have b25 := gcell hg2 x15
  have fb25 := gfroz hg2 x15 fx15
  have r25 := gcell hg2 y15
  have fr25 := gfroz hg2 y15 fy15
  have x20 : (w2.setCell ⟨w.heap.size, 3, none⟩ (.slice O2 data.length k2)).cell? ⟨w.heap.size, 0, none⟩ = some (.string nm) := scell_ne (by omega) b20
  have fx20 : (w2.setCell ⟨w.heap.size, 3, none⟩ (.slice O2 data.length k2)).frozen? ⟨w.heap.size, 0, none⟩ = false := sfroz fb20
  have y20 : (w2.setCell ⟨w.heap.size, 3, none⟩ (.slice O2 data.length k2)).cell? ⟨w.heap.size + 1, 0, none⟩ = some (.string ⟨#[]⟩) := scell_far (by omega) r20
  have fy20 : (w2.setCell ⟨w.heap.size, 3, none⟩ (.slice O2 data.length k2)).frozen? ⟨w.heap.size + 1, 0, none⟩ = false := sfroz fr20
  have x21 : (w2.setCell ⟨w.heap.size, 3, none⟩ (.slice O2 data.length k2)).cell? ⟨w.heap.size, 1, none⟩ = some (.slice O1 code.length k1) := scell_ne (by omega) b21
  have fx21 : (w2.setCell ⟨w.heap.size, 3, none⟩ (.slice O2 data.length k2)).frozen? ⟨w.heap.size, 1, none⟩ = false := sfroz fb21
  have y21 : (w2.setCell ⟨w.heap.size, 3, none⟩ (.slice O2 data.length k2)).cell? ⟨w.heap.size + 1, 1, none⟩ = some (.slice none 0 0) := scell_far (by omega) r21
  have fy21 : (w2.setCell ⟨w.heap.size, 3, none⟩ (.slice O2 data.length k2)).frozen? ⟨w.heap.size + 1, 1, none⟩ = false := sfroz fr21
  have x22 : (w2.setCell ⟨w.heap.size, 3, none⟩ (.slice O2 data.length k2)).cell? ⟨w.heap.size, 2, none⟩ = some (.int .i64 dA) := scell_ne (by omega) b22
  have fx22 : (w2.setCell ⟨w.heap.size, 3, none⟩ (.slice O2 data.length k2)).frozen? ⟨w.heap.size, 2, none⟩ = false := sfroz fb22
  have y22 : (w2.setCell ⟨w.heap.size, 3, none⟩ (.slice O2 data.length k2)).cell? ⟨w.heap.size + 1, 2, none⟩ = some (.int .i64 0) := scell_far (by omega) r22
  have fy22 : (w2.setCell ⟨w.heap.size, 3, none⟩ (.slice O2 data.length k2)).frozen? ⟨w.heap.size + 1, 2, none⟩ = false := sfroz fr22
  have x23 : (w2.setCell ⟨w.heap.size, 3, none⟩ (.slice O2 data.length k2)).cell? ⟨w.heap.size, 3, none⟩ = some (.slice O2 data.length k2) := scell_eq b23
  have fx23 : (w2.setCell ⟨w.heap.size, 3, none⟩ (.slice O2 data.length k2)).frozen? ⟨w.heap.size, 3, none⟩ = false := sfroz fb23
  have y23 : (w2.setCell ⟨w.heap.size, 3, none⟩ (.slice O2 data.length k2)).cell? ⟨w.heap.size + 1, 3, none⟩ = some (.slice none 0 0) := scell_far (by omega) r23
  have fy23 : (w2.setCell ⟨w.heap.size, 3, none⟩ (.slice O2 data.length k2)).frozen? ⟨w.heap.size + 1, 3, none⟩ = false := sfroz fr23
  have x24 : (w2.setCell ⟨w.heap.size, 3, none⟩ (.slice O2 data.length k2)).cell? ⟨w.heap.size, 4, none⟩ = some (.slice A3 ss.length c3) := scell_ne (by omega) b24
  have fx24 : (w2.setCell ⟨w.heap.size, 3, none⟩ (.slice O2 data.length k2)).frozen? ⟨w.heap.size, 4, none⟩ = false := sfroz fb24
  have y24 : (w2.setCell ⟨w.heap.size, 3, none⟩ (.slice O2 data.length k2)).cell? ⟨w.heap.size + 1, 4, none⟩ = some (.slice none 0 0) := scell_far (by omega) r24
  have fy24 : (w2.setCell ⟨w.heap.size, 3, none⟩ (.slice O2 data.length k2)).frozen? ⟨w.heap.size + 1, 4, none⟩ = false := sfroz fr24
  have x25 : (w2.setCell ⟨w.heap.size, 3, none⟩ (.slice O2 data.length k2)).cell? ⟨w.heap.size, 5, none⟩ = some (.slice A4 rs.length c4) := scell_ne (by omega) b25
  have fx25 : (w2.setCell ⟨w.heap.size, 3, none⟩ (.slice O2 data.length k2)).frozen? ⟨w.heap.size, 5, none⟩ = false := sfroz fb25
  have y25 : (w2.setCell ⟨w.heap.size, 3, none⟩ (.slice O2 data.length k2)).cell? ⟨w.heap.size + 1, 5, none⟩ = some (.slice none 0 0) := scell_far (by omega) r25
  have fy25 : (w2.setCell ⟨w.heap.size, 3, none⟩ (.slice O2 data.length k2)).frozen? ⟨w.heap.size + 1, 5, none⟩ = false := sfroz fr25
  have HB2 : Hid (Below w.heap.size w w2) := below_growC HX1.out hg2
  have HX2 : Hid (Below w.heap.size w (w2.setCell ⟨w.heap.size, 3, none⟩ (.slice O2 data.length k2))) := HB2.out.setCell (Nat.le_refl _) _
  have hb2 : w.heap.size + 2 ≤ w2.heap.size := by have := hg2.size; simp at this; omega
  have HO22 : Hid (w2.ownsRow (w.heap.size + 2) 2 1 (.slice O2 data.length k2) data.length (iNews .i64 data)) := ownMono hown2 (by simp; omega)
  have HO21 : Hid (w2.ownsRow (w.heap.size + 2) 78 1 (.slice O1 code.length k1) code.length (iNews .u32 code)) := keepN HP11.out hg2
  have HP21 : Hid ((w2.setCell ⟨w.heap.size, 3, none⟩ (.slice O2 data.length k2)).ownsRow (w.heap.size + 2) 78 1 (.slice O1 code.length k1) code.length (iNews .u32 code)) := keepS HO21.out (gset _ _ _ _) (by omega)
  have HP22 : Hid ((w2.setCell ⟨w.heap.size, 3, none⟩ (.slice O2 data.length k2)).ownsRow (w.heap.size + 2) 2 1 (.slice O2 data.length k2) data.length (iNews .i64 data)) := keepS HO22.out (gset _ _ _ _) (by omega)
  clear hown2 hg2 hn2 x10 fx10 y10 fy10 b10 fb10 r10 fr10 x11 fx11 y11 fy11 b11 fb11 r11 fr11 x12 fx12 y12 fy12 b12 fb12 r12 fr12 x13 fx13 y13 fy13 b13 fb13 r13 fr13 x14 fx14 y14 fy14 b14 fb14 r14 fr14 x15 fx15 y15 fy15 b15 fb15 r15 fr15
  go_wp2_with fail
  refine (copysym_any A3 c3 ss _ (hS.keep HX2.out) h03 hs).mono ?_
  rintro e w3 ⟨O3, k3, rfl, hown3, hg3, hn3⟩
  have b30 := gcell hg3 x20
  have fb30 := gfroz hg3 x20 fx20
  have r30 := gcell hg3 y20
  have fr30 := gfroz hg3 y20 fy20
  have b31 := gcell hg3 x21
  have fb31 := gfroz hg3 x21 fx21
  have r31 := gcell hg3 y21
  have fr31 := gfroz hg3 y21 fy21
  have b32 := gcell hg3 x22
  have fb32 := gfroz hg3 x22 fx22
  have r32 := gcell hg3 y22
  have fr32 := gfroz hg3 y22 fy22
  have b33 := gcell hg3 x23
  have fb33 := gfroz hg3 x23 fx23
  have r33 := gcell hg3 y23
  have fr33 := gfroz hg3 y23 fy23
  have b34 := gcell hg3 x24
  have fb34 := gfroz hg3 x24 fx24
  have r34 := gcell hg3 y24
  have fr34 := gfroz hg3 y24 fy24
  have b35 := gcell hg3 x25
  have fb35 := gfroz hg3 x25 fx25
  have r35 := gcell hg3 y25
  have fr35 := gfroz hg3 y25 fy25
  have x30 : (w3.setCell ⟨w.heap.size, 4, none⟩ (.slice O3 ss.length k3)).cell? ⟨w.heap.size, 0, none⟩ = some (.string nm) := scell_ne (by omega) b30
  have fx30 : (w3.setCell ⟨w.heap.size, 4, none⟩ (.slice O3 ss.length k3)).frozen? ⟨w.heap.size, 0, none⟩ = false := sfroz fb30
  have y30 : (w3.setCell ⟨w.heap.size, 4, none⟩ (.slice O3 ss.length k3)).cell? ⟨w.heap.size + 1, 0, none⟩ = some (.string ⟨#[]⟩) := scell_far (by omega) r30
  have fy30 : (w3.setCell ⟨w.heap.size, 4, none⟩ (.slice O3 ss.length k3)).frozen? ⟨w.heap.size + 1, 0, none⟩ = false := sfroz fr30
  have x31 : (w3.setCell ⟨w.heap.size, 4, none⟩ (.slice O3 ss.length k3)).cell? ⟨w.heap.size, 1, none⟩ = some (.slice O1 code.length k1) := scell_ne (by omega) b31
  have fx31 : (w3.setCell ⟨w.heap.size, 4, none⟩ (.slice O3 ss.length k3)).frozen? ⟨w.heap.size, 1, none⟩ = false := sfroz fb31
  have y31 : (w3.setCell ⟨w.heap.size, 4, none⟩ (.slice O3 ss.length k3)).cell? ⟨w.heap.size + 1, 1, none⟩ = some (.slice none 0 0) := scell_far (by omega) r31
  have fy31 : (w3.setCell ⟨w.heap.size, 4, none⟩ (.slice O3 ss.length k3)).frozen? ⟨w.heap.size + 1, 1, none⟩ = false := sfroz fr31
  have x32 : (w3.setCell ⟨w.heap.size, 4, none⟩ (.slice O3 ss.length k3)).cell? ⟨w.heap.size, 2, none⟩ = some (.int .i64 dA) := scell_ne (by omega) b32
  have fx32 : (w3.setCell ⟨w.heap.size, 4, none⟩ (.slice O3 ss.length k3)).frozen? ⟨w.heap.size, 2, none⟩ = false := sfroz fb32
  have y32 : (w3.setCell ⟨w.heap.size, 4, none⟩ (.slice O3 ss.length k3)).cell? ⟨w.heap.size + 1, 2, none⟩ = some (.int .i64 0) := scell_far (by omega) r32
  have fy32 : (w3.setCell ⟨w.heap.size, 4, none⟩ (.slice O3 ss.length k3)).frozen? ⟨w.heap.size + 1, 2, none⟩ = false := sfroz fr32
  have x33 : (w3.setCell ⟨w.heap.size, 4, none⟩ (.slice O3 ss.length k3)).cell? ⟨w.heap.size, 3, none⟩ = some (.slice O2 data.length k2) := scell_ne (by omega) b33
  have fx33 : (w3.setCell ⟨w.heap.size, 4, none⟩ (.slice O3 ss.length k3)).frozen? ⟨w.heap.size, 3, none⟩ = false := sfroz fb33
  have y33 : (w3.setCell ⟨w.heap.size, 4, none⟩ (.slice O3 ss.length k3)).cell? ⟨w.heap.size + 1, 3, none⟩ = some (.slice none 0 0) := scell_far (by omega) r33
  have fy33 : (w3.setCell ⟨w.heap.size, 4, none⟩ (.slice O3 ss.length k3)).frozen? ⟨w.heap.size + 1, 3, none⟩ = false := sfroz fr33
  have x34 : (w3.setCell ⟨w.heap.size, 4, none⟩ (.slice O3 ss.length k3)).cell? ⟨w.heap.size, 4, none⟩ = some (.slice O3 ss.length k3) := scell_eq b34
  have fx34 : (w3.setCell ⟨w.heap.size, 4, none⟩ (.slice O3 ss.length k3)).frozen? ⟨w.heap.size, 4, none⟩ = false := sfroz fb34
  have y34 : (w3.setCell ⟨w.heap.size, 4, none⟩ (.slice O3 ss.length k3)).cell? ⟨w.heap.size + 1, 4, none⟩ = some (.slice none 0 0) := scell_far (by omega) r34
  have fy34 : (w3.setCell ⟨w.heap.size, 4, none⟩ (.slice O3 ss.length k3)).frozen? ⟨w.heap.size + 1, 4, none⟩ = false := sfroz fr34
  have x35 : (w3.setCell ⟨w.heap.size, 4, none⟩ (.slice O3 ss.length k3)).cell? ⟨w.heap.size, 5, none⟩ = some (.slice A4 rs.length c4) := scell_ne (by omega) b35
  have fx35 : (w3.setCell ⟨w.heap.size, 4, none⟩ (.slice O3 ss.length k3)).frozen? ⟨w.heap.size, 5, none⟩ = false := sfroz fb35
  have y35 : (w3.setCell ⟨w.heap.size, 4, none⟩ (.slice O3 ss.length k3)).cell? ⟨w.heap.size + 1, 5, none⟩ = some (.slice none 0 0) := scell_far (by omega) r35
  have fy35 : (w3.setCell ⟨w.heap.size, 4, none⟩ (.slice O3 ss.length k3)).frozen? ⟨w.heap.size + 1, 5, none⟩ = false := sfroz fr35
  have HB3 : Hid (Below w.heap.size w w3) := below_growC HX2.out hg3
  have HX3 : Hid (Below w.heap.size w (w3.setCell ⟨w.heap.size, 4, none⟩ (.slice O3 ss.length k3))) := HB3.out.setCell (Nat.le_refl _) _
  have hb3 : w.heap.size + 2 ≤ w3.heap.size := by have := hg3.size; simp at this; omega
  have HO33 : Hid (w3.ownsRow (w.heap.size + 2) 131 3 (.slice O3 ss.length k3) ss.length (sNews ss)) := ownMono hown3 (by simp; omega)
  have HO31 : Hid (w3.ownsRow (w.heap.size + 2) 78 1 (.slice O1 code.length k1) code.length (iNews .u32 code)) := keepN HP21.out hg3
  have HO32 : Hid (w3.ownsRow (w.heap.size + 2) 2 1 (.slice O2 data.length k2) data.length (iNews .i64 data)) := keepN HP22.out hg3
  have HP31 : Hid ((w3.setCell ⟨w.heap.size, 4, none⟩ (.slice O3 ss.length k3)).ownsRow (w.heap.size + 2) 78 1 (.slice O1 code.length k1) code.length (iNews .u32 code)) := keepS HO31.out (gset _ _ _ _) (by omega)
  have HP32 : Hid ((w3.setCell ⟨w.heap.size, 4, none⟩ (.slice O3 ss.length k3)).ownsRow (w.heap.size + 2) 2 1 (.slice O2 data.length k2) data.length (iNews .i64 data)) := keepS HO32.out (gset _ _ _ _) (by omega)
  have HP33 : Hid ((w3.setCell ⟨w.heap.size, 4, none⟩ (.slice O3 ss.length k3)).ownsRow (w.heap.size + 2) 131 3 (.slice O3 ss.length k3) ss.length (sNews ss)) := keepS HO33.out (gset _ _ _ _) (by omega)
  clear hown3 hg3 hn3 x20 fx20 y20 fy20 b20 fb20 r20 fr20 x21 fx21 y21 fy21 b21 fb21 r21 fr21 x22 fx22 y22 fy22 b22 fb22 r22 fr22 x23 fx23 y23 fy23 b23 fb23 r23 fr23 x24 fx24 y24 fy24 b24 fb24 r24 fr24 x25 fx25 y25 fy25 b25 fb25 r25 fr25
  go_wp2_with fail
  refine (copyrel_any A4 c4 rs _ (hL.keep HX3.out) h04 hl).mono ?_
  rintro e w4 ⟨O4, k4, rfl, hown4, hg4, hn4⟩
  have b40 := gcell hg4 x30
  have fb40 := gfroz hg4 x30 fx30
  have r40 := gcell hg4 y30
  have fr40 := gfroz hg4 y30 fy30
  have b41 := gcell hg4 x31
  have fb41 := gfroz hg4 x31 fx31
  have r41 := gcell hg4 y31
  have fr41 := gfroz hg4 y31 fy31
  have b42 := gcell hg4 x32
  have fb42 := gfroz hg4 x32 fx32
  have r42 := gcell hg4 y32
  have fr42 := gfroz hg4 y32 fy32
  have b43 := gcell hg4 x33
  have fb43 := gfroz hg4 x33 fx33
  have r43 := gcell hg4 y33
  have fr43 := gfroz hg4 y33 fy33
  have b44 := gcell hg4 x34
  have fb44 := gfroz hg4 x34 fx34
  have r44 := gcell hg4 y34
  have fr44 := gfroz hg4 y34 fy34
  have b45 := gcell hg4 x35
  have fb45 := gfroz hg4 x35 fx35
  have r45 := gcell hg4 y35
  have fr45 := gfroz hg4 y35 fy35
  have x40 : (w4.setCell ⟨w.heap.size, 5, none⟩ (.slice O4 rs.length k4)).cell? ⟨w.heap.size, 0, none⟩ = some (.string nm) := scell_ne (by omega) b40
  have fx40 : (w4.setCell ⟨w.heap.size, 5, none⟩ (.slice O4 rs.length k4)).frozen? ⟨w.heap.size, 0, none⟩ = false := sfroz fb40
  have y40 : (w4.setCell ⟨w.heap.size, 5, none⟩ (.slice O4 rs.length k4)).cell? ⟨w.heap.size + 1, 0, none⟩ = some (.string ⟨#[]⟩) := scell_far (by omega) r40
  have fy40 : (w4.setCell ⟨w.heap.size, 5, none⟩ (.slice O4 rs.length k4)).frozen? ⟨w.heap.size + 1, 0, none⟩ = false := sfroz fr40
  have x41 : (w4.setCell ⟨w.heap.size, 5, none⟩ (.slice O4 rs.length k4)).cell? ⟨w.heap.size, 1, none⟩ = some (.slice O1 code.length k1) := scell_ne (by omega) b41
  have fx41 : (w4.setCell ⟨w.heap.size, 5, none⟩ (.slice O4 rs.length k4)).frozen? ⟨w.heap.size, 1, none⟩ = false := sfroz fb41
  have y41 : (w4.setCell ⟨w.heap.size, 5, none⟩ (.slice O4 rs.length k4)).cell? ⟨w.heap.size + 1, 1, none⟩ = some (.slice none 0 0) := scell_far (by omega) r41
  have fy41 : (w4.setCell ⟨w.heap.size, 5, none⟩ (.slice O4 rs.length k4)).frozen? ⟨w.heap.size + 1, 1, none⟩ = false := sfroz fr41
  have x42 : (w4.setCell ⟨w.heap.size, 5, none⟩ (.slice O4 rs.length k4)).cell? ⟨w.heap.size, 2, none⟩ = some (.int .i64 dA) := scell_ne (by omega) b42
  have fx42 : (w4.setCell ⟨w.heap.size, 5, none⟩ (.slice O4 rs.length k4)).frozen? ⟨w.heap.size, 2, none⟩ = false := sfroz fb42
  have y42 : (w4.setCell ⟨w.heap.size, 5, none⟩ (.slice O4 rs.length k4)).cell? ⟨w.heap.size + 1, 2, none⟩ = some (.int .i64 0) := scell_far (by omega) r42
  have fy42 : (w4.setCell ⟨w.heap.size, 5, none⟩ (.slice O4 rs.length k4)).frozen? ⟨w.heap.size + 1, 2, none⟩ = false := sfroz fr42
  have x43 : (w4.setCell ⟨w.heap.size, 5, none⟩ (.slice O4 rs.length k4)).cell? ⟨w.heap.size, 3, none⟩ = some (.slice O2 data.length k2) := scell_ne (by omega) b43
  have fx43 : (w4.setCell ⟨w.heap.size, 5, none⟩ (.slice O4 rs.length k4)).frozen? ⟨w.heap.size, 3, none⟩ = false := sfroz fb43
  have y43 : (w4.setCell ⟨w.heap.size, 5, none⟩ (.slice O4 rs.length k4)).cell? ⟨w.heap.size + 1, 3, none⟩ = some (.slice none 0 0) := scell_far (by omega) r43
  have fy43 : (w4.setCell ⟨w.heap.size, 5, none⟩ (.slice O4 rs.length k4)).frozen? ⟨w.heap.size + 1, 3, none⟩ = false := sfroz fr43
  have x44 : (w4.setCell ⟨w.heap.size, 5, none⟩ (.slice O4 rs.length k4)).cell? ⟨w.heap.size, 4, none⟩ = some (.slice O3 ss.length k3) := scell_ne (by omega) b44
  have fx44 : (w4.setCell ⟨w.heap.size, 5, none⟩ (.slice O4 rs.length k4)).frozen? ⟨w.heap.size, 4, none⟩ = false := sfroz fb44
  have y44 : (w4.setCell ⟨w.heap.size, 5, none⟩ (.slice O4 rs.length k4)).cell? ⟨w.heap.size + 1, 4, none⟩ = some (.slice none 0 0) := scell_far (by omega) r44
  have fy44 : (w4.setCell ⟨w.heap.size, 5, none⟩ (.slice O4 rs.length k4)).frozen? ⟨w.heap.size + 1, 4, none⟩ = false := sfroz fr44
  have x45 : (w4.setCell ⟨w.heap.size, 5, none⟩ (.slice O4 rs.length k4)).cell? ⟨w.heap.size, 5, none⟩ = some (.slice O4 rs.length k4) := scell_eq b45
  have fx45 : (w4.setCell ⟨w.heap.size, 5, none⟩ (.slice O4 rs.length k4)).frozen? ⟨w.heap.size, 5, none⟩ = false := sfroz fb45
  have y45 : (w4.setCell ⟨w.heap.size, 5, none⟩ (.slice O4 rs.length k4)).cell? ⟨w.heap.size + 1, 5, none⟩ = some (.slice none 0 0) := scell_far (by omega) r45
  have fy45 : (w4.setCell ⟨w.heap.size, 5, none⟩ (.slice O4 rs.length k4)).frozen? ⟨w.heap.size + 1, 5, none⟩ = false := sfroz fr45
  have HB4 : Hid (Below w.heap.size w w4) := below_growC HX3.out hg4
  have HX4 : Hid (Below w.heap.size w (w4.setCell ⟨w.heap.size, 5, none⟩ (.slice O4 rs.length k4))) := HB4.out.setCell (Nat.le_refl _) _
  have hb4 : w.heap.size + 2 ≤ w4.heap.size := by have := hg4.size; simp at this; omega
  have HO44 : Hid (w4.ownsRow (w.heap.size + 2) 83 2 (.slice O4 rs.length k4) rs.length (rNews rs)) := ownMono hown4 (by simp; omega)
  have HO41 : Hid (w4.ownsRow (w.heap.size + 2) 78 1 (.slice O1 code.length k1) code.length (iNews .u32 code)) := keepN HP31.out hg4
  have HO42 : Hid (w4.ownsRow (w.heap.size + 2) 2 1 (.slice O2 data.length k2) data.length (iNews .i64 data)) := keepN HP32.out hg4
  have HO43 : Hid (w4.ownsRow (w.heap.size + 2) 131 3 (.slice O3 ss.length k3) ss.length (sNews ss)) := keepN HP33.out hg4
  have HP41 : Hid ((w4.setCell ⟨w.heap.size, 5, none⟩ (.slice O4 rs.length k4)).ownsRow (w.heap.size + 2) 78 1 (.slice O1 code.length k1) code.length (iNews .u32 code)) := keepS HO41.out (gset _ _ _ _) (by omega)
  have HP42 : Hid ((w4.setCell ⟨w.heap.size, 5, none⟩ (.slice O4 rs.length k4)).ownsRow (w.heap.size + 2) 2 1 (.slice O2 data.length k2) data.length (iNews .i64 data)) := keepS HO42.out (gset _ _ _ _) (by omega)
  have HP43 : Hid ((w4.setCell ⟨w.heap.size, 5, none⟩ (.slice O4 rs.length k4)).ownsRow (w.heap.size + 2) 131 3 (.slice O3 ss.length k3) ss.length (sNews ss)) := keepS HO43.out (gset _ _ _ _) (by omega)
  have HP44 : Hid ((w4.setCell ⟨w.heap.size, 5, none⟩ (.slice O4 rs.length k4)).ownsRow (w.heap.size + 2) 83 2 (.slice O4 rs.length k4) rs.length (rNews rs)) := keepS HO44.out (gset _ _ _ _) (by omega)
  clear hown4 hg4 hn4 x30 fx30 y30 fy30 b30 fb30 r30 fr30 x31 fx31 y31 fy31 b31 fb31 r31 fr31 x32 fx32 y32 fy32 b32 fb32 r32 fr32 x33 fx33 y33 fy33 b33 fb33 r33 fr33 x34 fx34 y34 fy34 b34 fb34 r34 fr34 x35 fx35 y35 fy35 b35 fb35 r35 fr35
  go_wp2
  exact bodyPost_ret (v := .agg #[.string nm, .slice O1 code.length k1, .int .i64 dA, .slice O2 data.length k2, .slice O3 ss.length k3, .slice O4 rs.length k4]) (by simp [results, Tryz.results24, go_sem, y40, y41, y42, y43, y44, y45]) rfl ⟨O1, O2, O3, O4, k1, k2, k3, k4, rfl, ((((((HX4.out.setCell (Nat.le_succ _) _).setCell (Nat.le_succ _) _).setCell (Nat.le_succ _) _).setCell (Nat.le_succ _) _).setCell (Nat.le_succ _) _).setCell (Nat.le_succ _) _), ownMono (keepS HP41.out (Lib.grownBy_setB (Lib.grownBy_setB (Lib.grownBy_setB (Lib.grownBy_setB (Lib.grownBy_setB (gset _ _ _ _) _ _) _ _) _ _) _ _) _ _) (by omega)) (by omega), ownMono (keepS HP42.out (Lib.grownBy_setB (Lib.grownBy_setB (Lib.grownBy_setB (Lib.grownBy_setB (Lib.grownBy_setB (gset _ _ _ _) _ _) _ _) _ _) _ _) _ _) (by omega)) (by omega), ownMono (keepS HP43.out (Lib.grownBy_setB (Lib.grownBy_setB (Lib.grownBy_setB (Lib.grownBy_setB (Lib.grownBy_setB (gset _ _ _ _) _ _) _ _) _ _) _ _) _ _) (by omega)) (by omega), ownMono (keepS HP44.out (Lib.grownBy_setB (Lib.grownBy_setB (Lib.grownBy_setB (Lib.grownBy_setB (Lib.grownBy_setB (gset _ _ _ _) _ _) _ _) _ _) _ _) _ _) (by omega)) (by omega)⟩






end Go.Proofs.YthpkekpojhmaaaaGreatDoor

namespace Go.Proofs.YthpkekpojhmaaaaGreatDoor
open Go.RowKit

theorem own_any {w : World} {base : Nat} {e : TypeId} {size : Nat} {v : Value} {n : Nat} {xs : List Value} (h : w.ownsRow base e size v n xs) : ∃ A c, v = .slice A n c ∧ n ≤ c := by
  rcases h.2 with ⟨rfl, rfl⟩ | ⟨g, cap, cur, rfl, _, _, hc, _⟩
  · exact ⟨none, 0, rfl, Nat.le_refl _⟩
  · exact ⟨_, _, rfl, hc⟩

theorem sNews_get {l : List Sym} {i : Nat} (h : i < l.length) : (sNews l)[i * 3]? = some (.string (sName l i)) ∧ (sNews l)[i * 3 + 1]? = some (.int .i8 (sKind l i)) ∧ (sNews l)[i * 3 + 2]? = some (.int .i64 (sAt l i)) := by
  refine ⟨?_, ?_, ?_⟩
  · rw [sNews, List.getElem?_map, List.getElem?_range (by omega)]
    simp only [Option.map_some, wSym]
    rw [show i * 3 / 3 = i by omega, show i * 3 % 3 = 0 by omega, if_pos h]
    rfl
  · rw [sNews, List.getElem?_map, List.getElem?_range (by omega)]
    simp only [Option.map_some, wSym]
    rw [show (i * 3 + 1) / 3 = i by omega, show (i * 3 + 1) % 3 = 1 by omega, if_pos h]
    rfl
  · rw [sNews, List.getElem?_map, List.getElem?_range (by omega)]
    simp only [Option.map_some, wSym]
    rw [show (i * 3 + 2) / 3 = i by omega, show (i * 3 + 2) % 3 = 2 by omega, if_pos h]
    rfl
theorem rNews_get {l : List Rel} {i : Nat} (h : i < l.length) : (rNews l)[i * 2]? = some (.int .i64 (rAt l i)) ∧ (rNews l)[i * 2 + 1]? = some (.int .i64 (rSym l i)) := by
  refine ⟨?_, ?_⟩
  · rw [rNews, List.getElem?_map, List.getElem?_range (by omega)]
    simp only [Option.map_some, wRel]
    rw [show i * 2 / 2 = i by omega, show i * 2 % 2 = 0 by omega, if_pos h]
    rfl
  · rw [rNews, List.getElem?_map, List.getElem?_range (by omega)]
    simp only [Option.map_some, wRel]
    rw [show (i * 2 + 1) / 2 = i by omega, show (i * 2 + 1) % 2 = 1 by omega, if_pos h]
    rfl

theorem iNews_get {K : IntKind} {l : List Int} {i : Nat} (h : i < l.length) : (iNews K l)[i]? = some (.int K (nth l i)) := by
  simp [iNews, h, wInt]
theorem nrow_ints {w : World} {base c n : Nat} {e : TypeId} {A : Option Addr} {K : IntKind} {l : List Int} (h : w.ownsRow base e 1 (.slice A n c) l.length (iNews K l)) : IntsAt w A K l := fun i hi => by
  rcases h.2 with ⟨_, h0⟩ | ⟨j, cap, cur, hv, hb, hg, hc, _⟩
  · omega
  · cases hv
    exact ⟨_, rfl, h.cells rfl _ _ (iNews_get hi)⟩
theorem nrow_syms {w : World} {base c n : Nat} {e : TypeId} {A : Option Addr} {l : List Sym} (h : w.ownsRow base e 3 (.slice A n c) l.length (sNews l)) : SymsAt w A l := fun i hi => by
  rcases h.2 with ⟨_, h0⟩ | ⟨j, cap, cur, hv, hb, hg, hc, _⟩
  · omega
  · cases hv
    obtain ⟨a, b, d⟩ := sNews_get hi
    exact ⟨_, rfl, h.cells rfl _ _ a, by rw [Deep.add_add]; exact h.cells rfl _ _ b, by rw [Deep.add_add]; exact h.cells rfl _ _ d⟩
theorem nrow_rels {w : World} {base c n : Nat} {e : TypeId} {A : Option Addr} {l : List Rel} (h : w.ownsRow base e 2 (.slice A n c) l.length (rNews l)) : RelsAt w A l := fun i hi => by
  rcases h.2 with ⟨_, h0⟩ | ⟨j, cap, cur, hv, hb, hg, hc, _⟩
  · omega
  · cases hv
    obtain ⟨a, b⟩ := rNews_get hi
    exact ⟨_, rfl, h.cells rfl _ _ a, by rw [Deep.add_add]; exact h.cells rfl _ _ b⟩
/-- No list that is none has room. -/
def NoneO (p : Pl) : Prop := (p.A1 = none → p.c1 = 0) ∧ (p.A2 = none → p.c2 = 0) ∧ (p.A3 = none → p.c3 = 0) ∧ (p.A4 = none → p.c4 = 0)
theorem copyob_any (o : Ob) (p : Pl) (w : World) (h : ObIn w p o) (h0 : NoneO p) :
    Calls Tryz.prog 24 #[.agg #[.string o.nm, .slice p.A1 o.code.length p.c1, .int .i64 o.dA, .slice p.A2 o.data.length p.c2, .slice p.A3 o.ss.length p.c3, .slice p.A4 o.rs.length p.c4]] w fun e w' => ∃ p' : Pl, e = .returned (.agg #[.string o.nm, .slice p'.A1 o.code.length p'.c1, .int .i64 o.dA, .slice p'.A2 o.data.length p'.c2, .slice p'.A3 o.ss.length p'.c3, .slice p'.A4 o.rs.length p'.c4]) ∧ Below w.heap.size w w' ∧ ObIn w' p' o := by
  refine (copyobj_any o.nm o.dA p.A1 p.A2 p.A3 p.A4 p.c1 p.c2 p.c3 p.c4 o.code o.data o.ss o.rs w h.cd h.dt h.sy h.rl h0.1 h0.2.1 h0.2.2.1 h0.2.2.2 h.hc h.hd h.hs h.hl).mono ?_
  rintro e w' ⟨O1, O2, O3, O4, k1, k2, k3, k4, rfl, hb, r1, r2, r3, r4⟩
  obtain ⟨_, c, e4, h4⟩ := own_any r4
  refine ⟨⟨O1, O2, O3, O4, k1, k2, k3, k4⟩, rfl, hb, ⟨nrow_ints r1, nrow_ints r2, nrow_syms r3, nrow_rels r4, h.cr, h.dr, h.da, h.hc, h.hd, h.hs, h.hl, h.hN, ?_⟩⟩
  cases e4
  exact h4




end Go.Proofs.YthpkekpojhmaaaaGreatDoor

namespace Go.Proofs.YthpkekpojhmaaaaGreatDoor
open Go.RowKit

/-- The cells of a list of places. -/
def dNews : List Rel → List Value
  | [] => []
  | x :: l => .int .i64 x.1 :: .int .i64 x.2 :: dNews l
theorem dNews_append : ∀ a b : List Rel, dNews (a ++ b) = dNews a ++ dNews b
  | [], _ => rfl
  | x :: a, b => by rw [List.cons_append, dNews, dNews, dNews_append a b]; rfl
theorem dNews_snoc (a : List Rel) (x : Rel) : dNews (a ++ [x]) = dNews a ++ [.int .i64 x.1, .int .i64 x.2] := dNews_append a [x]
theorem dNews_get : ∀ {l : List Rel} {i : Nat}, i < l.length → (dNews l)[i * 2]? = some (.int .i64 (rAt l i)) ∧ (dNews l)[i * 2 + 1]? = some (.int .i64 (rSym l i))
  | [], _, h => absurd h (Nat.not_lt_zero _)
  | x :: l, 0, _ => ⟨rfl, rfl⟩
  | x :: l, i + 1, h => by
    have := dNews_get (l := l) (i := i) (by simpa using h)
    rw [show (i + 1) * 2 = i * 2 + 1 + 1 by omega]
    exact this
theorem drow_rels {w : World} {base c n : Nat} {e : TypeId} {A : Option Addr} {l : List Rel} (h : w.ownsRow base e 2 (.slice A n c) l.length (dNews l)) : RelsAt w A l := fun i hi => by
  rcases h.2 with ⟨_, h0⟩ | ⟨j, cap, cur, hv, hb, hg, hc, _⟩
  · omega
  · cases hv
    obtain ⟨a, b⟩ := dNews_get hi
    exact ⟨_, rfl, h.cells rfl _ _ a, by rw [Deep.add_add]; exact h.cells rfl _ _ b⟩
theorem own_keep {w w1 : World} {b t size n : Nat} {v : Value} {xs : List Value} (h : w.ownsRow b t size v n xs) (hb : Below w.heap.size w w1) : w1.ownsRow b t size v n xs := by
  refine h.kept (row := none) ⟨hb.os, hb.tape, hb.output, hb.size, fun k hk _ => hb.block k hk⟩ ?_
  cases hv : v.ownBlock <;> simp
theorem own_base {w : World} {b c t size n : Nat} {v : Value} {xs : List Value} (h : w.ownsRow b t size v n xs) (hc : c ≤ b) : w.ownsRow c t size v n xs := by
  refine ⟨h.1, ?_⟩
  rcases h.2 with h | ⟨g, cap, cur, e, hb, rest⟩
  · exact .inl h
  · exact .inr ⟨g, cap, cur, e, by omega, rest⟩
/-- A list of lists. -/
def rowN (rows : List (List Rel)) (i : Nat) : List Rel := rows.getD i []
structure RowsD (w : World) (base : Nat) (TS TD : TypeId) (V : Value) (vs : List Value) (rows : List (List Rel)) : Prop where
  bag : w.ownsRow base TS 1 V rows.length vs
  row : ∀ i, i < rows.length → w.ownsRow base TD 2 (vn vs i) (rowN rows i).length (dNews (rowN rows i))
theorem RowsD.nil (w : World) (base : Nat) (TS TD : TypeId) : RowsD w base TS TD (.slice none 0 0) [] [] := ⟨World.ownsRow_nil _ _ _ _, fun _i hi => absurd hi (Nat.not_lt_zero _)⟩
theorem RowsD.keep {w w1 : World} {base : Nat} {TS TD : TypeId} {V : Value} {vs : List Value} {rows : List (List Rel)} (h : RowsD w base TS TD V vs rows) (hb : Below w.heap.size w w1) : RowsD w1 base TS TD V vs rows := ⟨own_keep h.bag hb, fun i hi => own_keep (h.row i hi) hb⟩
theorem RowsD.len {w : World} {base : Nat} {TS TD : TypeId} {V : Value} {vs : List Value} {rows : List (List Rel)} (h : RowsD w base TS TD V vs rows) : vs.length = rows.length := by have := h.bag.1; omega
/-- One row more. -/
theorem RowsD.add {w w1 : World} {base : Nat} {TS TD : TypeId} {V V1 r : Value} {vs : List Value} {rows : List (List Rel)} {row : List Rel} (hT : TS ≠ TD) (h : RowsD w base TS TD V vs rows) (hr : w.ownsRow base TD 2 r row.length (dNews row)) (h1 : w1.ownsRow base TS 1 V1 (rows.length + 1) (vs ++ [r])) (hg : w.grownBy w1 V.ownBlock) : RowsD w1 base TS TD V1 (vs ++ [r]) (rows ++ [row]) := by
  refine ⟨by simpa using h1, fun i hi => ?_⟩
  have hl := h.len
  by_cases he : i < rows.length
  · have a : vn (vs ++ [r]) i = vn vs i := vn_old vs r i (by omega)
    have b : rowN (rows ++ [row]) i = rowN rows i := by
      unfold rowN
      rw [List.getD_eq_getElem?_getD, List.getD_eq_getElem?_getD, List.getElem?_append_left he]
    rw [a, b]
    exact own_other (h.row i he) hg (own_not h.bag hT)
  · have hi' : i = rows.length := by simp at hi; omega
    subst hi'
    have a : vn (vs ++ [r]) rows.length = r := by rw [← hl]; exact vn_last vs r
    have b : rowN (rows ++ [row]) rows.length = row := by simp [rowN]
    rw [a, b]
    exact own_other hr hg (own_not h.bag hT)
/-- What lies at a place of the list of lists. -/
theorem RowsD.at {w : World} {base c : Nat} {TS TD : TypeId} {A : Option Addr} {n : Nat} {vs : List Value} {rows : List (List Rel)} (h : RowsD w base TS TD (.slice A n c) vs rows) (i : Nat) (hi : i < rows.length) : ∃ (a : Addr) (R : Option Addr) (k : Nat), A = some a ∧ w.cell? (a.add i) = some (.slice R (rowN rows i).length k) ∧ RelsAt w R (rowN rows i) := by
  obtain ⟨R, k, e, _⟩ := own_any (h.row i hi)
  have hr := h.row i hi
  rw [e] at hr
  rcases h.bag.2 with ⟨_, h0⟩ | ⟨j, cap, cur, hv, hb, hg, hc, _⟩
  · omega
  · cases hv
    refine ⟨_, R, k, rfl, ?_, drow_rels hr⟩
    have hl := h.len
    have : vs[i]? = some (vn vs i) := by
      unfold vn
      rw [List.getElem?_eq_getElem (by omega), List.getD_eq_getElem?_getD, List.getElem?_eq_getElem (by omega)]
      rfl
    rw [e] at this
    exact h.bag.cells rfl _ _ this
/-- What a symbol stands for. -/
def standS (l : List Ob) (i k : Nat) : Rel := if (sKind (ob l i).ss k != 0) = true then ((dfI (findF (sName (ob l i).ss k) l) : Int), dfA (findF (sName (ob l i).ss k) l)) else ((i : Int), sAt (ob l i).ss k)
def rowT (l : List Ob) (i k : Nat) : List Rel := (List.range k).map (standS l i)
def rowsT (l : List Ob) (k : Nat) : List (List Rel) := (List.range k).map fun i => rowT l i (ob l i).ss.length
theorem rowT_succ (l : List Ob) (i k : Nat) : rowT l i (k + 1) = rowT l i k ++ [standS l i k] := by simp [rowT, List.range_succ]
theorem rowT_len (l : List Ob) (i k : Nat) : (rowT l i k).length = k := by simp [rowT]
theorem rowsT_succ (l : List Ob) (k : Nat) : rowsT l (k + 1) = rowsT l k ++ [rowT l k (ob l k).ss.length] := by simp [rowsT, List.range_succ]
theorem rowsT_len (l : List Ob) (k : Nat) : (rowsT l k).length = k := by simp [rowsT]
theorem rowsT_at (l : List Ob) {k i : Nat} (h : i < k) : rowN (rowsT l k) i = rowT l i (ob l i).ss.length := by simp [rowN, rowsT, h]
/-- Resolve's error, its answer. -/
def resE (l : List Ob) : Option (Int × Int × Int) := match chkL l with
  | some x => some x
  | none => namL l
def resL (l : List Ob) : List (List Rel) := match resE l with
  | some _ => []
  | none => rowsT l l.length
/-- An answer of Resolve. -/
def ResP (TS TD : TypeId) (l : List Ob) (w : World) (e : Ending) (w' : World) : Prop :=
  ∃ (A : Option Addr) (c : Nat) (vs : List Value), e = .returned (.tuple #[.slice A (resL l).length c, .int .i64 (t1 (resE l)), .int .i64 (t2 (resE l)), .int .i64 (t3 (resE l))]) ∧ RowsD w' w.heap.size TS TD (.slice A (resL l).length c) vs (resL l) ∧ Below w.heap.size w w'



end Go.Proofs.YthpkekpojhmaaaaGreatDoor

namespace Go.Proofs.YthpkekpojhmaaaaGreatDoor
open Go.RowKit

/-- A row's first symbol of a name and kind, the whole list's. -/
def rowW (nm : ByteArray) (kd : Int) (l : List Ob) (i : Nat) : Option (Nat × Int) := (rowF nm kd (ob l i).ss (ob l i).ss.length).map fun a => (i, a)
theorem fst_same {β : Type} {f g : Nat → Option β} : ∀ {n : Nat}, (∀ j, j < n → f j = g j) → fstN f n = fstN g n
  | 0, _ => rfl
  | n + 1, h => by
    rw [fstN, fstN, fst_same (fun j hj => h j (by omega)), h n (by omega)]
theorem first_whole (nm : ByteArray) (kd : Int) (l : List Ob) : firstF nm kd l l.length 0 = fstN (rowW nm kd l) l.length := by
  unfold firstF
  rw [show min l.length (l.length + 1) = l.length by omega]
  refine fst_same fun j hj => ?_
  unfold hitO rowW upTo
  rw [if_neg (by omega)]
theorem rowF_some {nm : ByteArray} {kd : Int} {ss : List Sym} {n : Nat} {a : Int} (h : rowF nm kd ss n = some a) : ∃ k, k < n ∧ (sName ss k).toList = nm.toList ∧ sKind ss k = kd ∧ a = sAt ss k := by
  obtain ⟨k, hk, e, _⟩ := fst_some h
  unfold hitS at e
  split at e
  · next hc =>
    cases e
    exact ⟨k, hk, by simpa using hc.1, by simpa using hc.2, rfl⟩
  · cases e
theorem rowW_some {nm : ByteArray} {kd : Int} {l : List Ob} {i : Nat} {x : Nat × Int} (h : rowW nm kd l i = some x) : x.1 = i ∧ ∃ k, k < (ob l i).ss.length ∧ (sName (ob l i).ss k).toList = nm.toList ∧ sKind (ob l i).ss k = kd ∧ x.2 = sAt (ob l i).ss k := by
  unfold rowW at h
  cases hr : rowF nm kd (ob l i).ss (ob l i).ss.length with
  | none => rw [hr] at h; cases h
  | some a =>
    rw [hr] at h
    cases h
    exact ⟨rfl, rowF_some hr⟩
theorem findF_some {nm : ByteArray} {l : List Ob} {x : Nat × Int} (h : findF nm l = some x) : x.1 < l.length ∧ ∃ k, k < (ob l x.1).ss.length ∧ x.2 = sAt (ob l x.1).ss k := by
  have main : ∀ kd, fstN (rowW nm kd l) l.length = some x → x.1 < l.length ∧ ∃ k, k < (ob l x.1).ss.length ∧ x.2 = sAt (ob l x.1).ss k := fun kd e => by
    obtain ⟨i, hi, hr, _⟩ := fst_some e
    obtain ⟨e1, k, hk, _, _, e2⟩ := rowW_some hr
    rw [e1]
    exact ⟨hi, k, hk, e2⟩
  unfold findF at h
  rw [first_whole, first_whole] at h
  split at h
  · next hf => cases h; exact main 1 hf
  · exact main 2 h
/-- Objects that resolve. -/
structure Res (l : List Ob) : Prop where
  few : l.length ≤ 32
  may : ∀ i, i < l.length → MayBe (ob l i).nm (ob l i).code (ob l i).dA (ob l i).data.length (ob l i).ss (ob l i).rs
  own : ∀ i, i < l.length → ∀ k, k < i → (ob l k).nm.toList ≠ (ob l i).nm.toList
  tw : ∀ i, i < l.length → ∀ k, k < (ob l i).ss.length → twS l i k = none
  un : ∀ i, i < l.length → ∀ k, k < (ob l i).ss.length → unS l i k = none
theorem res_ok {l : List Ob} (h : resE l = none) : Res l := by
  unfold resE at h
  cases hc : chkL l with
  | some x => rw [hc] at h; cases h
  | none =>
    rw [hc] at h
    unfold chkL at hc
    split at hc
    · cases hc
    · next hf =>
      have hb := fst_no hc
      unfold namL at h
      cases ht : fstN (twO l) l.length with
      | some x => rw [ht] at h; cases h
      | none =>
        rw [ht] at h
        have hE : ∀ i, i < l.length → (obC (ob l i)).1 = 0 ∧ fstN (sameN l i) i = none := fun i hi => by
          have := hb i hi
          unfold badO at this
          split at this
          · next e =>
            split at this
            · cases this
            · next e2 => exact ⟨e, e2⟩
          · cases this
        refine ⟨by omega, fun i hi => check_may (hE i hi).1, fun i hi k hk e => ?_, fun i hi k hk => fst_no (fst_no ht i hi) k hk, fun i hi k hk => fst_no (fst_no h i hi) k hk⟩
        have := fst_no (hE i hi).2 k hk
        unfold sameN at this
        rw [if_pos (by simpa using e)] at this
        cases this
theorem ok_res {l : List Ob} (h : Res l) : resE l = none := by
  have hb : ∀ i, i < l.length → badO l i = none := fun i hi => by
    unfold badO
    have e : obC (ob l i) = (0, 0) := may_check (h.may i hi)
    rw [e, if_pos rfl, fst_none (fun k hk => by
      unfold sameN
      rw [if_neg (by simpa using h.own i hi k hk)])]
  unfold resE chkL
  rw [if_neg (by have := h.few; omega), fst_none hb]
  show namL l = none
  unfold namL
  rw [fst_none (f := twO l) (fun i hi => fst_none (h.tw i hi)), fst_none (f := unO l) (fun i hi => fst_none (h.un i hi))]
theorem may_sym {nm : ByteArray} {code : List Int} {dA : Int} {nd : Nat} {ss : List Sym} {rs : List Rel} (h : MayBe nm code dA nd ss rs) (k : Nat) (hk : k < ss.length) : 0 ≤ sAt ss k ∧ sAt ss k ≤ code.length ∧ 0 ≤ sKind ss k ∧ sKind ss k ≤ 3 := by
  have := h.2.1 k hk
  unfold symE at this
  split at this
  · cases this
  · split at this
    · cases this
    · split at this
      · cases this
      · split at this
        · cases this
        · omega
theorem Res.find {l : List Ob} (h : Res l) {nm : ByteArray} {x : Nat × Int} (hf : findF nm l = some x) : x.1 < l.length ∧ 0 ≤ x.2 ∧ x.2 ≤ (ob l x.1).code.length := by
  obtain ⟨h1, k, hk, e⟩ := findF_some hf
  have := may_sym (h.may x.1 h1) k hk
  rw [e]
  exact ⟨h1, this.1, this.2.1⟩
/-- A symbol that is not Local stands for something. -/
theorem Res.has {l : List Ob} (h : Res l) {i k : Nat} (hi : i < l.length) (hk : k < (ob l i).ss.length) (h0 : sKind (ob l i).ss k ≠ 0) : (findF (sName (ob l i).ss k) l).isSome = true := by
  have hr := may_sym (h.may i hi) k hk
  by_cases h3 : sKind (ob l i).ss k = 3
  · have := h.un i hi k hk
    unfold unS at this
    cases hf : (findF (sName (ob l i).ss k) l).isSome with
    | true => rfl
    | false =>
      rw [hf, if_pos ⟨by simp [h3], rfl⟩] at this
      cases this
  · have hit : ∀ kd, sKind (ob l i).ss k = kd → (fstN (rowW (sName (ob l i).ss k) kd l) l.length).isSome = true := fun kd e => by
      cases hf : fstN (rowW (sName (ob l i).ss k) kd l) l.length with
      | some x => rfl
      | none =>
        have h1 := fst_no hf i hi
        unfold rowW at h1
        cases hr : rowF (sName (ob l i).ss k) kd (ob l i).ss (ob l i).ss.length with
        | some a => rw [hr] at h1; cases h1
        | none =>
          have h2 := fst_no hr k hk
          rw [hitS_yes (by simp) (by simp [e])] at h2
          cases h2
    unfold findF
    rw [first_whole, first_whole]
    have : sKind (ob l i).ss k = 1 ∨ sKind (ob l i).ss k = 2 := by omega
    rcases this with e | e
    · have := hit 1 e
      cases hf : fstN (rowW (sName (ob l i).ss k) 1 l) l.length with
      | some x => rfl
      | none => rw [hf] at this; cases this
    · have := hit 2 e
      cases hf : fstN (rowW (sName (ob l i).ss k) 1 l) l.length with
      | some x => rfl
      | none => exact this



end Go.Proofs.YthpkekpojhmaaaaGreatDoor

namespace Go.Proofs.YthpkekpojhmaaaaGreatDoor
open Go.RowKit

theorem Res.glob {l : List Ob} (h : Res l) {i k : Nat} (hi : i < l.length) (hk : k < (ob l i).ss.length) (h1 : sKind (ob l i).ss k = 1) : findF (sName (ob l i).ss k) l = some (i, sAt (ob l i).ss k) := by
  have ht := h.tw i hi k hk
  have hn : firstF (sName (ob l i).ss k) 1 l i k = none := by
    unfold twS at ht
    cases hf : firstF (sName (ob l i).ss k) 1 l i k with
    | none => rfl
    | some x =>
      rw [hf, if_pos ⟨by simp [h1], rfl⟩] at ht
      cases ht
  have ho := fst_no hn
  have hlow : ∀ j, j < i → rowW (sName (ob l i).ss k) 1 l j = none := fun j hj => by
    have := ho j (by omega)
    unfold hitO upTo at this
    rw [if_neg (by omega)] at this
    exact this
  have hrow : rowW (sName (ob l i).ss k) 1 l i = some (i, sAt (ob l i).ss k) := by
    have := ho i (by omega)
    unfold hitO upTo at this
    rw [if_pos rfl, show min k (ob l i).ss.length = k by omega] at this
    have hz : rowF (sName (ob l i).ss k) 1 (ob l i).ss k = none := by
      cases hr : rowF (sName (ob l i).ss k) 1 (ob l i).ss k with
      | none => rfl
      | some a => rw [hr] at this; cases this
    unfold rowW rowF
    rw [fst_hit (fst_no hz) (hitS_yes (by simp) (by simp [h1])) hk]
    rfl
  unfold findF
  rw [first_whole, fst_hit hlow hrow hi]
theorem Res.stand {l : List Ob} (h : Res l) {i k : Nat} (hi : i < l.length) (hk : k < (ob l i).ss.length) : ∃ (x : Nat) (y : Int), standS l i k = ((x : Int), y) ∧ x < l.length ∧ 0 ≤ y ∧ y ≤ (ob l x).code.length ∧ (sKind (ob l i).ss k = 0 ∨ sKind (ob l i).ss k = 1 → x = i ∧ y = sAt (ob l i).ss k) ∧ (sKind (ob l i).ss k ≠ 0 → findF (sName (ob l i).ss k) l = some (x, y)) := by
  have hm := may_sym (h.may i hi) k hk
  unfold standS
  by_cases h0 : sKind (ob l i).ss k = 0
  · rw [if_neg (by simp [h0])]
    exact ⟨i, _, rfl, hi, hm.1, hm.2.1, fun _ => ⟨rfl, rfl⟩, fun hn => absurd h0 hn⟩
  · rw [if_pos (by simpa using h0)]
    have hs := h.has hi hk h0
    cases hf : findF (sName (ob l i).ss k) l with
    | none => rw [hf] at hs; cases hs
    | some x =>
      obtain ⟨a, b, c⟩ := h.find hf
      refine ⟨x.1, x.2, rfl, a, b, c, fun ho => ?_, fun _ => rfl⟩
      have h1 : sKind (ob l i).ss k = 1 := by omega
      have := h.glob hi hk h1
      rw [hf] at this
      cases this
      exact ⟨rfl, rfl⟩
/-- One more object, with a Wanted symbol. -/
def moreN : ByteArray := ⟨#[111, 110, 101, 46, 109, 111, 114, 101, 46, 111, 98, 106, 101, 99, 116, 46, 104, 101, 114, 101, 95]⟩
def moreO (nm : ByteArray) : Ob := ⟨moreN, [], 0, [], [(nm, 3, 0)], []⟩
theorem ob_old {l : List Ob} {o : Ob} {i : Nat} (h : i < l.length) : ob (l ++ [o]) i = ob l i := by
  unfold ob
  rw [List.getD_eq_getElem?_getD, List.getD_eq_getElem?_getD, List.getElem?_append_left h]
theorem ob_new (l : List Ob) (o : Ob) : ob (l ++ [o]) l.length = o := by simp [ob]
theorem rowW_old {l : List Ob} {o : Ob} {i : Nat} (h : i < l.length) (nm : ByteArray) (kd : Int) : rowW nm kd (l ++ [o]) i = rowW nm kd l i := by unfold rowW; rw [ob_old h]
theorem rowW_new (l : List Ob) (nm n2 : ByteArray) (kd : Int) (h : kd ≠ 3) : rowW nm kd (l ++ [moreO n2]) l.length = none := by
  unfold rowW
  rw [ob_new]
  have : rowF nm kd (moreO n2).ss (moreO n2).ss.length = none := by
    refine fst_none fun j hj => ?_
    obtain rfl : j = 0 := by simp [moreO] at hj; omega
    refine hitS_no (Or.inr ?_)
    show ((3 : Int) == kd) = false
    simpa using fun e => h e.symm
  rw [this]
  rfl
theorem fstW (l : List Ob) (nm n2 : ByteArray) (kd : Int) (h : kd ≠ 3) : fstN (rowW nm kd (l ++ [moreO n2])) (l ++ [moreO n2]).length = fstN (rowW nm kd l) l.length := by
  rw [show (l ++ [moreO n2]).length = l.length + 1 by simp, fstN, rowW_new l nm n2 kd h, fst_same (fun j hj => rowW_old hj nm kd)]
  cases fstN (rowW nm kd l) l.length <;> rfl
theorem find_more (l : List Ob) (nm n2 : ByteArray) : findF nm (l ++ [moreO n2]) = findF nm l := by
  unfold findF
  rw [first_whole, first_whole, first_whole, first_whole, fstW l nm n2 1 (by decide), fstW l nm n2 2 (by decide)]
theorem first_more (l : List Ob) (nm n2 : ByteArray) {i : Nat} (k : Nat) (hi : i < l.length) : firstF nm 1 (l ++ [moreO n2]) i k = firstF nm 1 l i k := by
  unfold firstF
  rw [show (l ++ [moreO n2]).length = l.length + 1 by simp, show min (l.length + 1) (i + 1) = i + 1 by omega, show min l.length (i + 1) = i + 1 by omega]
  refine fst_same fun j hj => ?_
  unfold hitO upTo
  rw [ob_old (by omega)]
theorem may_more {nm : ByteArray} (h : nameOK nm = true) : MayBe (moreO nm).nm (moreO nm).code (moreO nm).dA (moreO nm).data.length (moreO nm).ss (moreO nm).rs := by
  refine ⟨?_, fun j hj => ?_, fun j hj => absurd hj (Nat.not_lt_zero _), fun j hj => absurd hj (Nat.not_lt_zero _)⟩
  · exact ⟨show nameOK moreN = true by decide +kernel, Nat.zero_le _, by simp [moreO], Nat.le_refl _, Int.le_refl _, show (0 : Int) ≤ 4096 by decide, show ((0 : Nat) : Int) ≤ 4096 - 0 by decide⟩
  · obtain rfl : j = 0 := by simp [moreO] at hj; omega
    unfold symE
    have e : sName (moreO nm).ss 0 = nm := rfl
    have e2 : ofS (moreO nm).ss nm = 0 := by simp [ofS, ofFrom, moreO]
    rw [e, h, e2]
    rfl
theorem Res.more {l : List Ob} (h : Res l) (hl : l.length < 32) {i k : Nat} (hi : i < l.length) (hk : k < (ob l i).ss.length) (h1 : sKind (ob l i).ss k = 1) (hn : ∀ j, j < l.length → (ob l j).nm.toList ≠ moreN.toList) : Res (l ++ [moreO (sName (ob l i).ss k)]) := by
  have hlen : (l ++ [moreO (sName (ob l i).ss k)]).length = l.length + 1 := by simp
  refine ⟨by omega, fun j hj => ?_, fun j hj m hm => ?_, fun j hj m hm => ?_, fun j hj m hm => ?_⟩
  · by_cases he : j < l.length
    · rw [ob_old he]; exact h.may j he
    · obtain rfl : j = l.length := by omega
      rw [ob_new]
      exact may_more (may_names (h.may i hi) k hk).2
  · by_cases he : j < l.length
    · rw [ob_old he, ob_old (by omega)]; exact h.own j he m hm
    · obtain rfl : j = l.length := by omega
      rw [ob_new, ob_old hm]
      exact hn m hm
  · by_cases he : j < l.length
    · rw [ob_old he] at hm
      have := h.tw j he m hm
      unfold twS at this ⊢
      rw [ob_old he, first_more l _ _ m he]
      exact this
    · obtain rfl : j = l.length := by omega
      rw [ob_new] at hm
      obtain rfl : m = 0 := by simp [moreO] at hm; omega
      unfold twS
      rw [ob_new, if_neg]
      rintro ⟨hc, _⟩
      exact absurd hc (by simp [moreO, sKind])
  · by_cases he : j < l.length
    · rw [ob_old he] at hm
      have := h.un j he m hm
      unfold unS at this ⊢
      rw [ob_old he, find_more]
      exact this
    · obtain rfl : j = l.length := by omega
      rw [ob_new] at hm
      obtain rfl : m = 0 := by simp [moreO] at hm; omega
      unfold unS
      rw [ob_new, find_more]
      have e : sName (moreO (sName (ob l i).ss k)).ss 0 = sName (ob l i).ss k := rfl
      rw [e, h.glob hi hk h1, if_neg]
      rintro ⟨_, hc⟩
      cases hc
theorem stand_old {l : List Ob} {n2 : ByteArray} {j m : Nat} (hj : j < l.length) : standS (l ++ [moreO n2]) j m = standS l j m := by
  unfold standS
  rw [ob_old hj, find_more]
theorem rowT_old {l : List Ob} {n2 : ByteArray} {j : Nat} (hj : j < l.length) (m : Nat) : rowT (l ++ [moreO n2]) j m = rowT l j m := by
  unfold rowT
  exact List.map_congr_left fun x _ => stand_old hj
theorem rowT_new {l : List Ob} (_h : Res l) {i k : Nat} (_hi : i < l.length) (_hk : k < (ob l i).ss.length) (h1 : sKind (ob l i).ss k = 1) : rowT (l ++ [moreO (sName (ob l i).ss k)]) l.length 1 = [standS l i k] := by
  show [standS (l ++ [moreO (sName (ob l i).ss k)]) l.length 0] = _
  unfold standS
  rw [ob_new, find_more]
  have e : sName (moreO (sName (ob l i).ss k)).ss 0 = sName (ob l i).ss k := rfl
  have e2 : sKind (moreO (sName (ob l i).ss k)).ss 0 = 3 := rfl
  rw [e, e2, if_pos (by decide), if_pos (by simp [h1])]
theorem resL_ok {l : List Ob} (h : Res l) : resL l = rowsT l l.length := by unfold resL; rw [ok_res h]



end Go.Proofs.YthpkekpojhmaaaaGreatDoor

namespace Go.Proofs.YthpkekpojhmaaaaGreatDoor
open Go.RowKit

theorem wrapI64 {n : Int} (h0 : -9223372036854775808 ≤ n) (h1 : n ≤ 9223372036854775807) : IntKind.i64.wrap n = n := by
  simp [IntKind.wrap, IntKind.bits, IntKind.signed]
  omega
/-- The base of an object. -/
def bsF (l : List Ob) : Nat → Nat
  | 0 => 0
  | i + 1 => bsF l i + (ob l i).code.length + 1
/-- An object whose Trap would be too far. -/
def farO (l : List Ob) (i : Nat) : Option Nat := if 16384 ≤ bsF l i + (ob l i).code.length then some i else none
def farL (l : List Ob) : Option Nat := fstN (farO l) l.length
def farI : Option Nat → Int
  | some i => i
  | none => -1
/-- What Bases tells. -/
def basE (l : List Ob) : Int := if 32 < l.length then 21 else if (farL l).isSome = true then 42 else 0
def basL (l : List Ob) : List Int := if basE l = 0 then (List.range l.length).map fun i => (bsF l i : Int) else []
theorem farO_no {l : List Ob} {i : Nat} (h : ¬ 16384 ≤ bsF l i + (ob l i).code.length) : farO l i = none := by
  unfold farO; rw [if_neg h]
theorem farO_yes {l : List Ob} {i : Nat} (h : 16384 ≤ bsF l i + (ob l i).code.length) : farO l i = some i := by
  unfold farO; rw [if_pos h]
/-- Bases stay small as long as nothing was too far. -/
theorem bsF_small {l : List Ob} {i : Nat} (h : ∀ j, j < i → farO l j = none) : bsF l i ≤ 16384 := by
  cases i with
  | zero => simp [bsF]
  | succ i =>
    have := h i (by omega)
    unfold farO at this
    split at this
    · cases this
    · rw [bsF]; omega
/-- Bases of short codes. -/
theorem bsF_some {l : List Ob} : ∀ {i : Nat}, (∀ j, j < i → (ob l j).code.length ≤ 1048576) → bsF l i ≤ 1048577 * i
  | 0, _ => by simp [bsF]
  | i + 1, h => by
    have a := bsF_some (l := l) (i := i) (fun j hj => h j (by omega))
    have b := h i (by omega)
    rw [bsF]
    omega
/-- What lies in the memory: an address's number, if an object has one there. -/
def putM (m : Nat → Option Int) (a : Nat) (v : Int) (x : Nat) : Option Int := if x = a then some v else m x
def rowM (m : Nat → Option Int) (o : Ob) : Nat → (Nat → Option Int)
  | 0 => m
  | k + 1 => putM (rowM m o k) (o.dA.toNat + k) (nth o.data k)
def memM (l : List Ob) : Nat → (Nat → Option Int)
  | 0 => fun _ => none
  | i + 1 => rowM (memM l i) (ob l i) (ob l i).data.length
def overS (l : List Ob) (i k : Nat) : Option (Int × Int × Int) := if (rowM (memM l i) (ob l i) k ((ob l i).dA.toNat + k)).isSome = true then some (43, i, ((ob l i).dA.toNat + k : Nat)) else none
def badM (l : List Ob) (mem : Nat) (i : Nat) : Option (Int × Int × Int) := if 0 < (ob l i).data.length ∧ (mem : Int) < (ob l i).dA + (ob l i).data.length then some (25, i, 0) else fstN (overS l i) (ob l i).data.length
def datE (l : List Ob) (mem : Nat) : Option (Int × Int × Int) := fstN (badM l mem) l.length
def valM (m : Nat → Option Int) (a : Nat) : Int := (m a).getD 0
def datL (l : List Ob) (mem : Nat) : List Int := (List.range mem).map (valM (memM l l.length))
/-- A word's target, where it has gone. -/
def toF (l : List Ob) (i k : Nat) : Int :=
  if 0 ≤ atR (ob l i).rs k then (bsF l (standS l i (rSym (ob l i).rs (atR (ob l i).rs k).toNat).toNat).1.toNat : Int) + (standS l i (rSym (ob l i).rs (atR (ob l i).rs k).toNat).toNat).2
  else tgV (nth (ob l i).code k) + bsF l i
def wordF (l : List Ob) (i k : Nat) : Int := if isT (nth (ob l i).code k) = true then aimV (nth (ob l i).code k) (toF l i k) else nth (ob l i).code k
def codeF (l : List Ob) (i k : Nat) : List Int := (List.range k).map (wordF l i)
def textF (l : List Ob) : Nat → List Int
  | 0 => []
  | i + 1 => textF l i ++ (codeF l i (ob l i).code.length ++ [0])
theorem codeF_succ (l : List Ob) (i k : Nat) : codeF l i (k + 1) = codeF l i k ++ [wordF l i k] := by simp [codeF, List.range_succ]
theorem codeF_len (l : List Ob) (i k : Nat) : (codeF l i k).length = k := by simp [codeF]
theorem textF_len (l : List Ob) : ∀ n : Nat, (textF l n).length = bsF l n
  | 0 => rfl
  | i + 1 => by rw [textF, bsF, List.length_append, List.length_append, codeF_len, textF_len l i]; simp; omega
/-- Link's error. -/
def lnkE (l : List Ob) (nm : ByteArray) (mem : Int) : Option (Int × Int × Int) :=
  if mem < 0 ∨ 4096 < mem then some (1, 0, 0) else match resE l with
    | some x => some x
    | none => if (findF nm l).isSome = false then some (41, 0, 0) else match farL l with
      | some i => some (42, i, 0)
      | none => datE l mem.toNat
/-- Link's image. -/
def lnkT (l : List Ob) (nm : ByteArray) (mem : Int) : List Int := if (lnkE l nm mem).isSome = true then [] else textF l l.length
def lnkN (l : List Ob) (nm : ByteArray) (mem : Int) : Int := if (lnkE l nm mem).isSome = true then 0 else (bsF l (dfI (findF nm l)) : Int) + dfA (findF nm l)
def lnkM (l : List Ob) (nm : ByteArray) (mem : Int) : List Int := if (lnkE l nm mem).isSome = true then [] else datL l mem.toNat


end Go.Proofs.YthpkekpojhmaaaaGreatDoor

namespace Go.Proofs.YthpkekpojhmaaaaGreatDoor
open Go.RowKit

theorem zany_form {w : World} {b n : Nat} {e : TypeId} {sz : Nat} {v : Value} {xs : List Value} (h : w.ownsRow b e sz v n xs) : ∃ A n c, v = .slice A n c := by
  rcases h.2 with ⟨rfl, _⟩ | ⟨g, cap, cur, rfl, _⟩
  · exact ⟨_, _, _, rfl⟩
  · exact ⟨_, _, _, rfl⟩

/-- A new block reads as it was made. -/
theorem znew_cells (w : World) (l : List Value) (T : TypeId) (h : l.length ≤ 1048576) : ∀ j u, l[j]? = some u → (w.alloc (.cells l.toArray T)).cell? ((⟨w.heap.size, 0, none⟩ : Addr).add j) = some u := by
  have hr : (w.alloc (.cells l.toArray T)).ownsRow w.heap.size T 1 (.slice (some ⟨w.heap.size, 0, none⟩) l.length l.length) l.length l := by
    refine ⟨by omega, Or.inr ⟨w.heap.size, l.length, l.toArray, rfl, Nat.le_refl _, heap_alloc_new _ _, Nat.le_refl _, by unfold maxLen; omega, by simp, ?_⟩⟩
    simp only [Nat.mul_one]
    exact List.take_length
  exact hr.cells rfl
/-- Items as cells. -/
def ziVals (K : IntKind) (zs : List Int) : List Value := zs.map (Value.int K)
theorem ziVals_snoc (K : IntKind) (zs : List Int) (x : Int) : ziVals K (zs ++ [x]) = ziVals K zs ++ [.int K x] := by simp [ziVals]
theorem zadd0 (j i : Nat) : (⟨j, 0, none⟩ : Addr).add i = ⟨j, i, none⟩ := by
  unfold Addr.add
  split <;> simp_all
theorem zbox_set {w : World} {B : Nat} {cs : Array Value} {t : TypeId} (h : w.heap[B]? = some (.cells cs t (0, 0))) (i : Nat) (v : Value) : (w.setCell ⟨B, i, none⟩ v).heap[B]? = some (.cells (cs.setIfInBounds i v) t (0, 0)) := by
  simp [World.setCell, Array.getElem?_modify, h]
theorem zbox_fro {w : World} {B : Nat} {cs : Array Value} {t : TypeId} (h : w.heap[B]? = some (.cells cs t (0, 0))) (i : Nat) : w.frozen? ⟨B, i, none⟩ = false := by
  simp [World.frozen?, h]
theorem zown_form {w : World} {b n : Nat} {e : TypeId} {sz : Nat} {v : Value} {xs : List Value} (h : w.ownsRow b e sz v n xs) : ∃ A c, v = .slice A n c := by
  rcases h.2 with ⟨rfl, rfl⟩ | ⟨g, cap, cur, rfl, _⟩
  · exact ⟨_, _, rfl⟩
  · exact ⟨_, _, rfl⟩
theorem zownsRow_mono {w : World} {b b' : Nat} {e : TypeId} {k n : Nat} {v : Value} {xs : List Value} (h : w.ownsRow b e k v n xs) (hb : b' ≤ b) : w.ownsRow b' e k v n xs := by
  refine ⟨h.1, ?_⟩
  rcases h.2 with h0 | ⟨g, cap, cur, hv, hg, r⟩
  · exact Or.inl h0
  · exact Or.inr ⟨g, cap, cur, hv, Nat.le_trans hb hg, r⟩
theorem ziVals_get {K : IntKind} {l : List Int} {i : Nat} (h : i < l.length) : (ziVals K l)[i]? = some (.int K (nth l i)) := by simp [ziVals, nth, List.getD, h]
theorem zadd_add (j k i : Nat) : ((⟨j, 0, none⟩ : Addr).add k).add i = (⟨j, 0, none⟩ : Addr).add (k + i) := by
  rw [zadd0, zadd0]
  unfold Addr.add
  split
  · next h => subst h; rfl
  · rfl
theorem zrow_ints {w : World} {base c n : Nat} {e : TypeId} {A : Option Addr} {K : IntKind} {l : List Int} (h : w.ownsRow base e 1 (.slice A n c) l.length (ziVals K l)) : IntsAt w A K l := fun i hi => by
  rcases h.2 with ⟨_, h0⟩ | ⟨j, cap, cur, hv, hb, hg, hc, _⟩
  · omega
  · cases hv
    exact ⟨_, rfl, h.cells rfl i _ (ziVals_get hi)⟩
theorem zrow_keep {w w1 : World} {base n : Nat} {e : TypeId} {sz : Nat} {v : Value} {xs : List Value} (h : w.ownsRow base e sz v n xs) (hb : Below w.heap.size w w1) : w1.ownsRow base e sz v n xs := by
  refine h.kept (row := none) ⟨hb.os, hb.tape, hb.output, hb.size, fun k hk _ => hb.block k hk⟩ ?_
  cases hv : v.ownBlock <;> simp
theorem lb_box {w w1 : World} {B : Nat} {cs : Array Value} {t : TypeId} (h : w.heap[B]? = some (.cells cs t (0, 0))) (hb : Below w.heap.size w w1) : w1.heap[B]? = some (.cells cs t (0, 0)) := by
  rw [hb.block B (Array.getElem?_eq_some_iff.1 h).1]; exact h

/-- The two lists of an image, each a row of its own behind base. -/
structure RowsI (w : World) (base : Nat) (A1 A2 : Option Addr) (c1 c2 : Nat) (text mem : List Int) : Prop where
  r1 : w.ownsRow base 78 1 (.slice A1 text.length c1) text.length (ziVals .u32 text)
  r2 : w.ownsRow base 2 1 (.slice A2 mem.length c2) mem.length (ziVals .i64 mem)
theorem RowsI.keep {w w1 : World} {base : Nat} {A1 A2 : Option Addr} {c1 c2 : Nat} {text mem : List Int} (h : RowsI w base A1 A2 c1 c2 text mem) (hb : Below w.heap.size w w1) : RowsI w1 base A1 A2 c1 c2 text mem := ⟨zrow_keep h.r1 hb, zrow_keep h.r2 hb⟩
theorem RowsI.mono {w : World} {base base' : Nat} {A1 A2 : Option Addr} {c1 c2 : Nat} {text mem : List Int} (h : RowsI w base A1 A2 c1 c2 text mem) (hb : base' ≤ base) : RowsI w base' A1 A2 c1 c2 text mem := ⟨zownsRow_mono h.r1 hb, zownsRow_mono h.r2 hb⟩
theorem row_setB {w1 : World} {B base n : Nat} {e : TypeId} {sz : Nat} {v : Value} {xs : List Value} (h : w1.ownsRow base e sz v n xs) (hB : B < base) (i : Nat) (x : Value) : (w1.setCell ⟨B, i, none⟩ x).ownsRow base e sz v n xs := ownsRow_setCell_below h hB x
theorem RowsI.set {w : World} {B base : Nat} {A1 A2 : Option Addr} {c1 c2 : Nat} {text mem : List Int} (h : RowsI w base A1 A2 c1 c2 text mem) (hB : B < base) (i : Nat) (x : Value) : RowsI (w.setCell ⟨B, i, none⟩ x) base A1 A2 c1 c2 text mem := ⟨row_setB h.r1 hB i x, row_setB h.r2 hB i x⟩
theorem no_ints (w : World) (K : IntKind) : IntsAt w none K [] := fun i hi => by simp at hi






theorem zbox3_cell {w : World} {B : Nat} {x y z : Value} {t : TypeId} (h : w.heap[B]? = some (.cells #[x, y, z] t (0, 0))) : w.cell? ⟨B, 0, none⟩ = some x ∧ w.cell? ⟨B, 1, none⟩ = some y ∧ w.cell? ⟨B, 2, none⟩ = some z := by
  refine ⟨?_, ?_, ?_⟩ <;> simp [World.cell?, h]


end Go.Proofs.YthpkekpojhmaaaaGreatDoor

namespace Go.Proofs.YthpkekpojhmaaaaGreatDoor
open Go.RowKit

theorem info3 : ∃ i, Tryz.prog.info? 3 = some i ∧ i.zero = some (.int .i64 0) ∧ i.size = 1 ∧ i.bytes = 8 :=
  ⟨(Tryz.prog.info? 3).get (by kernel_rfl), by kernel_rfl, by kernel_rfl, by kernel_rfl, by kernel_rfl⟩
def basT (l : List Ob) (k : Nat) : List Int := (List.range k).map fun i => (bsF l i : Int)
theorem basT_succ (l : List Ob) (k : Nat) : basT l (k + 1) = basT l k ++ [(bsF l k : Int)] := by simp [basT, List.range_succ]
theorem basT_len (l : List Ob) (k : Nat) : (basT l k).length = k := by simp [basT]
def vI (zs : List Int) : List Value := zs.map (Value.int .i64)
theorem vI_snoc (zs : List Int) (x : Int) : vI (zs ++ [x]) = vI zs ++ [.int .i64 x] := by simp [vI]
theorem one_one {x : Int} : ∀ u ∈ [Value.int .i64 x], u.oneCell' = true := fun u hu => by
  simp only [List.mem_cons, List.not_mem_nil, or_false] at hu
  rw [hu]; rfl
/-- An answer of Bases. -/
def BasP (l : List Ob) (w : World) (e : Ending) (w' : World) : Prop :=
  ∃ (A : Option Addr) (c : Nat), e = .returned (.tuple #[.slice A (basL l).length c, .int .i64 (basE l)]) ∧ w'.ownsRow w.heap.size 3 1 (.slice A (basL l).length c) (basL l).length (vI (basL l)) ∧ Below w.heap.size w w'
theorem bas_err {l : List Ob} {E : Int} (h : basE l = E) (h0 : E ≠ 0) {w w' : World} (hb : Below w.heap.size w w') : BasP l w (.returned (.tuple #[.slice none 0 0, .int .i64 E])) w' := by
  have e : basL l = [] := by unfold basL; rw [if_neg (by rw [h]; exact h0)]
  refine ⟨none, 0, by rw [e, h]; rfl, ?_, hb⟩
  rw [e]
  exact World.ownsRow_nil _ _ _ _
def vU (zs : List Int) : List Value := zs.map (Value.int .u32)
/-- An answer of Link. -/
def LnkP (l : List Ob) (nm : ByteArray) (mem : Int) (w : World) (e : Ending) (w' : World) : Prop :=
  ∃ (A1 A2 : Option Addr) (c1 c2 : Nat), e = .returned (.tuple #[.agg #[.slice A1 (lnkT l nm mem).length c1, .int .i64 (lnkN l nm mem), .slice A2 (lnkM l nm mem).length c2], .int .i64 (t1 (lnkE l nm mem)), .int .i64 (t2 (lnkE l nm mem)), .int .i64 (t3 (lnkE l nm mem))]) ∧ w'.ownsRow w.heap.size 78 1 (.slice A1 (lnkT l nm mem).length c1) (lnkT l nm mem).length (vU (lnkT l nm mem)) ∧ w'.ownsRow w.heap.size 2 1 (.slice A2 (lnkM l nm mem).length c2) (lnkM l nm mem).length (vI (lnkM l nm mem)) ∧ Below w.heap.size w w'
theorem lnk_err {l : List Ob} {nm : ByteArray} {mem : Int} {x : Int × Int × Int} (h : lnkE l nm mem = some x) {w w' : World} (hb : Below w.heap.size w w') : LnkP l nm mem w (.returned (.tuple #[.agg #[.slice none 0 0, .int .i64 0, .slice none 0 0], .int .i64 x.1, .int .i64 x.2.1, .int .i64 x.2.2])) w' := by
  have e1 : lnkT l nm mem = [] := by unfold lnkT; rw [h]; rfl
  have e2 : lnkN l nm mem = 0 := by unfold lnkN; rw [h]; rfl
  have e3 : lnkM l nm mem = [] := by unfold lnkM; rw [h]; rfl
  refine ⟨none, none, 0, 0, by rw [e1, e2, e3, h]; rfl, ?_, ?_, hb⟩
  · rw [e1]; exact World.ownsRow_nil _ _ _ _
  · rw [e3]; exact World.ownsRow_nil _ _ _ _
theorem img_keep {w0 w1 : World} {g : Nat} (h : w0.heap[g]? = some (.cells #[.slice none 0 0, .int .i64 0, .slice none 0 0] 29 (0, 0))) (hb : Below w0.heap.size w0 w1) : w1.cell? ⟨g, 0, none⟩ = some (.slice none 0 0) ∧ w1.cell? ⟨g, 1, none⟩ = some (.int .i64 0) ∧ w1.cell? ⟨g, 2, none⟩ = some (.slice none 0 0) ∧ w1.frozen? ⟨g, 0, none⟩ = false ∧ w1.frozen? ⟨g, 1, none⟩ = false ∧ w1.frozen? ⟨g, 2, none⟩ = false := by
  have hg : g < w0.heap.size := (Array.getElem?_eq_some_iff.1 h).1
  have h1 : w1.heap[g]? = some (.cells #[.slice none 0 0, .int .i64 0, .slice none 0 0] 29 (0, 0)) := by rw [hb.block g hg]; exact h
  refine ⟨?_, ?_, ?_, ?_, ?_, ?_⟩ <;> simp [World.cell?, World.frozen?, h1]
theorem farI_none : farI none = -1 := rfl
theorem lnk_arg {l : List Ob} {nm : ByteArray} {mem : Int} (h : mem < 0 ∨ 4096 < mem) : lnkE l nm mem = some (1, 0, 0) := by unfold lnkE; rw [if_pos h]
theorem lnk_res {l : List Ob} {nm : ByteArray} {mem : Int} {x : Int × Int × Int} (h : ¬ (mem < 0 ∨ 4096 < mem)) (hx : resE l = some x) : lnkE l nm mem = some x := by unfold lnkE; rw [if_neg h, hx]
theorem lnk_ent {l : List Ob} {nm : ByteArray} {mem : Int} (h : ¬ (mem < 0 ∨ 4096 < mem)) (hx : resE l = none) (hf : findF nm l = none) : lnkE l nm mem = some (41, 0, 0) := by unfold lnkE; rw [if_neg h, hx, hf]; rfl
theorem lnk_far {l : List Ob} {nm : ByteArray} {mem : Int} {x : Nat × Int} {i : Nat} (h : ¬ (mem < 0 ∨ 4096 < mem)) (hx : resE l = none) (hf : findF nm l = some x) (hi : farL l = some i) : lnkE l nm mem = some (42, (i : Int), 0) := by unfold lnkE; rw [if_neg h, hx, hf, hi]; rfl
theorem lnk_dat {l : List Ob} {nm : ByteArray} {mem : Int} {x : Nat × Int} (h : ¬ (mem < 0 ∨ 4096 < mem)) (hx : resE l = none) (hf : findF nm l = some x) (hi : farL l = none) : lnkE l nm mem = datE l mem.toNat := by unfold lnkE; rw [if_neg h, hx, hf, hi]; rfl
theorem res_none {l : List Ob} {x : Int × Int × Int} (h : resE l = some x) : ¬ x.1 = 0 := by
  unfold resE at h
  cases hc : chkL l with
  | some y => rw [hc] at h; cases h; exact chkL_errs l _ hc
  | none => rw [hc] at h; exact namL_errs l _ h
theorem dat_err {l : List Ob} {mem : Nat} {x : Int × Int × Int} (h : datE l mem = some x) : ¬ x.1 = 0 := by
  obtain ⟨k, _, hk, _⟩ := fst_some h
  unfold badM at hk
  split at hk
  · cases hk; simp
  · obtain ⟨j, _, hj, _⟩ := fst_some hk
    unfold overS at hj
    split at hj
    · cases hj; simp
    · cases hj
theorem own_intsV {w : World} {b n c : Nat} {e : TypeId} {A : Option Addr} {K : IntKind} {zs : List Int} (h : w.ownsRow b e 1 (.slice A n c) n (zs.map (Value.int K))) : IntsAt w A K zs := fun i hi => by
  have hn : n = zs.length := by have := h.1; simp at this; omega
  rcases h.2 with ⟨_, h0⟩ | ⟨g, cap, cur, hv, _⟩
  · omega
  · cases hv
    exact ⟨_, rfl, h.cells rfl i _ (by rw [List.getElem?_map, List.getElem?_eq_getElem hi]; simp [nth, hi])⟩
theorem own_some {w : World} {b n c : Nat} {e : TypeId} {A : Option Addr} {xs : List Value} (h : w.ownsRow b e 1 (.slice A n c) n xs) (hn : 0 < n) : ∃ g, A = some ⟨g, 0, none⟩ := by
  rcases h.2 with ⟨_, h0⟩ | ⟨g, cap, cur, hv, _⟩
  · omega
  · cases hv; exact ⟨g, rfl⟩
theorem all_u {zs : List Int} : ∀ u ∈ vU zs, u.oneCell' = true := fun u hu => by
  simp only [vU, List.mem_map] at hu
  obtain ⟨x, _, rfl⟩ := hu
  rfl
theorem vU_app (xs ys : List Int) : vU (xs ++ ys) = vU xs ++ vU ys := by simp [vU]
theorem blkA {w w1 : World} {g : Nat} {o : Obj} (h : w.heap[g]? = some o) (hb : Below w.heap.size w w1) : w1.heap[g]? = some o := by
  rw [hb.block g (Array.getElem?_eq_some_iff.1 h).1]; exact h
theorem box_far {w w1 : World} {g b n : Nat} {o : Obj} {e : TypeId} {sz : Nat} {v : Value} {xs : List Value} (h : w.heap[g]? = some o) (hv : w.ownsRow b e sz v n xs) (hg : w.grownBy w1 v.ownBlock) (hb : g < b) : w1.heap[g]? = some o := by
  rw [hg.block g (Array.getElem?_eq_some_iff.1 h).1 (fun e => by have := (hv.lt g e.symm).1; omega)]; exact h
theorem grown_cell (w : World) (g k : Nat) (u : Value) : w.grownBy (w.setCell ⟨g, k, none⟩ u) (some g) := ⟨rfl, rfl, rfl, by simp [World.setCell], fun i _ hi => Below.heap_setCell _ _ _ _ (fun e => hi (by rw [e]))⟩
theorem own_set3 {w : World} {b n g : Nat} {e : TypeId} {sz : Nat} {v : Value} {xs : List Value} (h : w.ownsRow b e sz v n xs) (hg : g < b) {i j k : Nat} {u1 u2 u3 : Value} : (((w.setCell ⟨g, i, none⟩ u1).setCell ⟨g, j, none⟩ u2).setCell ⟨g, k, none⟩ u3).ownsRow b e sz v n xs := by
  have far : ∀ {w1 : World}, w1.ownsRow b e sz v n xs → ∀ c, v.ownBlock = some c → some g ≠ some c := fun h1 c hc e => by
    cases e
    have := (h1.lt _ hc).1
    omega
  have a := own_apart h (grown_cell w g i u1) (far h)
  have a2 := own_apart a (grown_cell _ g j u2) (far a)
  exact own_apart a2 (grown_cell _ g k u3) (far a2)
theorem bas_ok {l : List Ob} (h : Res l) (hf : farL l = none) : basE l = 0 ∧ basL l = basT l l.length := by
  have e : basE l = 0 := by
    unfold basE
    rw [if_neg (by have := h.few; omega), hf]
    rfl
  exact ⟨e, by unfold basL; rw [if_pos e]; rfl⟩
theorem far_len {l : List Ob} (h : farL l = none) : bsF l l.length ≤ 16384 := bsF_small fun j hj => fst_no h j hj
theorem lnkT_len (l : List Ob) (nm : ByteArray) (mem : Int) : (lnkT l nm mem).length ≤ 16384 := by
  unfold lnkT
  split
  · simp
  · rename_i h
    rw [textF_len]
    refine far_len ?_
    unfold lnkE at h
    split at h
    · simp at h
    · split at h
      · simp at h
      · split at h
        · simp at h
        · split at h
          · simp at h
          · assumption
theorem lnkM_len (l : List Ob) (nm : ByteArray) (mem : Int) : (lnkM l nm mem).length ≤ 4096 := by
  unfold lnkM
  split
  · simp
  · rename_i h
    unfold datL
    rw [List.length_map, List.length_range]
    unfold lnkE at h
    split at h
    · simp at h
    · omega
theorem basL_len (l : List Ob) : (basL l).length ≤ 32 := by
  unfold basL
  split
  · rename_i h
    rw [List.length_map, List.length_range]
    unfold basE at h
    split at h
    · simp at h
    · omega
  · simp
/-- What the program's Link and Bases are to be shown. -/
def ProgL : Prop := ∀ (A : Option Addr) (ca : Nat) (q : Nat → Pl) (l : List Ob) (nm : ByteArray) (mem : Int) (w : World), ObsIn w A q l → nm.size ≤ 65536 → Calls Tryz.prog 8 #[.slice A l.length ca, .string nm, .int .i64 mem] w (LnkP l nm mem w)
def ProgB : Prop := ∀ (A : Option Addr) (ca : Nat) (q : Nat → Pl) (l : List Ob) (w : World), ObsIn w A q l → Calls Tryz.prog 10 #[.slice A l.length ca] w (BasP l w)


end Go.Proofs.YthpkekpojhmaaaaGreatDoor

namespace Go.Proofs.YthpkekpojhmaaaaGreatDoor
open Go.RowKit

theorem isT_ins {v : Int} (h : isT v = true) : isIns v = true ∧ hP (dOp v) = true ∧ 0 ≤ dOp v := by
  unfold isT at h
  rw [Bool.and_eq_true, decide_eq_true_iff] at h
  refine ⟨?_, h.2, h.1⟩
  cases hi : isIns v
  · have := dOp_no hi
    omega
  · rfl
theorem zhP_hN {op : Int} (h : hP op = true) : hN op = true := by
  unfold hP at h
  unfold hN
  rw [decide_eq_true_iff] at h ⊢
  omega
theorem aim_ok {v p : Int} (hT : isT v = true) (hp : 0 ≤ p ∧ p < 16384) : aimE v p = 0 := by
  obtain ⟨hi, hP', h0⟩ := isT_ins hT
  have hd : dOp v = wOp v ∧ dD v = wD v ∧ dA v = wA v ∧ dB v = wB v := by
    unfold dOp dD dA dB
    rw [hi]
    simp
  have hi2 := hi
  unfold isIns at hi2
  rw [Bool.and_eq_true, decide_eq_true_iff] at hi2
  obtain ⟨h21, hok⟩ := hi2
  unfold insOK at hok
  simp only [Bool.and_eq_true] at hok
  obtain ⟨⟨⟨r1, r2⟩, r3⟩, -⟩ := hok
  unfold aimE
  rw [hT, decide_eq_true hp]
  simp only [if_true]
  rw [hd.1] at hP' h0
  unfold encE
  rw [hd.1, hd.2.1, hd.2.2.1, hd.2.2.2, if_neg (by omega)]
  have : insOK (wOp v) (wD v) (wA v) (wB v) p = true := by
    unfold insOK numOK
    rw [r1, r2, r3, zhP_hN hP', hP']
    simp only [if_true, Bool.true_and]
    exact decide_eq_true hp
  rw [this]
  rfl
theorem aim_is {v p : Int} (hT : isT v = true) (hp : 0 ≤ p ∧ p < 16384) : aimV v p = encV (dOp v) (dD v) (dA v) (dB v) p := by
  unfold aimV; rw [hT, decide_eq_true hp]; rfl
/-- Aimed twice is aimed once. -/
theorem aim_again {v p r : Int} (hT : isT v = true) (hp : 0 ≤ p ∧ p < 16384) (hr : 0 ≤ r ∧ r < 16384) : aimV (aimV v p) r = aimV v r := by
  have hE := aim_ok hT hp
  have hT2 := (aim_target hE).1
  have hE2 : encE (dOp v) (dD v) (dA v) (dB v) p = 0 := by
    unfold aimE at hE
    rw [hT, decide_eq_true hp] at hE
    simpa using hE
  obtain ⟨e1, e2, e3, e4, -⟩ := dec_enc hE2
  rw [aim_is hT2 hr, aim_is hT hr, aim_is hT hp, e1, e2, e3, e4]
theorem nth_left {a b : List Int} {i : Nat} (h : i < a.length) : nth (a ++ b) i = nth a i := by simp [nth, List.getD, List.getElem?_append_left h, h]
theorem nth_right {a b : List Int} {k : Nat} : nth (a ++ b) (a.length + k) = nth b k := by
  unfold nth
  rw [List.getD_eq_getElem?_getD, List.getD_eq_getElem?_getD, List.getElem?_append_right (by omega), Nat.add_sub_cancel_left]
theorem bsF_mono (l : List Ob) {i n : Nat} (h : i ≤ n) : bsF l i ≤ bsF l n := by
  induction n with
  | zero => obtain rfl : i = 0 := by omega
            exact Nat.le_refl _
  | succ n ih =>
    by_cases he : i = n + 1
    · subst he; exact Nat.le_refl _
    · have := ih (by omega)
      rw [bsF]; omega
theorem bsF_end (l : List Ob) {i n : Nat} (h : i < n) : bsF l i + (ob l i).code.length < bsF l n := by
  have := bsF_mono l (i := i + 1) (n := n) h
  rw [bsF] at this
  omega
theorem codeF_nth (l : List Ob) (i : Nat) {k n : Nat} (h : k < n) : nth (codeF l i n) k = wordF l i k := by simp [nth, List.getD, codeF, h]
theorem text_word (l : List Ob) : ∀ {n i k : Nat}, i < n → k < (ob l i).code.length → nth (textF l n) (bsF l i + k) = wordF l i k
  | 0, _, _, h, _ => by omega
  | n + 1, i, k, h, hk => by
    rw [textF]
    by_cases he : i = n
    · subst he
      rw [← textF_len l i, nth_right, nth_left (by rw [codeF_len]; exact hk), codeF_nth l i hk]
    · have := bsF_end l (i := i) (n := n) (by omega)
      rw [nth_left (by rw [textF_len]; omega)]
      exact text_word l (by omega) hk
theorem text_trap (l : List Ob) : ∀ {n i : Nat}, i < n → nth (textF l n) (bsF l i + (ob l i).code.length) = 0
  | 0, _, h => by omega
  | n + 1, i, h => by
    rw [textF]
    by_cases he : i = n
    · subst he
      have e : nth (codeF l i (ob l i).code.length ++ [0]) (ob l i).code.length = 0 := by
        have := nth_right (a := codeF l i (ob l i).code.length) (b := [0]) (k := 0)
        rw [codeF_len] at this
        exact this
      rw [← textF_len l i, nth_right, e]
    · have := bsF_end l (i := i) (n := n) (by omega)
      rw [nth_left (by rw [textF_len]; omega)]
      exact text_trap l (by omega)
/-- Each place of the text is a word's or a Trap's. -/
theorem place_of (l : List Ob) : ∀ {n j : Nat}, j < bsF l n → ∃ i k, i < n ∧ k ≤ (ob l i).code.length ∧ j = bsF l i + k
  | 0, j, h => by simp [bsF] at h
  | n + 1, j, h => by
    by_cases hj : j < bsF l n
    · obtain ⟨i, k, h1, h2, h3⟩ := place_of l hj
      exact ⟨i, k, by omega, h2, h3⟩
    · rw [bsF] at h
      exact ⟨n, j - bsF l n, by omega, by omega, by omega⟩
/-- Objects that link. -/
structure Lnk (l : List Ob) (nm : ByteArray) (mem : Int) (x : Nat × Int) : Prop where
  m0 : 0 ≤ mem
  m1 : mem ≤ 4096
  res : Res l
  found : findF nm l = some x
  near : farL l = none
  data : datE l mem.toNat = none
theorem lnk_ok {l : List Ob} {nm : ByteArray} {mem : Int} (h : lnkE l nm mem = none) : ∃ x, Lnk l nm mem x := by
  unfold lnkE at h
  split at h
  · cases h
  · rename_i hm
    split at h
    · cases h
    · rename_i hr
      cases hf : findF nm l with
      | none => rw [hf] at h; simp at h
      | some x =>
        rw [hf] at h
        simp only [Option.isSome_some, Bool.true_eq_false, if_false] at h
        split at h
        · cases h
        · rename_i hl
          exact ⟨x, by omega, by omega, res_ok hr, hf, hl, h⟩
theorem Lnk.short {l : List Ob} {nm : ByteArray} {mem : Int} {x : Nat × Int} (h : Lnk l nm mem x) : bsF l l.length ≤ 16384 := far_len h.near
theorem Lnk.lt {l : List Ob} {nm : ByteArray} {mem : Int} {x : Nat × Int} (h : Lnk l nm mem x) : x.1 < l.length ∧ 0 ≤ x.2 ∧ x.2 ≤ (ob l x.1).code.length := h.res.find h.found
theorem atR_lt {rs : List Rel} {p : Int} (h : 0 ≤ atR rs p) : (atR rs p).toNat < rs.length := by
  unfold atR at h ⊢
  have key : ∀ (l : List Rel) (k : Nat), 0 ≤ atFrom l p k → (atFrom l p k).toNat < k + l.length := by
    intro l
    induction l with
    | nil => intro k h; simp [atFrom] at h
    | cons a l ih =>
      intro k h
      unfold atFrom at h ⊢
      split
      · simp
      · rename_i hc
        rw [if_neg hc] at h
        have := ih (k + 1) h
        simp only [List.length_cons]
        omega
  have := key rs 0 h
  omega
/-- Where a target has gone lies in the text. -/
theorem Lnk.goes {l : List Ob} {nm : ByteArray} {mem : Int} {x : Nat × Int} (h : Lnk l nm mem x) {i k : Nat} (hi : i < l.length) (hk : k < (ob l i).code.length) (hT : isT (nth (ob l i).code k) = true) (hc : 0 ≤ tgV (nth (ob l i).code k)) : 0 ≤ toF l i k ∧ toF l i k < bsF l l.length := by
  have hm := h.res.may i hi
  unfold toF
  split
  · rename_i ha
    have hr := atR_lt ha
    have hs := (rel_parts.1 (hm.2.2.1 _ hr))
    obtain ⟨x1, y1, e, hx, hy0, hy1, -⟩ := h.res.stand hi (k := (rSym (ob l i).rs (atR (ob l i).rs k).toNat).toNat) (by omega)
    rw [e]
    have := bsF_end l hx
    simp only [Int.toNat_natCast]
    omega
  · have := bsF_end l hi
    have hcd := cod_parts.1 (hm.2.2.2 k hk) hT
    omega
theorem tg_pos {v : Int} (hT : isT v = true) : 0 ≤ tgV v ∧ tgV v < 16384 := by
  obtain ⟨hi, hP', h0⟩ := isT_ins hT
  have hd : dOp v = wOp v := by unfold dOp; rw [hi]; simp
  have hi2 := hi
  unfold isIns at hi2
  rw [Bool.and_eq_true] at hi2
  have hok := hi2.2
  unfold insOK numOK at hok
  rw [hd] at hP'
  simp only [Bool.and_eq_true, zhP_hN hP', hP', if_true, decide_eq_true_iff] at hok
  have e : tgV v = wN v := by unfold tgV dN; rw [hT, hi]; simp
  rw [e]
  exact hok.2
/-- A word of the text. -/
theorem Lnk.word {l : List Ob} {nm : ByteArray} {mem : Int} {x : Nat × Int} (h : Lnk l nm mem x) {i k : Nat} (hi : i < l.length) (hk : k < (ob l i).code.length) (hT : isT (nth (ob l i).code k) = true) : isT (wordF l i k) = true ∧ tgV (wordF l i k) = toF l i k ∧ aimV (wordF l i k) 0 = aimV (nth (ob l i).code k) 0 ∧ 0 ≤ toF l i k ∧ toF l i k < bsF l l.length := by
  have hg := h.goes hi hk hT (tg_pos hT).1
  have hs := h.short
  have hp : 0 ≤ toF l i k ∧ toF l i k < 16384 := by omega
  have e : wordF l i k = aimV (nth (ob l i).code k) (toF l i k) := by unfold wordF; rw [if_pos hT]
  rw [e]
  obtain ⟨a, b⟩ := aim_target (aim_ok hT hp)
  exact ⟨a, b, aim_again hT hp (by decide), hg⟩
theorem word_same {l : List Ob} {i k : Nat} (hT : isT (nth (ob l i).code k) = false) : wordF l i k = nth (ob l i).code k := by
  unfold wordF; rw [hT]; rfl
theorem isT_zero : isT 0 = false := by decide
theorem last_zero : lastOK 0 = true := by decide
/-- What was linked may be. -/
theorem Lnk.may {l : List Ob} {nm : ByteArray} {mem : Int} {x : Nat × Int} (h : Lnk l nm mem x) : MayI (textF l l.length) mem.toNat ((bsF l x.1 : Int) + x.2) := by
  obtain ⟨h1, h2, h3⟩ := h.lt
  have hb := bsF_end l h1
  have hs := h.short
  refine ⟨⟨by rw [textF_len]; omega, by rw [textF_len]; exact hs, by have := h.m1; omega, by omega, by rw [textF_len]; omega⟩, fun j hj => ?_, ?_⟩
  · rw [textF_len] at hj
    obtain ⟨i, k, hi, hk, rfl⟩ := place_of l hj
    unfold farT
    rw [textF_len]
    by_cases hk2 : k < (ob l i).code.length
    · rw [text_word l hi hk2]
      cases hT : isT (nth (ob l i).code k)
      · rw [word_same hT, hT]; rfl
      · obtain ⟨a, b, -, -, d⟩ := h.word hi hk2 hT
        rw [b, decide_eq_false (by omega), Bool.and_false]
    · obtain rfl : k = (ob l i).code.length := by omega
      rw [text_trap l hi, isT_zero]; rfl
  · have hl : l.length = (l.length - 1) + 1 := by omega
    have e : (textF l l.length).length - 1 = bsF l (l.length - 1) + (ob l (l.length - 1)).code.length := by
      rw [textF_len]
      conv => lhs; rw [hl]
      rw [bsF]; omega
    rw [e, text_trap l (by omega)]
    exact last_zero
/-- The words are words. -/
theorem text_range {l : List Ob} (hc : ∀ i, i < l.length → ∀ k, k < (ob l i).code.length → 0 ≤ nth (ob l i).code k ∧ nth (ob l i).code k < 4294967296) (j : Nat) (hj : j < (textF l l.length).length) : 0 ≤ nth (textF l l.length) j ∧ nth (textF l l.length) j < 4294967296 := by
  rw [textF_len] at hj
  obtain ⟨i, k, hi, hk, rfl⟩ := place_of l hj
  by_cases hk2 : k < (ob l i).code.length
  · rw [text_word l hi hk2]
    unfold wordF
    split
    · exact aim_range _ _
    · exact hc i hi k hk2
  · obtain rfl : k = (ob l i).code.length := by omega
    rw [text_trap l hi]
    decide
theorem Lnk.lnkT {l : List Ob} {nm : ByteArray} {mem : Int} (h : lnkE l nm mem = none) : lnkT l nm mem = textF l l.length := by unfold Go.Proofs.YthpkekpojhmaaaaGreatDoor.lnkT; rw [h]; rfl
theorem Lnk.lnkM {l : List Ob} {nm : ByteArray} {mem : Int} (h : lnkE l nm mem = none) : (lnkM l nm mem).length = mem.toNat := by unfold Go.Proofs.YthpkekpojhmaaaaGreatDoor.lnkM; rw [h]; simp [datL]
theorem Lnk.lnkN {l : List Ob} {nm : ByteArray} {mem : Int} {x : Nat × Int} (h : lnkE l nm mem = none) (hx : findF nm l = some x) : lnkN l nm mem = (bsF l x.1 : Int) + x.2 := by unfold Go.Proofs.YthpkekpojhmaaaaGreatDoor.lnkN; rw [h, hx]; rfl
theorem Lnk.basL {l : List Ob} {nm : ByteArray} {mem : Int} {x : Nat × Int} (h : Lnk l nm mem x) : basE l = 0 ∧ basL l = (List.range l.length).map fun i => (bsF l i : Int) := by
  have e : basE l = 0 := by
    unfold basE
    rw [if_neg (by have := h.res.few; omega), h.near]
    rfl
  exact ⟨e, by unfold Go.Proofs.YthpkekpojhmaaaaGreatDoor.basL; rw [if_pos e]⟩


end Go.Proofs.YthpkekpojhmaaaaGreatDoor

namespace Go.Proofs.YthpkekpojhmaaaaGreatDoor
open Go.RowKit

set_option maxRecDepth 100000 in
set_option maxHeartbeats 1000000 in
theorem sparewords_any (g n : Nat) (w : World) (hA : ∀ i, n ≤ i → i < n + 64 → w.cell? ⟨g, i, none⟩ = some (.int .u32 (9437184 + i + 1))) (hz : n ≤ 1048576) :
    Calls Tryz.prog 104 #[.slice (some ⟨g, 0, none⟩) n (n + 64)] w fun e w' => e = .returned (.bool true) ∧ w' = w := by
  go_enter Tryz.func104, Tryz.ntmps104
  go_wp2
  go_loop [4] (fun i => ∃ k : Nat, i = .int .i64 k ∧ n ≤ k ∧ k ≤ n + 64) (fun i => n + 64 - (intOf i).toNat)
  case atStart => exact ⟨n, rfl, by omega, by omega⟩
  case round =>
    obtain ⟨k, rfl, hk, hk2⟩ := hrel
    by_cases hlt : k < n + 64
    · have c := hA k hk hlt
      go_wp2_with fail
      refine (num_any 9 k (by omega) (by omega) (by omega) (by omega) _).mono ?_
      rintro e w1 ⟨rfl, rfl⟩
      go_wp2
      go_round
      case rel => exact ⟨k + 1, by go_num, by omega, by omega⟩
      case measure => simp [intOf]; omega
    · go_wp2
      go_ret
      exact ⟨rfl, rfl⟩

set_option maxRecDepth 100000 in
set_option maxHeartbeats 1000000 in
theorem sparelongs_any (g n : Nat) (w : World) (hA : ∀ i, n ≤ i → i < n + 64 → w.cell? ⟨g, i, none⟩ = some (.int .i64 (9437184 + i + 1))) (hz : n ≤ 1048576) :
    Calls Tryz.prog 105 #[.slice (some ⟨g, 0, none⟩) n (n + 64)] w fun e w' => e = .returned (.bool true) ∧ w' = w := by
  go_enter Tryz.func105, Tryz.ntmps105
  go_wp2
  go_loop [4] (fun i => ∃ k : Nat, i = .int .i64 k ∧ n ≤ k ∧ k ≤ n + 64) (fun i => n + 64 - (intOf i).toNat)
  case atStart => exact ⟨n, rfl, by omega, by omega⟩
  case round =>
    obtain ⟨k, rfl, hk, hk2⟩ := hrel
    by_cases hlt : k < n + 64
    · have c := hA k hk hlt
      go_wp2_with fail
      refine (num_any 9 k (by omega) (by omega) (by omega) (by omega) _).mono ?_
      rintro e w1 ⟨rfl, rfl⟩
      go_wp2
      go_round
      case rel => exact ⟨k + 1, by go_num, by omega, by omega⟩
      case measure => simp [intOf]; omega
    · go_wp2
      go_ret
      exact ⟨rfl, rfl⟩
set_option maxRecDepth 100000 in
set_option maxHeartbeats 1000000 in
theorem sparerel_any (g n : Nat) (w : World) (hA : ∀ i, n ≤ i → i < n + 64 → w.cell? ⟨g, i * 2, none⟩ = some (.int .i64 (9437184 + i + 1)) ∧ w.cell? ⟨g, i * 2 + 1, none⟩ = some (.int .i64 0)) (hz : n ≤ 1048576) :
    Calls Tryz.prog 107 #[.slice (some ⟨g, 0, none⟩) n (n + 64)] w fun e w' => e = .returned (.bool true) ∧ Below w.heap.size w w' := by
  go_enter Tryz.func107, Tryz.ntmps107
  go_wp2
  go_loopw [4] (fun i wr => ∃ k : Nat, i = .int .i64 k ∧ n ≤ k ∧ k ≤ n + 64 ∧ Below w.heap.size w wr) (fun i _ => n + 64 - (intOf i).toNat)
  case atStart => exact ⟨n, rfl, by omega, by omega, Below.refl _ _⟩
  case round =>
    obtain ⟨k, rfl, hk, hk2, hB⟩ := hrel
    rename_i wr _
    by_cases hlt : k < n + 64
    · obtain ⟨c0, c1⟩ := hA k hk hlt
      replace c0 := lkeep hB c0
      replace c1 := lkeep hB c1
      have HB : Hid (Below w.heap.size w _) := hB
      clear hB
      go_wp2_with fail
      go_quiet ((go_at_call 36; exact Calls.quiet_of_same (num_any _ _ (by omega) (by omega) (by omega) (by omega) _)))
      go_wp2
      go_roundw
      case rel => exact ⟨k + 1, by go_num, by omega, by omega, below_drewN (lb_alloc HB.out _) _⟩
      case measure => simp [intOf]; omega
    · go_wp2
      go_ret
      exact ⟨rfl, hB⟩

set_option maxRecDepth 100000 in
set_option maxHeartbeats 1000000 in
theorem sparesym_any (g n : Nat) (w : World) (hA : ∀ i, n ≤ i → i < n + 64 → w.cell? ⟨g, i * 3, none⟩ = some (.string ⟨#[]⟩) ∧ w.cell? ⟨g, i * 3 + 1, none⟩ = some (.int .i8 0) ∧ w.cell? ⟨g, i * 3 + 2, none⟩ = some (.int .i64 (9437184 + i + 1))) (hz : n ≤ 1048576) :
    Calls Tryz.prog 106 #[.slice (some ⟨g, 0, none⟩) n (n + 64)] w fun e w' => e = .returned (.bool true) ∧ Below w.heap.size w w' := by
  go_enter Tryz.func106, Tryz.ntmps106
  go_wp2
  go_loopw [4] (fun i wr => ∃ k : Nat, i = .int .i64 k ∧ n ≤ k ∧ k ≤ n + 64 ∧ Below w.heap.size w wr) (fun i _ => n + 64 - (intOf i).toNat)
  case atStart => exact ⟨n, rfl, by omega, by omega, Below.refl _ _⟩
  case round =>
    obtain ⟨k, rfl, hk, hk2, hB⟩ := hrel
    rename_i wr _
    by_cases hlt : k < n + 64
    · obtain ⟨c0, c1, c2⟩ := hA k hk hlt
      replace c0 := lkeep hB c0
      replace c1 := lkeep hB c1
      replace c2 := lkeep hB c2
      have HB : Hid (Below w.heap.size w _) := hB
      clear hB
      go_wp2_with fail
      go_quiet ((go_at_call 36; exact Calls.quiet_of_same (num_any _ _ (by omega) (by omega) (by omega) (by omega) _)))
      go_wp2
      go_roundw
      case rel => exact ⟨k + 1, by go_num, by omega, by omega, below_drewN (lb_alloc HB.out _) _⟩
      case measure => simp [intOf]; omega
    · go_wp2
      go_ret
      exact ⟨rfl, hB⟩
def MarkI (w : World) (K : IntKind) (g n : Nat) : Prop := ∀ i, n ≤ i → i < n + 64 → w.cell? ⟨g, i, none⟩ = some (.int K (9437184 + i + 1))
def MarkS (w : World) (g n : Nat) : Prop := ∀ i, n ≤ i → i < n + 64 → w.cell? ⟨g, i * 3, none⟩ = some (.string ⟨#[]⟩) ∧ w.cell? ⟨g, i * 3 + 1, none⟩ = some (.int .i8 0) ∧ w.cell? ⟨g, i * 3 + 2, none⟩ = some (.int .i64 (9437184 + i + 1))
def MarkR (w : World) (g n : Nat) : Prop := ∀ i, n ≤ i → i < n + 64 → w.cell? ⟨g, i * 2, none⟩ = some (.int .i64 (9437184 + i + 1)) ∧ w.cell? ⟨g, i * 2 + 1, none⟩ = some (.int .i64 0)
theorem MarkI.keep {w w1 : World} {K : IntKind} {g n : Nat} (h : MarkI w K g n) (hb : Below w.heap.size w w1) : MarkI w1 K g n := fun i a b => lkeep hb (h i a b)
theorem MarkS.keep {w w1 : World} {g n : Nat} (h : MarkS w g n) (hb : Below w.heap.size w w1) : MarkS w1 g n := fun i a b => ⟨lkeep hb (h i a b).1, lkeep hb (h i a b).2.1, lkeep hb (h i a b).2.2⟩
theorem MarkR.keep {w w1 : World} {g n : Nat} (h : MarkR w g n) (hb : Below w.heap.size w w1) : MarkR w1 g n := fun i a b => ⟨lkeep hb (h i a b).1, lkeep hb (h i a b).2⟩
set_option maxRecDepth 100000 in
set_option maxHeartbeats 2000000 in
theorem spareobj_any (nm : ByteArray) (dA : Int) (g1 n1 g2 n2 g3 n3 g4 n4 : Nat) (w : World) (m1 : MarkI w .u32 g1 n1) (m2 : MarkI w .i64 g2 n2) (m3 : MarkS w g3 n3) (m4 : MarkR w g4 n4) (b1 : n1 ≤ 1048576) (b2 : n2 ≤ 1048576) (b3 : n3 ≤ 1048576) (b4 : n4 ≤ 1048576) :
    Calls Tryz.prog 47 #[.agg #[.string nm, .slice (some ⟨g1, 0, none⟩) n1 (n1 + 64), .int .i64 dA, .slice (some ⟨g2, 0, none⟩) n2 (n2 + 64), .slice (some ⟨g3, 0, none⟩) n3 (n3 + 64), .slice (some ⟨g4, 0, none⟩) n4 (n4 + 64)]] w fun e w' => e = .returned (.bool true) ∧ Below w.heap.size w w' := by
  go_enter Tryz.func47, Tryz.ntmps47
  go_wp2_with fail
  refine (sparewords_any g1 n1 _ (m1.keep (lb_alloc (Below.refl _ _) _)) b1).mono ?_
  rintro e w0 ⟨rfl, rfl⟩
  go_wp2_with fail
  refine (sparelongs_any g2 n2 _ (m2.keep (lb_alloc (Below.refl _ _) _)) b2).mono ?_
  rintro e w1 ⟨rfl, rfl⟩
  go_wp2_with fail
  refine (sparesym_any g3 n3 _ (m3.keep (lb_alloc (Below.refl _ _) _)) b3).mono ?_
  rintro e w2 ⟨rfl, hb2⟩
  have HB2 : Hid (Below w.heap.size w w2) := lb_trans (lb_alloc (Below.refl _ _) _) hb2
  have q20 : w2.cell? ⟨w.heap.size, 0, none⟩ = some (.string nm) := lkeep hb2 (by simp [go_sem])
  have q21 : w2.cell? ⟨w.heap.size, 1, none⟩ = some (.slice (some ⟨g1, 0, none⟩) n1 (n1 + 64)) := lkeep hb2 (by simp [go_sem])
  have q22 : w2.cell? ⟨w.heap.size, 2, none⟩ = some (.int .i64 dA) := lkeep hb2 (by simp [go_sem])
  have q23 : w2.cell? ⟨w.heap.size, 3, none⟩ = some (.slice (some ⟨g2, 0, none⟩) n2 (n2 + 64)) := lkeep hb2 (by simp [go_sem])
  have q24 : w2.cell? ⟨w.heap.size, 4, none⟩ = some (.slice (some ⟨g3, 0, none⟩) n3 (n3 + 64)) := lkeep hb2 (by simp [go_sem])
  have q25 : w2.cell? ⟨w.heap.size, 5, none⟩ = some (.slice (some ⟨g4, 0, none⟩) n4 (n4 + 64)) := lkeep hb2 (by simp [go_sem])
  clear hb2
  go_wp2_with fail
  refine (sparerel_any g4 n4 _ (m4.keep (HB2.out)) b4).mono ?_
  rintro e w3 ⟨rfl, hb3⟩
  have HB3 : Hid (Below w.heap.size w w3) := lb_trans (HB2.out) hb3
  have q30 := lkeep hb3 q20
  have q31 := lkeep hb3 q21
  have q32 := lkeep hb3 q22
  have q33 := lkeep hb3 q23
  have q34 := lkeep hb3 q24
  have q35 := lkeep hb3 q25
  clear hb3
  go_wp2
  go_ret
  exact ⟨rfl, HB3.out⟩






end Go.Proofs.YthpkekpojhmaaaaGreatDoor

namespace Go.Proofs.YthpkekpojhmaaaaGreatDoor
open Go.RowKit

set_option maxRecDepth 100000 in
set_option maxHeartbeats 2000000 in
theorem wideobj_any (nm : ByteArray) (dA : Int) (A1 A2 A3 A4 : Option Addr) (c1 c2 c3 c4 : Nat) (code data : List Int) (ss : List Sym) (rs : List Rel) (w : World) (hC : IntsAt w A1 .u32 code) (hD : IntsAt w A2 .i64 data) (hS : SymsAt w A3 ss) (hL : RelsAt w A4 rs) (hc : code.length ≤ 1048576) (hd : data.length ≤ 1048576) (hs : ss.length ≤ 1048576) (hl : rs.length ≤ 1048576) :
    Calls Tryz.prog 35 #[.agg #[.string nm, .slice A1 code.length c1, .int .i64 dA, .slice A2 data.length c2, .slice A3 ss.length c3, .slice A4 rs.length c4]] w fun e w' => e = .returned (.agg #[.string nm, .slice (some ⟨w.heap.size + 2, 0, none⟩) code.length (code.length + 64), .int .i64 dA, .slice (some ⟨w.heap.size + 3, 0, none⟩) data.length (data.length + 64), .slice (some ⟨w.heap.size + 4, 0, none⟩) ss.length (ss.length + 64), .slice (some ⟨w.heap.size + 5, 0, none⟩) rs.length (rs.length + 64)]) ∧ w' = (((((w.alloc (.cells #[.string nm, .slice (some ⟨w.heap.size + 2, 0, none⟩) code.length (code.length + 64), .int .i64 dA, .slice (some ⟨w.heap.size + 3, 0, none⟩) data.length (data.length + 64), .slice (some ⟨w.heap.size + 4, 0, none⟩) ss.length (ss.length + 64), .slice (some ⟨w.heap.size + 5, 0, none⟩) rs.length (rs.length + 64)] 75)).alloc (.cells #[.string nm, .slice (some ⟨w.heap.size + 2, 0, none⟩) code.length (code.length + 64), .int .i64 dA, .slice (some ⟨w.heap.size + 3, 0, none⟩) data.length (data.length + 64), .slice (some ⟨w.heap.size + 4, 0, none⟩) ss.length (ss.length + 64), .slice (some ⟨w.heap.size + 5, 0, none⟩) rs.length (rs.length + 64)] 75)).alloc (.cells (wcur (wInt .u32 code) (fun _ => .int .u32 0) (code.length + 64) (code.length + 64)) 78)).alloc (.cells (wcur (wInt .i64 data) (fun _ => .int .i64 0) (data.length + 64) (data.length + 64)) 2)).alloc (.cells (wcur (wSym ss) zSym ((ss.length + 64) * 3) ((ss.length + 64) * 3)) 131)).alloc (.cells (wcur (wRel rs) (fun _ => .int .i64 0) ((rs.length + 64) * 2) ((rs.length + 64) * 2)) 83) := by
  go_enter Tryz.func35, Tryz.ntmps35
  go_wp2_with fail
  refine (widewords_any A1 c1 code _ (hC.keep (lb_alloc (lb_alloc (Below.refl _ _) _) _)) hc).mono ?_
  rintro e w1 ⟨rfl, rfl⟩
  go_wp2_with fail
  refine (widelongs_any A2 c2 data _ (hD.keep (lb_alloc (lb_alloc (lb_alloc (Below.refl _ _) _) _) _)) hd).mono ?_
  rintro e w1 ⟨rfl, rfl⟩
  go_wp2_with fail
  refine (widesym_any A3 c3 ss _ (hS.keep (lb_alloc (lb_alloc (lb_alloc (lb_alloc (Below.refl _ _) _) _) _) _)) hs).mono ?_
  rintro e w1 ⟨rfl, rfl⟩
  go_wp2_with fail
  refine (widerel_any A4 c4 rs _ (hL.keep (lb_alloc (lb_alloc (lb_alloc (lb_alloc (lb_alloc (Below.refl _ _) _) _) _) _) _)) hl).mono ?_
  rintro e w1 ⟨rfl, rfl⟩
  go_wp2
  exact bodyPost_ret (v := .agg #[.string nm, .slice (some ⟨w.heap.size + 2, 0, none⟩) code.length (code.length + 64), .int .i64 dA, .slice (some ⟨w.heap.size + 3, 0, none⟩) data.length (data.length + 64), .slice (some ⟨w.heap.size + 4, 0, none⟩) ss.length (ss.length + 64), .slice (some ⟨w.heap.size + 5, 0, none⟩) rs.length (rs.length + 64)]) (by simp [results, Tryz.results35, go_sem]) rfl ⟨rfl, rfl⟩







end Go.Proofs.YthpkekpojhmaaaaGreatDoor

namespace Go.Proofs.YthpkekpojhmaaaaGreatDoor
open Go.RowKit

theorem al_size (X : World) (o : Obj) : (X.alloc o).heap.size = X.heap.size + 1 := by simp
theorem addz (g i : Nat) : (⟨g, 0, none⟩ : Addr).add i = ⟨g, i, none⟩ := by
  unfold Addr.add; split
  · subst_vars; rfl
  · simp
theorem addz2 (g i j : Nat) (hj : ¬ j = 0) : ((⟨g, 0, none⟩ : Addr).add i).add j = ⟨g, i + j, none⟩ := by
  rw [addz]; unfold Addr.add; rw [if_neg hj]
theorem row_new (X : World) (cs : Array Value) (t : TypeId) (j : Nat) (v : Value) (h : cs[j]? = some v) : (X.alloc (.cells cs t)).cell? ⟨X.heap.size, j, none⟩ = some v := by
  rw [cell_of_row _ _ _ _ _ _ (heap_alloc_new X _)]; exact h
theorem wcur_full (f z : Nat → Value) (N i : Nat) (h : i < N) : (wcur f z N N)[i]? = some (f i) := by rw [wcur_get _ _ _ _ _ h, if_pos h]
theorem wide_ints (X : World) (K : IntKind) (z : Nat → Value) (zs : List Int) (t : TypeId) : IntsAt (X.alloc (.cells (wcur (wInt K zs) z (zs.length + 64) (zs.length + 64)) t)) (some ⟨X.heap.size, 0, none⟩) K zs := fun i hi =>
  ⟨_, rfl, by rw [addz]; exact row_new _ _ _ _ _ (by rw [wcur_full _ _ _ _ (by omega)]; simp [wInt, hi])⟩
theorem wide_marki (X : World) (K : IntKind) (z : Nat → Value) (zs : List Int) (t : TypeId) : MarkI (X.alloc (.cells (wcur (wInt K zs) z (zs.length + 64) (zs.length + 64)) t)) K X.heap.size zs.length := fun i h1 h2 =>
  row_new _ _ _ _ _ (by rw [wcur_full _ _ _ _ h2]; simp [wInt, mark, show ¬ i < zs.length by omega])
theorem wide_syms (X : World) (zs : List Sym) (t : TypeId) : SymsAt (X.alloc (.cells (wcur (wSym zs) zSym ((zs.length + 64) * 3) ((zs.length + 64) * 3)) t)) (some ⟨X.heap.size, 0, none⟩) zs := fun i hi =>
  ⟨_, rfl, by rw [addz]; exact row_new _ _ _ _ _ (by rw [wcur_full _ _ _ _ (by omega), wSym_item0 zs i hi]), by rw [addz2 _ _ _ (by omega)]; exact row_new _ _ _ _ _ (by rw [wcur_full _ _ _ _ (by omega), wSym_item1 zs i hi]), by rw [addz2 _ _ _ (by omega)]; exact row_new _ _ _ _ _ (by rw [wcur_full _ _ _ _ (by omega), wSym_item2 zs i hi])⟩
theorem wide_marks (X : World) (zs : List Sym) (t : TypeId) : MarkS (X.alloc (.cells (wcur (wSym zs) zSym ((zs.length + 64) * 3) ((zs.length + 64) * 3)) t)) X.heap.size zs.length := fun i h1 h2 =>
  ⟨row_new _ _ _ _ _ (by rw [wcur_full _ _ _ _ (by omega), wSym_mark0 zs i (by omega)]), row_new _ _ _ _ _ (by rw [wcur_full _ _ _ _ (by omega), wSym_mark1 zs i (by omega)]), row_new _ _ _ _ _ (by rw [wcur_full _ _ _ _ (by omega), wSym_mark2 zs i (by omega)])⟩
theorem wide_rels (X : World) (z : Nat → Value) (zs : List Rel) (t : TypeId) : RelsAt (X.alloc (.cells (wcur (wRel zs) z ((zs.length + 64) * 2) ((zs.length + 64) * 2)) t)) (some ⟨X.heap.size, 0, none⟩) zs := fun i hi =>
  ⟨_, rfl, by rw [addz]; exact row_new _ _ _ _ _ (by rw [wcur_full _ _ _ _ (by omega), wRel_item0 zs i hi]), by rw [addz2 _ _ _ (by omega)]; exact row_new _ _ _ _ _ (by rw [wcur_full _ _ _ _ (by omega), wRel_item1 zs i hi])⟩
theorem wide_markr (X : World) (z : Nat → Value) (zs : List Rel) (t : TypeId) : MarkR (X.alloc (.cells (wcur (wRel zs) z ((zs.length + 64) * 2) ((zs.length + 64) * 2)) t)) X.heap.size zs.length := fun i h1 h2 =>
  ⟨row_new _ _ _ _ _ (by rw [wcur_full _ _ _ _ (by omega), wRel_mark0 zs i (by omega)]), row_new _ _ _ _ _ (by rw [wcur_full _ _ _ _ (by omega), wRel_mark1 zs i (by omega)])⟩
theorem wideobj_lies (nm : ByteArray) (dA : Int) (A1 A2 A3 A4 : Option Addr) (c1 c2 c3 c4 : Nat) (code data : List Int) (ss : List Sym) (rs : List Rel) (w : World) (hC : IntsAt w A1 .u32 code) (hD : IntsAt w A2 .i64 data) (hS : SymsAt w A3 ss) (hL : RelsAt w A4 rs) (hc : code.length ≤ 1048576) (hd : data.length ≤ 1048576) (hs : ss.length ≤ 1048576) (hl : rs.length ≤ 1048576) :
    Calls Tryz.prog 35 #[.agg #[.string nm, .slice A1 code.length c1, .int .i64 dA, .slice A2 data.length c2, .slice A3 ss.length c3, .slice A4 rs.length c4]] w fun e w' => ∃ g1 g2 g3 g4 : Nat, e = .returned (.agg #[.string nm, .slice (some ⟨g1, 0, none⟩) code.length (code.length + 64), .int .i64 dA, .slice (some ⟨g2, 0, none⟩) data.length (data.length + 64), .slice (some ⟨g3, 0, none⟩) ss.length (ss.length + 64), .slice (some ⟨g4, 0, none⟩) rs.length (rs.length + 64)]) ∧
      Below w.heap.size w w' ∧ IntsAt w' (some ⟨g1, 0, none⟩) .u32 code ∧ IntsAt w' (some ⟨g2, 0, none⟩) .i64 data ∧ SymsAt w' (some ⟨g3, 0, none⟩) ss ∧ RelsAt w' (some ⟨g4, 0, none⟩) rs ∧ MarkI w' .u32 g1 code.length ∧ MarkI w' .i64 g2 data.length ∧ MarkS w' g3 ss.length ∧ MarkR w' g4 rs.length := by
  refine (wideobj_any nm dA A1 A2 A3 A4 c1 c2 c3 c4 code data ss rs w hC hD hS hL hc hd hs hl).mono ?_
  rintro e w' ⟨rfl, rfl⟩
  refine ⟨w.heap.size + 2, w.heap.size + 3, w.heap.size + 4, w.heap.size + 5, rfl, lb_alloc (lb_alloc (lb_alloc (lb_alloc (lb_alloc (lb_alloc (Below.refl _ _) _) _) _) _) _) _, ?_, ?_, ?_, ?_, ?_, ?_, ?_, ?_⟩
  · have h := wide_ints ((w.alloc (.cells #[.string nm, .slice (some ⟨w.heap.size + 2, 0, none⟩) code.length (code.length + 64), .int .i64 dA, .slice (some ⟨w.heap.size + 3, 0, none⟩) data.length (data.length + 64), .slice (some ⟨w.heap.size + 4, 0, none⟩) ss.length (ss.length + 64), .slice (some ⟨w.heap.size + 5, 0, none⟩) rs.length (rs.length + 64)] 75)).alloc (.cells #[.string nm, .slice (some ⟨w.heap.size + 2, 0, none⟩) code.length (code.length + 64), .int .i64 dA, .slice (some ⟨w.heap.size + 3, 0, none⟩) data.length (data.length + 64), .slice (some ⟨w.heap.size + 4, 0, none⟩) ss.length (ss.length + 64), .slice (some ⟨w.heap.size + 5, 0, none⟩) rs.length (rs.length + 64)] 75)) .u32 (fun _ => .int .u32 0) code 78
    simp only [al_size, Nat.add_assoc, Nat.reduceAdd] at h
    exact h.keep (lb_alloc (lb_alloc (lb_alloc (Below.refl _ _) _) _) _)
  · have h := wide_ints (((w.alloc (.cells #[.string nm, .slice (some ⟨w.heap.size + 2, 0, none⟩) code.length (code.length + 64), .int .i64 dA, .slice (some ⟨w.heap.size + 3, 0, none⟩) data.length (data.length + 64), .slice (some ⟨w.heap.size + 4, 0, none⟩) ss.length (ss.length + 64), .slice (some ⟨w.heap.size + 5, 0, none⟩) rs.length (rs.length + 64)] 75)).alloc (.cells #[.string nm, .slice (some ⟨w.heap.size + 2, 0, none⟩) code.length (code.length + 64), .int .i64 dA, .slice (some ⟨w.heap.size + 3, 0, none⟩) data.length (data.length + 64), .slice (some ⟨w.heap.size + 4, 0, none⟩) ss.length (ss.length + 64), .slice (some ⟨w.heap.size + 5, 0, none⟩) rs.length (rs.length + 64)] 75)).alloc (.cells (wcur (wInt .u32 code) (fun _ => .int .u32 0) (code.length + 64) (code.length + 64)) 78)) .i64 (fun _ => .int .i64 0) data 2
    simp only [al_size, Nat.add_assoc, Nat.reduceAdd] at h
    exact h.keep (lb_alloc (lb_alloc (Below.refl _ _) _) _)
  · have h := wide_syms ((((w.alloc (.cells #[.string nm, .slice (some ⟨w.heap.size + 2, 0, none⟩) code.length (code.length + 64), .int .i64 dA, .slice (some ⟨w.heap.size + 3, 0, none⟩) data.length (data.length + 64), .slice (some ⟨w.heap.size + 4, 0, none⟩) ss.length (ss.length + 64), .slice (some ⟨w.heap.size + 5, 0, none⟩) rs.length (rs.length + 64)] 75)).alloc (.cells #[.string nm, .slice (some ⟨w.heap.size + 2, 0, none⟩) code.length (code.length + 64), .int .i64 dA, .slice (some ⟨w.heap.size + 3, 0, none⟩) data.length (data.length + 64), .slice (some ⟨w.heap.size + 4, 0, none⟩) ss.length (ss.length + 64), .slice (some ⟨w.heap.size + 5, 0, none⟩) rs.length (rs.length + 64)] 75)).alloc (.cells (wcur (wInt .u32 code) (fun _ => .int .u32 0) (code.length + 64) (code.length + 64)) 78)).alloc (.cells (wcur (wInt .i64 data) (fun _ => .int .i64 0) (data.length + 64) (data.length + 64)) 2)) ss 131
    simp only [al_size, Nat.add_assoc, Nat.reduceAdd] at h
    exact h.keep (lb_alloc (Below.refl _ _) _)
  · have h := wide_rels (((((w.alloc (.cells #[.string nm, .slice (some ⟨w.heap.size + 2, 0, none⟩) code.length (code.length + 64), .int .i64 dA, .slice (some ⟨w.heap.size + 3, 0, none⟩) data.length (data.length + 64), .slice (some ⟨w.heap.size + 4, 0, none⟩) ss.length (ss.length + 64), .slice (some ⟨w.heap.size + 5, 0, none⟩) rs.length (rs.length + 64)] 75)).alloc (.cells #[.string nm, .slice (some ⟨w.heap.size + 2, 0, none⟩) code.length (code.length + 64), .int .i64 dA, .slice (some ⟨w.heap.size + 3, 0, none⟩) data.length (data.length + 64), .slice (some ⟨w.heap.size + 4, 0, none⟩) ss.length (ss.length + 64), .slice (some ⟨w.heap.size + 5, 0, none⟩) rs.length (rs.length + 64)] 75)).alloc (.cells (wcur (wInt .u32 code) (fun _ => .int .u32 0) (code.length + 64) (code.length + 64)) 78)).alloc (.cells (wcur (wInt .i64 data) (fun _ => .int .i64 0) (data.length + 64) (data.length + 64)) 2)).alloc (.cells (wcur (wSym ss) zSym ((ss.length + 64) * 3) ((ss.length + 64) * 3)) 131)) (fun _ => .int .i64 0) rs 83
    simp only [al_size, Nat.add_assoc, Nat.reduceAdd] at h
    exact h
  · have h := wide_marki ((w.alloc (.cells #[.string nm, .slice (some ⟨w.heap.size + 2, 0, none⟩) code.length (code.length + 64), .int .i64 dA, .slice (some ⟨w.heap.size + 3, 0, none⟩) data.length (data.length + 64), .slice (some ⟨w.heap.size + 4, 0, none⟩) ss.length (ss.length + 64), .slice (some ⟨w.heap.size + 5, 0, none⟩) rs.length (rs.length + 64)] 75)).alloc (.cells #[.string nm, .slice (some ⟨w.heap.size + 2, 0, none⟩) code.length (code.length + 64), .int .i64 dA, .slice (some ⟨w.heap.size + 3, 0, none⟩) data.length (data.length + 64), .slice (some ⟨w.heap.size + 4, 0, none⟩) ss.length (ss.length + 64), .slice (some ⟨w.heap.size + 5, 0, none⟩) rs.length (rs.length + 64)] 75)) .u32 (fun _ => .int .u32 0) code 78
    simp only [al_size, Nat.add_assoc, Nat.reduceAdd] at h
    exact h.keep (lb_alloc (lb_alloc (lb_alloc (Below.refl _ _) _) _) _)
  · have h := wide_marki (((w.alloc (.cells #[.string nm, .slice (some ⟨w.heap.size + 2, 0, none⟩) code.length (code.length + 64), .int .i64 dA, .slice (some ⟨w.heap.size + 3, 0, none⟩) data.length (data.length + 64), .slice (some ⟨w.heap.size + 4, 0, none⟩) ss.length (ss.length + 64), .slice (some ⟨w.heap.size + 5, 0, none⟩) rs.length (rs.length + 64)] 75)).alloc (.cells #[.string nm, .slice (some ⟨w.heap.size + 2, 0, none⟩) code.length (code.length + 64), .int .i64 dA, .slice (some ⟨w.heap.size + 3, 0, none⟩) data.length (data.length + 64), .slice (some ⟨w.heap.size + 4, 0, none⟩) ss.length (ss.length + 64), .slice (some ⟨w.heap.size + 5, 0, none⟩) rs.length (rs.length + 64)] 75)).alloc (.cells (wcur (wInt .u32 code) (fun _ => .int .u32 0) (code.length + 64) (code.length + 64)) 78)) .i64 (fun _ => .int .i64 0) data 2
    simp only [al_size, Nat.add_assoc, Nat.reduceAdd] at h
    exact h.keep (lb_alloc (lb_alloc (Below.refl _ _) _) _)
  · have h := wide_marks ((((w.alloc (.cells #[.string nm, .slice (some ⟨w.heap.size + 2, 0, none⟩) code.length (code.length + 64), .int .i64 dA, .slice (some ⟨w.heap.size + 3, 0, none⟩) data.length (data.length + 64), .slice (some ⟨w.heap.size + 4, 0, none⟩) ss.length (ss.length + 64), .slice (some ⟨w.heap.size + 5, 0, none⟩) rs.length (rs.length + 64)] 75)).alloc (.cells #[.string nm, .slice (some ⟨w.heap.size + 2, 0, none⟩) code.length (code.length + 64), .int .i64 dA, .slice (some ⟨w.heap.size + 3, 0, none⟩) data.length (data.length + 64), .slice (some ⟨w.heap.size + 4, 0, none⟩) ss.length (ss.length + 64), .slice (some ⟨w.heap.size + 5, 0, none⟩) rs.length (rs.length + 64)] 75)).alloc (.cells (wcur (wInt .u32 code) (fun _ => .int .u32 0) (code.length + 64) (code.length + 64)) 78)).alloc (.cells (wcur (wInt .i64 data) (fun _ => .int .i64 0) (data.length + 64) (data.length + 64)) 2)) ss 131
    simp only [al_size, Nat.add_assoc, Nat.reduceAdd] at h
    exact h.keep (lb_alloc (Below.refl _ _) _)
  · have h := wide_markr (((((w.alloc (.cells #[.string nm, .slice (some ⟨w.heap.size + 2, 0, none⟩) code.length (code.length + 64), .int .i64 dA, .slice (some ⟨w.heap.size + 3, 0, none⟩) data.length (data.length + 64), .slice (some ⟨w.heap.size + 4, 0, none⟩) ss.length (ss.length + 64), .slice (some ⟨w.heap.size + 5, 0, none⟩) rs.length (rs.length + 64)] 75)).alloc (.cells #[.string nm, .slice (some ⟨w.heap.size + 2, 0, none⟩) code.length (code.length + 64), .int .i64 dA, .slice (some ⟨w.heap.size + 3, 0, none⟩) data.length (data.length + 64), .slice (some ⟨w.heap.size + 4, 0, none⟩) ss.length (ss.length + 64), .slice (some ⟨w.heap.size + 5, 0, none⟩) rs.length (rs.length + 64)] 75)).alloc (.cells (wcur (wInt .u32 code) (fun _ => .int .u32 0) (code.length + 64) (code.length + 64)) 78)).alloc (.cells (wcur (wInt .i64 data) (fun _ => .int .i64 0) (data.length + 64) (data.length + 64)) 2)).alloc (.cells (wcur (wSym ss) zSym ((ss.length + 64) * 3) ((ss.length + 64) * 3)) 131)) (fun _ => .int .i64 0) rs 83
    simp only [al_size, Nat.add_assoc, Nat.reduceAdd] at h
    exact h







end Go.Proofs.YthpkekpojhmaaaaGreatDoor

namespace Go.Proofs.YthpkekpojhmaaaaGreatDoor
open Go.RowKit

/-- The marks behind a list of objects. -/
def MarkO (w : World) (g n : Nat) : Prop := ∀ i, n ≤ i → i < n + 64 → w.cell? ⟨g, i * 6, none⟩ = some (.string ⟨#[]⟩) ∧ w.cell? ⟨g, i * 6 + 1, none⟩ = some (.slice none 0 0) ∧ w.cell? ⟨g, i * 6 + 2, none⟩ = some (.int .i64 (9437184 + i + 1)) ∧ w.cell? ⟨g, i * 6 + 3, none⟩ = some (.slice none 0 0) ∧ w.cell? ⟨g, i * 6 + 4, none⟩ = some (.slice none 0 0) ∧ w.cell? ⟨g, i * 6 + 5, none⟩ = some (.slice none 0 0)
theorem MarkO.keep {w w1 : World} {g n : Nat} (h : MarkO w g n) (hb : Below w.heap.size w w1) : MarkO w1 g n := fun i h0 h1 => by
  obtain ⟨x0, x1, x2, x3, x4, x5⟩ := h i h0 h1
  exact ⟨lkeep hb x0, lkeep hb x1, lkeep hb x2, lkeep hb x3, lkeep hb x4, lkeep hb x5⟩
/-- Where a copy with marks has its lists. -/
def wpl (o : Ob) (G : Nat × Nat × Nat × Nat) : Pl := ⟨some ⟨G.1, 0, none⟩, some ⟨G.2.1, 0, none⟩, some ⟨G.2.2.1, 0, none⟩, some ⟨G.2.2.2, 0, none⟩, o.code.length + 64, o.data.length + 64, o.ss.length + 64, o.rs.length + 64⟩
/-- The marks behind an object's lists. -/
def MarkE (w : World) (o : Ob) (G : Nat × Nat × Nat × Nat) : Prop := MarkI w .u32 G.1 o.code.length ∧ MarkI w .i64 G.2.1 o.data.length ∧ MarkS w G.2.2.1 o.ss.length ∧ MarkR w G.2.2.2 o.rs.length
theorem MarkE.keep {w w1 : World} {o : Ob} {G : Nat × Nat × Nat × Nat} (h : MarkE w o G) (hb : Below w.heap.size w w1) : MarkE w1 o G := ⟨h.1.keep hb, h.2.1.keep hb, h.2.2.1.keep hb, h.2.2.2.keep hb⟩
/-- A list copied with marks. -/
structure WideO (w : World) (g : Nat) (l : List Ob) (G : Nat → Nat × Nat × Nat × Nat) : Prop where
  inn : ObsIn w (some ⟨g, 0, none⟩) (fun i => wpl (ob l i) (G i)) l
  mo : MarkO w g l.length
  me : ∀ i, i < l.length → MarkE w (ob l i) (G i)
theorem WideO.keep {w w1 : World} {g : Nat} {l : List Ob} {G : Nat → Nat × Nat × Nat × Nat} (h : WideO w g l G) (hb : Below w.heap.size w w1) : WideO w1 g l G := ⟨h.inn.keep hb, h.mo.keep hb, fun i hi => (h.me i hi).keep hb⟩
set_option maxHeartbeats 4000000 in
set_option maxRecDepth 100000 in
theorem spareobs_any (g : Nat) (l : List Ob) (G : Nat → Nat × Nat × Nat × Nat) (w : World) (h : WideO w g l G) :
    Calls Tryz.prog 15 #[.slice (some ⟨g, 0, none⟩) l.length (l.length + 64)] w fun e w' => e = .returned (.bool true) ∧ Below w.heap.size w w' := by
  have HW : Hid (WideO w g l G) := h
  have hf := h.inn.few
  clear h
  go_enter Tryz.func15, Tryz.ntmps15
  go_wp2
  go_loopw [4] (fun i wr => ∃ k : Nat, i = .int .i64 k ∧ l.length ≤ k ∧ k ≤ l.length + 64 ∧ Below w.heap.size w wr) (fun i _ => l.length + 64 - (intOf i).toNat)
  case atStart => exact ⟨l.length, rfl, by omega, by omega, Below.refl _ _⟩
  case round =>
    obtain ⟨k, rfl, hk, hk2, hB⟩ := hrel
    by_cases hlt : k < l.length + 64
    · obtain ⟨c0, c1, c2, c3, c4, c5⟩ := HW.out.mo k hk hlt
      replace c0 := lkeep hB c0
      replace c1 := lkeep hB c1
      replace c2 := lkeep hB c2
      replace c3 := lkeep hB c3
      replace c4 := lkeep hB c4
      replace c5 := lkeep hB c5
      have HB : Hid (Below w.heap.size w _) := hB
      clear hB
      go_wp2_with fail
      go_quiet ((go_at_call 36; exact Calls.quiet_of_same (num_any _ _ (by omega) (by omega) (by omega) (by omega) _)))
      go_wp2
      go_roundw
      case rel => exact ⟨k + 1, by go_num, by omega, by omega, below_drewN (lb_alloc HB.out _) _⟩
      case measure => simp [intOf]; omega
    · have HB : Hid (Below w.heap.size w wr) := hB
      clear hB
      go_wp2
      go_loopw [6] (fun i wr => ∃ k : Nat, i = .int .i64 k ∧ k ≤ l.length ∧ Hid (Below w.heap.size w wr)) (fun i _ => l.length - (intOf i).toNat)
      case atStart => exact ⟨0, rfl, Nat.zero_le _, HB⟩
      case round =>
        clear HB
        obtain ⟨j, rfl, hj, HB⟩ := hrel
        by_cases hlt : j < l.length
        · obtain ⟨a, ea, x0, x1, x2, x3, x4, x5⟩ := HW.out.inn.cells.six HB.out j hlt
          have oA := (HW.out.inn.each j hlt).keep HB.out
          have mE := (HW.out.me j hlt).keep HB.out
          have CE := spareobj_any (ob l j).nm (ob l j).dA (G j).1 (ob l j).code.length (G j).2.1 (ob l j).data.length (G j).2.2.1 (ob l j).ss.length (G j).2.2.2 (ob l j).rs.length wr mE.1 mE.2.1 mE.2.2.1 mE.2.2.2 oA.hc oA.hd oA.hs oA.hl
          obtain rfl := Option.some.inj ea
          clear oA mE ea
          simp only [addz, wpl] at x0 x1 x2 x3 x4 x5
          go_wp2_with fail
          refine CE.mono ?_
          rintro e w1 ⟨rfl, hb1⟩
          have HB2 : Hid (Below w.heap.size w w1) := lb_trans HB.out hb1
          clear hb1 CE x0 x1 x2 x3 x4 x5
          go_wp2
          go_roundw
          case rel => exact ⟨j + 1, by go_num, by omega, HB2⟩
          case measure => simp [intOf]; omega
        · go_wp2
          go_ret
          exact ⟨rfl, HB.out⟩




end Go.Proofs.YthpkekpojhmaaaaGreatDoor

namespace Go.Proofs.YthpkekpojhmaaaaGreatDoor
open Go.RowKit

/-- The cells of a list copied with marks: the lists of the object at a place lie behind a block. -/
def wOb (l : List Ob) (s i : Nat) : Value := if i / 6 < l.length then (#[.string (ob l (i / 6)).nm, .slice (some ⟨s + 6 * (i / 6) + 2, 0, none⟩) (ob l (i / 6)).code.length ((ob l (i / 6)).code.length + 64), .int .i64 (ob l (i / 6)).dA, .slice (some ⟨s + 6 * (i / 6) + 3, 0, none⟩) (ob l (i / 6)).data.length ((ob l (i / 6)).data.length + 64), .slice (some ⟨s + 6 * (i / 6) + 4, 0, none⟩) (ob l (i / 6)).ss.length ((ob l (i / 6)).ss.length + 64), .slice (some ⟨s + 6 * (i / 6) + 5, 0, none⟩) (ob l (i / 6)).rs.length ((ob l (i / 6)).rs.length + 64)] : Array Value).getD (i % 6) (.int .i64 0) else (#[.string ⟨#[]⟩, .slice none 0 0, .int .i64 (9437184 + (i / 6 : Nat) + 1), .slice none 0 0, .slice none 0 0, .slice none 0 0] : Array Value).getD (i % 6) (.int .i64 0)
def zOb (i : Nat) : Value := (#[.string ⟨#[]⟩, .slice none 0 0, .int .i64 0, .slice none 0 0, .slice none 0 0, .slice none 0 0] : Array Value).getD (i % 6) (.int .i64 0)
theorem wOb_item0 (l : List Ob) (s k : Nat) (h : k < l.length) : wOb l s (k * 6) = .string (ob l k).nm := by
  have e : (k * 6) / 6 = k := by omega
  have m : (k * 6) % 6 = 0 := by omega
  simp [wOb, e, m, h]
theorem wOb_item1 (l : List Ob) (s k : Nat) (h : k < l.length) : wOb l s (k * 6 + 1) = .slice (some ⟨s + 6 * k + 2, 0, none⟩) (ob l k).code.length ((ob l k).code.length + 64) := by
  have e : (k * 6 + 1) / 6 = k := by omega
  have m : (k * 6 + 1) % 6 = 1 := by omega
  simp [wOb, e, m, h]
theorem wOb_item2 (l : List Ob) (s k : Nat) (h : k < l.length) : wOb l s (k * 6 + 2) = .int .i64 (ob l k).dA := by
  have e : (k * 6 + 2) / 6 = k := by omega
  have m : (k * 6 + 2) % 6 = 2 := by omega
  simp [wOb, e, m, h]
theorem wOb_item3 (l : List Ob) (s k : Nat) (h : k < l.length) : wOb l s (k * 6 + 3) = .slice (some ⟨s + 6 * k + 3, 0, none⟩) (ob l k).data.length ((ob l k).data.length + 64) := by
  have e : (k * 6 + 3) / 6 = k := by omega
  have m : (k * 6 + 3) % 6 = 3 := by omega
  simp [wOb, e, m, h]
theorem wOb_item4 (l : List Ob) (s k : Nat) (h : k < l.length) : wOb l s (k * 6 + 4) = .slice (some ⟨s + 6 * k + 4, 0, none⟩) (ob l k).ss.length ((ob l k).ss.length + 64) := by
  have e : (k * 6 + 4) / 6 = k := by omega
  have m : (k * 6 + 4) % 6 = 4 := by omega
  simp [wOb, e, m, h]
theorem wOb_item5 (l : List Ob) (s k : Nat) (h : k < l.length) : wOb l s (k * 6 + 5) = .slice (some ⟨s + 6 * k + 5, 0, none⟩) (ob l k).rs.length ((ob l k).rs.length + 64) := by
  have e : (k * 6 + 5) / 6 = k := by omega
  have m : (k * 6 + 5) % 6 = 5 := by omega
  simp [wOb, e, m, h]
theorem wOb_mark0 (l : List Ob) (s k : Nat) (h : ¬ k < l.length) : wOb l s (k * 6) = .string ⟨#[]⟩ := by
  have e : (k * 6) / 6 = k := by omega
  have m : (k * 6) % 6 = 0 := by omega
  simp [wOb, e, m, h]
theorem wOb_mark1 (l : List Ob) (s k : Nat) (h : ¬ k < l.length) : wOb l s (k * 6 + 1) = .slice none 0 0 := by
  have e : (k * 6 + 1) / 6 = k := by omega
  have m : (k * 6 + 1) % 6 = 1 := by omega
  simp [wOb, e, m, h]
theorem wOb_mark2 (l : List Ob) (s k : Nat) (h : ¬ k < l.length) : wOb l s (k * 6 + 2) = .int .i64 (9437184 + k + 1) := by
  have e : (k * 6 + 2) / 6 = k := by omega
  have m : (k * 6 + 2) % 6 = 2 := by omega
  simp [wOb, e, m, h]
theorem wOb_mark3 (l : List Ob) (s k : Nat) (h : ¬ k < l.length) : wOb l s (k * 6 + 3) = .slice none 0 0 := by
  have e : (k * 6 + 3) / 6 = k := by omega
  have m : (k * 6 + 3) % 6 = 3 := by omega
  simp [wOb, e, m, h]
theorem wOb_mark4 (l : List Ob) (s k : Nat) (h : ¬ k < l.length) : wOb l s (k * 6 + 4) = .slice none 0 0 := by
  have e : (k * 6 + 4) / 6 = k := by omega
  have m : (k * 6 + 4) % 6 = 4 := by omega
  simp [wOb, e, m, h]
theorem wOb_mark5 (l : List Ob) (s k : Nat) (h : ¬ k < l.length) : wOb l s (k * 6 + 5) = .slice none 0 0 := by
  have e : (k * 6 + 5) / 6 = k := by omega
  have m : (k * 6 + 5) % 6 = 5 := by omega
  simp [wOb, e, m, h]
theorem wcur_step {f z : Nat → Value} {N k : Nat} {v : Value} (hv : f k = v) (h : k < N) : (wcur f z N k).setIfInBounds k v = wcur f z N (k + 1) := by
  rw [← hv]
  exact wcur_set f z N k h
theorem ob_item (l : List Ob) (s k : Nat) (h : k < l.length) : ((((((wcur (wOb l s) zOb ((l.length + 64) * 6) (k * 6)).setIfInBounds (k * 6) (.string (ob l k).nm)).setIfInBounds (k * 6 + 1) (.slice (some ⟨s + 6 * k + 2, 0, none⟩) (ob l k).code.length ((ob l k).code.length + 64))).setIfInBounds (k * 6 + 2) (.int .i64 (ob l k).dA)).setIfInBounds (k * 6 + 3) (.slice (some ⟨s + 6 * k + 3, 0, none⟩) (ob l k).data.length ((ob l k).data.length + 64))).setIfInBounds (k * 6 + 4) (.slice (some ⟨s + 6 * k + 4, 0, none⟩) (ob l k).ss.length ((ob l k).ss.length + 64))).setIfInBounds (k * 6 + 5) (.slice (some ⟨s + 6 * k + 5, 0, none⟩) (ob l k).rs.length ((ob l k).rs.length + 64)) = wcur (wOb l s) zOb ((l.length + 64) * 6) ((k + 1) * 6) := by
  rw [wcur_step (wOb_item0 l s k h) (by omega), wcur_step (wOb_item1 l s k h) (by omega), wcur_step (wOb_item2 l s k h) (by omega), wcur_step (wOb_item3 l s k h) (by omega), wcur_step (wOb_item4 l s k h) (by omega), wcur_step (wOb_item5 l s k h) (by omega), show (k + 1) * 6 = k * 6 + 6 by omega]
theorem ob_mark (l : List Ob) (s k : Nat) (hk : k < l.length + 64) (h : ¬ k < l.length) : ((((((wcur (wOb l s) zOb ((l.length + 64) * 6) (k * 6)).setIfInBounds (k * 6) (.string ⟨#[]⟩)).setIfInBounds (k * 6 + 1) (.slice none 0 0)).setIfInBounds (k * 6 + 2) (.int .i64 (9437184 + k + 1))).setIfInBounds (k * 6 + 3) (.slice none 0 0)).setIfInBounds (k * 6 + 4) (.slice none 0 0)).setIfInBounds (k * 6 + 5) (.slice none 0 0) = wcur (wOb l s) zOb ((l.length + 64) * 6) ((k + 1) * 6) := by
  rw [wcur_step (wOb_mark0 l s k h) (by omega), wcur_step (wOb_mark1 l s k h) (by omega), wcur_step (wOb_mark2 l s k h) (by omega), wcur_step (wOb_mark3 l s k h) (by omega), wcur_step (wOb_mark4 l s k h) (by omega), wcur_step (wOb_mark5 l s k h) (by omega), show (k + 1) * 6 = k * 6 + 6 by omega]
theorem info65 : ∃ i, Tryz.prog.info? 75 = some i ∧ i.zero = some (.agg #[.string ⟨#[]⟩, .slice none 0 0, .int .i64 0, .slice none 0 0, .slice none 0 0, .slice none 0 0]) ∧ i.size = 6 ∧ i.bytes = 120 :=
  ⟨(Tryz.prog.info? 75).get (by kernel_rfl), by kernel_rfl, by kernel_rfl, by kernel_rfl, by kernel_rfl⟩
theorem made_ob (f : Nat → Value) (N : Nat) : madeCells #[.string ⟨#[]⟩, .slice none 0 0, .int .i64 0, .slice none 0 0, .slice none 0 0, .slice none 0 0] N = wcur f zOb N 0 := by
  apply Array.ext_getElem?
  intro i
  by_cases hi : i < N
  · rw [wcur_get _ _ _ _ _ hi]
    have h : i % 6 = 0 ∨ i % 6 = 1 ∨ i % 6 = 2 ∨ i % 6 = 3 ∨ i % 6 = 4 ∨ i % 6 = 5 := by omega
    rcases h with h | h | h | h | h | h <;> simp [madeCells, hi, h, zOb]
  · rw [Array.getElem?_eq_none (by simp [madeCells]; omega), Array.getElem?_eq_none (by simp [wcur_size]; omega)]
theorem make53 (f : Nat → Value) (n : Nat) (hn : n ≤ 1048576) (w : World) : (Instr.makeSlice 22 (.int .i64 ((n : Int) + 64)) (.int .i64 ((n : Int) + 64))).run Tryz.prog w = .ok (.slice (some ⟨w.heap.size, 0, none⟩) (n + 64) (n + 64)) (w.alloc (.cells (wcur f zOb ((n + 64) * 6) 0) 75)) := by
  obtain ⟨i, hi, hz, hs, hb⟩ := info65
  have h := run_makeSlice (P := Tryz.prog) w 22 75 i _ Tryz.underlying22 hi hz .i64 .i64 ((n : Int) + 64) ((n : Int) + 64) (by omega) (by omega) (by rw [hs]; omega) (by rw [hb]; omega) (by omega)
  rw [hs, show ((n : Int) + 64).toNat = n + 64 by omega] at h
  rw [h, ← made_ob f ((n + 64) * 6)]
  rfl
/-- The four blocks of an object's lists, behind a block. -/
def Blk (w : World) (o : Ob) (b : Nat) : Prop := w.heap[b + 2]? = some (.cells (wcur (wInt .u32 o.code) (fun _ => .int .u32 0) (o.code.length + 64) (o.code.length + 64)) 78 (0, 0)) ∧ w.heap[b + 3]? = some (.cells (wcur (wInt .i64 o.data) (fun _ => .int .i64 0) (o.data.length + 64) (o.data.length + 64)) 2 (0, 0)) ∧ w.heap[b + 4]? = some (.cells (wcur (wSym o.ss) zSym ((o.ss.length + 64) * 3) ((o.ss.length + 64) * 3)) 131 (0, 0)) ∧ w.heap[b + 5]? = some (.cells (wcur (wRel o.rs) (fun _ => .int .i64 0) ((o.rs.length + 64) * 2) ((o.rs.length + 64) * 2)) 83 (0, 0))
theorem blk_ints {w : World} {g : Nat} {K : IntKind} {z : Nat → Value} {zs : List Int} {t : TypeId} (h : w.heap[g]? = some (.cells (wcur (wInt K zs) z (zs.length + 64) (zs.length + 64)) t (0, 0))) : IntsAt w (some ⟨g, 0, none⟩) K zs := fun i hi =>
  ⟨_, rfl, by rw [addz, Lib.cell_of_heap h, wcur_full _ _ _ _ (by omega)]; simp [wInt, hi]⟩
theorem blk_marki {w : World} {g : Nat} {K : IntKind} {z : Nat → Value} {zs : List Int} {t : TypeId} (h : w.heap[g]? = some (.cells (wcur (wInt K zs) z (zs.length + 64) (zs.length + 64)) t (0, 0))) : MarkI w K g zs.length := fun i h1 h2 => by
  rw [Lib.cell_of_heap h, wcur_full _ _ _ _ h2]; simp [wInt, mark, show ¬ i < zs.length by omega]
theorem blk_syms {w : World} {g : Nat} {zs : List Sym} {t : TypeId} (h : w.heap[g]? = some (.cells (wcur (wSym zs) zSym ((zs.length + 64) * 3) ((zs.length + 64) * 3)) t (0, 0))) : SymsAt w (some ⟨g, 0, none⟩) zs := fun i hi =>
  ⟨_, rfl, by rw [addz, Lib.cell_of_heap h, wcur_full _ _ _ _ (by omega), wSym_item0 zs i hi], by rw [addz2 _ _ _ (by omega), Lib.cell_of_heap h, wcur_full _ _ _ _ (by omega), wSym_item1 zs i hi], by rw [addz2 _ _ _ (by omega), Lib.cell_of_heap h, wcur_full _ _ _ _ (by omega), wSym_item2 zs i hi]⟩
theorem blk_marks {w : World} {g : Nat} {zs : List Sym} {t : TypeId} (h : w.heap[g]? = some (.cells (wcur (wSym zs) zSym ((zs.length + 64) * 3) ((zs.length + 64) * 3)) t (0, 0))) : MarkS w g zs.length := fun i h1 h2 =>
  ⟨by rw [Lib.cell_of_heap h, wcur_full _ _ _ _ (by omega), wSym_mark0 zs i (by omega)], by rw [Lib.cell_of_heap h, wcur_full _ _ _ _ (by omega), wSym_mark1 zs i (by omega)], by rw [Lib.cell_of_heap h, wcur_full _ _ _ _ (by omega), wSym_mark2 zs i (by omega)]⟩
theorem blk_rels {w : World} {g : Nat} {z : Nat → Value} {zs : List Rel} {t : TypeId} (h : w.heap[g]? = some (.cells (wcur (wRel zs) z ((zs.length + 64) * 2) ((zs.length + 64) * 2)) t (0, 0))) : RelsAt w (some ⟨g, 0, none⟩) zs := fun i hi =>
  ⟨_, rfl, by rw [addz, Lib.cell_of_heap h, wcur_full _ _ _ _ (by omega), wRel_item0 zs i hi], by rw [addz2 _ _ _ (by omega), Lib.cell_of_heap h, wcur_full _ _ _ _ (by omega), wRel_item1 zs i hi]⟩
theorem blk_markr {w : World} {g : Nat} {z : Nat → Value} {zs : List Rel} {t : TypeId} (h : w.heap[g]? = some (.cells (wcur (wRel zs) z ((zs.length + 64) * 2) ((zs.length + 64) * 2)) t (0, 0))) : MarkR w g zs.length := fun i h1 h2 =>
  ⟨by rw [Lib.cell_of_heap h, wcur_full _ _ _ _ (by omega), wRel_mark0 zs i (by omega)], by rw [Lib.cell_of_heap h, wcur_full _ _ _ _ (by omega), wRel_mark1 zs i (by omega)]⟩
def GO (s i : Nat) : Nat × Nat × Nat × Nat := (s + 6 * i + 2, s + 6 * i + 3, s + 6 * i + 4, s + 6 * i + 5)
theorem Blk.marks {w : World} {o : Ob} {s i : Nat} (h : Blk w o (s + 6 * i)) : MarkE w o (GO s i) := ⟨blk_marki h.1, blk_marki h.2.1, blk_marks h.2.2.1, blk_markr h.2.2.2⟩
theorem Blk.inn {w w0 : World} {o : Ob} {p : Pl} {s i : Nat} (h : Blk w o (s + 6 * i)) (h0 : ObIn w0 p o) : ObIn w (wpl o (GO s i)) o :=
  ⟨blk_ints h.1, blk_ints h.2.1, blk_syms h.2.2.1, blk_rels h.2.2.2, h0.cr, h0.dr, h0.da, h0.hc, h0.hd, h0.hs, h0.hl, h0.hN, Nat.le_add_right _ _⟩
theorem Blk.keep {w w1 : World} {o : Ob} {b : Nat} (h : Blk w o b) (hk : ∀ i, b + 2 ≤ i → i < b + 6 → w1.heap[i]? = w.heap[i]?) : Blk w1 o b :=
  ⟨(hk _ (by omega) (by omega)).trans h.1, (hk _ (by omega) (by omega)).trans h.2.1, (hk _ (by omega) (by omega)).trans h.2.2.1, (hk _ (by omega) (by omega)).trans h.2.2.2⟩
theorem row_obs {w : World} {g s : Nat} {l : List Ob} (h : w.heap[g]? = some (.cells (wcur (wOb l s) zOb ((l.length + 64) * 6) ((l.length + 64) * 6)) 75 (0, 0))) : ObsAt w (some ⟨g, 0, none⟩) (fun i => wpl (ob l i) (GO s i)) l := fun i hi =>
  ⟨_, rfl, by rw [addz, Lib.cell_of_heap h, wcur_full _ _ _ _ (by omega), wOb_item0 l s i hi], by rw [addz2 _ _ _ (by omega), Lib.cell_of_heap h, wcur_full _ _ _ _ (by omega), wOb_item1 l s i hi]; rfl, by rw [addz2 _ _ _ (by omega), Lib.cell_of_heap h, wcur_full _ _ _ _ (by omega), wOb_item2 l s i hi], by rw [addz2 _ _ _ (by omega), Lib.cell_of_heap h, wcur_full _ _ _ _ (by omega), wOb_item3 l s i hi]; rfl, by rw [addz2 _ _ _ (by omega), Lib.cell_of_heap h, wcur_full _ _ _ _ (by omega), wOb_item4 l s i hi]; rfl, by rw [addz2 _ _ _ (by omega), Lib.cell_of_heap h, wcur_full _ _ _ _ (by omega), wOb_item5 l s i hi]; rfl⟩
theorem row_marks {w : World} {g s : Nat} {l : List Ob} (h : w.heap[g]? = some (.cells (wcur (wOb l s) zOb ((l.length + 64) * 6) ((l.length + 64) * 6)) 75 (0, 0))) : MarkO w g l.length := fun i h1 h2 =>
  ⟨by rw [Lib.cell_of_heap h, wcur_full _ _ _ _ (by omega), wOb_mark0 l s i (by omega)], by rw [Lib.cell_of_heap h, wcur_full _ _ _ _ (by omega), wOb_mark1 l s i (by omega)], by rw [Lib.cell_of_heap h, wcur_full _ _ _ _ (by omega), wOb_mark2 l s i (by omega)], by rw [Lib.cell_of_heap h, wcur_full _ _ _ _ (by omega), wOb_mark3 l s i (by omega)], by rw [Lib.cell_of_heap h, wcur_full _ _ _ _ (by omega), wOb_mark4 l s i (by omega)], by rw [Lib.cell_of_heap h, wcur_full _ _ _ _ (by omega), wOb_mark5 l s i (by omega)]⟩
theorem set_off {w : World} {g k i : Nat} (u : Value) (hi : ¬ g = i) : (w.setCell ⟨g, k, none⟩ u).heap[i]? = w.heap[i]? := by
  simp [World.setCell, Array.getElem?_modify, hi]




end Go.Proofs.YthpkekpojhmaaaaGreatDoor

namespace Go.Proofs.YthpkekpojhmaaaaGreatDoor
open Go.RowKit

/-- An object's lists are memory of their own. -/
structure OwnO (w : World) (base : Nat) (p : Pl) (o : Ob) : Prop where
  r1 : w.ownsRow base 78 1 (.slice p.A1 o.code.length p.c1) o.code.length (iNews .u32 o.code)
  r2 : w.ownsRow base 2 1 (.slice p.A2 o.data.length p.c2) o.data.length (iNews .i64 o.data)
  r3 : w.ownsRow base 131 3 (.slice p.A3 o.ss.length p.c3) o.ss.length (sNews o.ss)
  r4 : w.ownsRow base 83 2 (.slice p.A4 o.rs.length p.c4) o.rs.length (rNews o.rs)
theorem OwnO.keep {w w1 : World} {base : Nat} {p : Pl} {o : Ob} (h : OwnO w base p o) (hb : Below w.heap.size w w1) : OwnO w1 base p o := ⟨own_keep h.r1 hb, own_keep h.r2 hb, own_keep h.r3 hb, own_keep h.r4 hb⟩
theorem OwnO.base {w : World} {b c : Nat} {p : Pl} {o : Ob} (h : OwnO w b p o) (hc : c ≤ b) : OwnO w c p o := ⟨own_base h.r1 hc, own_base h.r2 hc, own_base h.r3 hc, own_base h.r4 hc⟩
theorem OwnO.other {w w1 : World} {base b n : Nat} {p : Pl} {o : Ob} {V : Value} {xs : List Value} (h : OwnO w base p o) (hV : w.ownsRow b 75 6 V n xs) (hg : w.grownBy w1 V.ownBlock) : OwnO w1 base p o :=
  ⟨own_other h.r1 hg (own_not hV (by decide)), own_other h.r2 hg (own_not hV (by decide)), own_other h.r3 hg (own_not hV (by decide)), own_other h.r4 hg (own_not hV (by decide))⟩
theorem OwnO.inn {w w0 : World} {base : Nat} {p p0 : Pl} {o : Ob} (h : OwnO w base p o) (h0 : ObIn w0 p0 o) : ObIn w p o := by
  obtain ⟨_, c, e4, h4⟩ := own_any h.r4
  refine ⟨nrow_ints h.r1, nrow_ints h.r2, nrow_syms h.r3, nrow_rels h.r4, h0.cr, h0.dr, h0.da, h0.hc, h0.hd, h0.hs, h0.hl, h0.hN, ?_⟩
  cases e4
  exact h4
/-- The cells of a list of objects. -/
def obc (o : Ob) (p : Pl) : List Value := [.string o.nm, .slice p.A1 o.code.length p.c1, .int .i64 o.dA, .slice p.A2 o.data.length p.c2, .slice p.A3 o.ss.length p.c3, .slice p.A4 o.rs.length p.c4]
def oN (l : List Ob) (q : Nat → Pl) (k : Nat) : List Value := marks (fun _ i => obc (ob l i) (q i)) 0 k
def updP (q : Nat → Pl) (k : Nat) (p : Pl) (i : Nat) : Pl := if i = k then p else q i
theorem oN_same {l : List Ob} {q r : Nat → Pl} : ∀ {k : Nat}, (∀ i, i < k → q i = r i) → oN l q k = oN l r k
  | 0, _ => rfl
  | k + 1, h => by
    unfold oN
    rw [marks_succ, marks_succ]
    have := oN_same (l := l) (k := k) (fun i hi => h i (by omega))
    unfold oN at this
    rw [this, h k (by omega)]
theorem oN_succ (l : List Ob) (q : Nat → Pl) (k : Nat) (p : Pl) : oN l (updP q k p) (k + 1) = oN l q k ++ obc (ob l k) p := by
  have : oN l (updP q k p) k = oN l q k := oN_same (fun i hi => by unfold updP; rw [if_neg (by omega)])
  unfold oN at this ⊢
  rw [marks_succ, this]
  unfold updP
  rw [if_pos rfl]
theorem oN_at {w : World} {base c : Nat} {A : Option Addr} {l : List Ob} {q : Nat → Pl} (h : w.ownsRow base 75 6 (.slice A l.length c) l.length (oN l q l.length)) : ObsAt w A q l := fun i hi => by
  rcases h.2 with ⟨_, h0⟩ | ⟨g, cap, cur, e, _⟩
  · omega
  · cases e
    have g := fun j (hj : j < 6) => marks_get (mk := fun _ i => obc (ob l i) (q i)) (size := 6) (fun _ _ => rfl) 0 hi hj
    refine ⟨_, rfl, h.cells rfl _ _ (g 0 (by omega)), ?_, ?_, ?_, ?_, ?_⟩
    · rw [Deep.add_add]; exact h.cells rfl _ _ (g 1 (by omega))
    · rw [Deep.add_add]; exact h.cells rfl _ _ (g 2 (by omega))
    · rw [Deep.add_add]; exact h.cells rfl _ _ (g 3 (by omega))
    · rw [Deep.add_add]; exact h.cells rfl _ _ (g 4 (by omega))
    · rw [Deep.add_add]; exact h.cells rfl _ _ (g 5 (by omega))
theorem own_step {w w1 : World} {base b n k : Nat} {l : List Ob} {r : Nat → Pl} {p : Pl} {V : Value} {xs : List Value} (hV : w.ownsRow b 75 6 V n xs) (ho : ∀ i, i < k → OwnO w base (r i) (ob l i)) (hp : OwnO w base p (ob l k)) (hg : w.grownBy w1 V.ownBlock) : ∀ i, i < k + 1 → OwnO w1 base (updP r k p i) (ob l i) := fun i hi => by
  unfold updP
  by_cases he : i = k
  · rw [if_pos he, he]
    exact hp.other hV hg
  · rw [if_neg he]
    exact (ho i (by omega)).other hV hg
/-- How CopyObjects ends. -/
def CopyL (l : List Ob) (w : World) (e : Ending) (w' : World) : Prop := ∃ (A : Option Addr) (c : Nat) (q : Nat → Pl), e = .returned (.slice A l.length c) ∧ w'.ownsRow w.heap.size 75 6 (.slice A l.length c) l.length (oN l q l.length) ∧ (∀ i, i < l.length → OwnO w' w.heap.size (q i) (ob l i)) ∧ Below w.heap.size w w'
theorem one_six {o : Ob} {p : Pl} : ∀ u ∈ obc o p, u.oneCell' = true := fun u hu => by
  simp only [obc, List.mem_cons, List.not_mem_nil, or_false] at hu
  rcases hu with rfl | rfl | rfl | rfl | rfl | rfl <;> rfl
set_option maxHeartbeats 4000000 in
set_option maxRecDepth 100000 in
theorem copyobs_any (A : Option Addr) (ca : Nat) (q : Nat → Pl) (l : List Ob) (w : World) (hA : ObsIn w A q l) (h0 : ∀ i, i < l.length → NoneO (q i)) :
    Calls Tryz.prog 19 #[.slice A l.length ca] w (CopyL l w) := by
  obtain ⟨i0, hi, hz0, hz1, hz2⟩ := info65
  have HA : Hid (ObsIn w A q l) := hA
  have H0 : Hid (∀ i, i < l.length → NoneO (q i)) := h0
  have hf := hA.few
  clear hA h0
  go_enter Tryz.func19, Tryz.ntmps19
  go_wp2
  go_loopw [4, 3] (fun i t wr => ∃ (k : Nat) (O : Option Addr) (c : Nat) (r : Nat → Pl), i = .int .i64 k ∧ t = .slice O k c ∧ k ≤ l.length ∧ Hid (wr.ownsRow w.heap.size 75 6 t k (oN l r k)) ∧ Hid (∀ i, i < k → OwnO wr w.heap.size (r i) (ob l i)) ∧ Hid (Below w.heap.size w wr)) (fun i _ _ => l.length - (intOf i).toNat)
  case atStart => exact ⟨0, none, 0, q, rfl, rfl, Nat.zero_le _, World.ownsRow_nil _ _ _ _, fun i hi => absurd hi (Nat.not_lt_zero _), Below.refl _ _⟩
  case round =>
    obtain ⟨k, O, c, r, rfl, rfl, hk, HR, HO, HB⟩ := hrel
    by_cases hkl : k < l.length
    · have hkl' : (k : Int) < (l.length : Int) := by omega
      obtain ⟨a, ea, x0, x1, x2, x3, x4, x5⟩ := HA.out.cells.six HB.out k hkl
      have h := (HA.out.each k hkl).keep HB.out
      have n0 := H0.out k hkl
      have CC := copyobj_any (ob l k).nm (ob l k).dA (q k).A1 (q k).A2 (q k).A3 (q k).A4 (q k).c1 (q k).c2 (q k).c3 (q k).c4 (ob l k).code (ob l k).data (ob l k).ss (ob l k).rs wr h.cd h.dt h.sy h.rl n0.1 n0.2.1 n0.2.2.1 n0.2.2.2 h.hc h.hd h.hs h.hl
      clear h n0
      subst ea
      go_wp2_with fail
      refine CC.mono ?_
      rintro e w1 ⟨O1, O2, O3, O4, k1, k2, k3, k4, rfl, hb1, r1, r2, r3, r4⟩
      obtain ⟨p, hp⟩ : ∃ p : Pl, p = ⟨O1, O2, O3, O4, k1, k2, k3, k4⟩ := ⟨_, rfl⟩
      have HP : Hid (OwnO w1 wr.heap.size p (ob l k)) := by rw [hp]; exact ⟨r1, r2, r3, r4⟩
      have eO1 : O1 = p.A1 := by rw [hp]
      have eO2 : O2 = p.A2 := by rw [hp]
      have eO3 : O3 = p.A3 := by rw [hp]
      have eO4 : O4 = p.A4 := by rw [hp]
      have ek1 : k1 = p.c1 := by rw [hp]
      have ek2 : k2 = p.c2 := by rw [hp]
      have ek3 : k3 = p.c3 := by rw [hp]
      have ek4 : k4 = p.c4 := by rw [hp]
      clear r1 r2 r3 r4
      rw [eO1, eO2, eO3, eO4, ek1, ek2, ek3, ek4]
      clear eO1 eO2 eO3 eO4 ek1 ek2 ek3 ek4 hp
      obtain ⟨W, hW⟩ : ∃ W, W = w1.alloc (.cells #[.string (ob l k).nm, .slice p.A1 (ob l k).code.length p.c1, .int .i64 (ob l k).dA, .slice p.A2 (ob l k).data.length p.c2, .slice p.A3 (ob l k).ss.length p.c3, .slice p.A4 (ob l k).rs.length p.c4] 75) := ⟨_, rfl⟩
      have hbW : Below wr.heap.size wr W := by rw [hW]; exact lb_alloc hb1 _
      have HBW : Hid (Below w.heap.size w W) := lb_trans HB.out hbW
      have HRW : Hid (W.ownsRow w.heap.size 75 6 (.slice O k c) k (oN l r k)) := own_keep HR.out hbW
      have HOW : Hid (∀ i, i < k → OwnO W w.heap.size (r i) (ob l i)) := fun i hi => (HO.out i hi).keep hbW
      have HPW : Hid (OwnO W w.heap.size p (ob l k)) := by rw [hW]; exact (HP.out.keep (lb_alloc (Below.refl _ _) _)).base HB.out.size
      have HN : Hid (W.heap[w1.heap.size]? = some (.cells #[.string (ob l k).nm, .slice p.A1 (ob l k).code.length p.c1, .int .i64 (ob l k).dA, .slice p.A2 (ob l k).data.length p.c2, .slice p.A3 (ob l k).ss.length p.c3, .slice p.A4 (ob l k).rs.length p.c4] 75 (0, 0))) := by rw [hW]; exact heap_alloc_new _ _
      rw [hW] at HBW HRW HOW HPW HN
      clear CC hb1 x0 x1 x2 x3 x4 x5 HR HO HP hbW
      go_wp2_with (at_builtin; go_loud (refine wpList_append_own _ rfl (.tmp 11) (.tmp 17) 22 rfl w.heap.size 75 i0 (.agg #[.string ⟨#[]⟩, .slice none 0 0, .int .i64 0, .slice none 0 0, .slice none 0 0, .slice none 0 0]) 6 120 Tryz.underlying22 hi hz0 hz1 hz2 rfl (by decide) (.slice O k c) k (oN l r k) rfl HRW.out ⟨w1.heap.size, 0, none⟩ 1 1 (obc (ob l k) p) rfl rfl (fun j u hu => World.news_of_block HN.out j u hu) one_six (by unfold maxLen; omega) (by omega) HBW.out.size ?_; intro v3 w3 hown hgrow _; have HR3 : Hid (w3.ownsRow w.heap.size 75 6 v3 (k + 1) (oN l (updP r k p) (k + 1))) := (by rw [oN_succ]; exact hown); have HB3 : Hid (Below w.heap.size w w3) := HBW.out.grown hgrow HBW.out.size (fun b hb => (HRW.out.lt b hb).1); have HO3 : Hid (∀ i, i < k + 1 → OwnO w3 w.heap.size (updP r k p i) (ob l i)) := own_step HRW.out HOW.out HPW.out hgrow; clear hown hgrow))
      obtain ⟨A5, c5, e5, -⟩ := own_any HR3.out
      subst e5
      go_roundw
      case rel => exact ⟨k + 1, _, _, _, by go_num, rfl, by omega, HR3, HO3, HB3⟩
      case measure => simp [intOf]; omega
    · have hkl' : ¬ (k : Int) < (l.length : Int) := by omega
      obtain rfl : k = l.length := by omega
      go_wp2
      go_ret
      exact ⟨O, c, r, rfl, HR.out, HO.out, HB.out⟩



end Go.Proofs.YthpkekpojhmaaaaGreatDoor

namespace Go.Proofs.YthpkekpojhmaaaaGreatDoor
open Go.RowKit

theorem old_at {w : World} {o o' : Obj} {n : Nat} (h : w.heap[n]? = some o) : (w.alloc o').heap[n]? = some o := by
  rw [Below.heap_alloc w o' n (Array.getElem?_eq_some_iff.1 h).1]; exact h
theorem new_at {w : World} {o : Obj} {n : Nat} (h : n = w.heap.size) : (w.alloc o).heap[n]? = some o := by subst h; exact heap_alloc_new w o
theorem box_other {w : World} {B P : Nat} {o : Obj} (h : w.heap[B]? = some o) (hB : B ≠ P) (i : Nat) (v : Value) : (w.setCell ⟨P, i, none⟩ v).heap[B]? = some o := (Below.heap_setCell _ _ _ _ hB).trans h
theorem zNews_vals (K : IntKind) (zs : List Int) : iNews K zs = ziVals K zs := by
  apply List.ext_getElem?
  intro i
  unfold iNews ziVals
  by_cases h : i < zs.length
  · simp [h, wInt, nth, List.getD]
  · simp [h]


/-- What CopyImage answers. -/
def CopyI (text mem : List Int) (ent : Int) (w : World) (e : Ending) (w' : World) : Prop := ∃ (A1 A2 : Option Addr) (k1 k2 : Nat), e = .returned (.agg #[.slice A1 text.length k1, .int .i64 ent, .slice A2 mem.length k2]) ∧ RowsI w' w.heap.size A1 A2 k1 k2 text mem ∧ Below w.heap.size w w'
set_option maxRecDepth 100000 in
theorem copyimg_any (A1 A2 : Option Addr) (c1 c2 : Nat) (text mem : List Int) (ent : Int) (w : World) (hT : IntsAt w A1 .u32 text) (hM : IntsAt w A2 .i64 mem) (h01 : A1 = none → c1 = 0) (h02 : A2 = none → c2 = 0) (hl : text.length ≤ 1048576) (hm : mem.length ≤ 1048576) :
    Calls Tryz.prog 21 #[.agg #[.slice A1 text.length c1, .int .i64 ent, .slice A2 mem.length c2]] w (CopyI text mem ent w) := by
  have hB0 : Below w.heap.size w ((w.alloc (.cells #[.slice A1 text.length c1, .int .i64 ent, .slice A2 mem.length c2] 29)).alloc (.cells #[.slice none 0 0, .int .i64 0, .slice none 0 0] 29)) := lb_alloc (lb_alloc (Below.refl _ _) _) _
  have HX0 : Hid (((w.alloc (.cells #[.slice A1 text.length c1, .int .i64 ent, .slice A2 mem.length c2] 29)).alloc (.cells #[.slice none 0 0, .int .i64 0, .slice none 0 0] 29)).heap[w.heap.size]? = some (.cells #[.slice A1 text.length c1, .int .i64 ent, .slice A2 mem.length c2] 29 (0, 0))) := old_at (new_at rfl)
  have HY0 : Hid (((w.alloc (.cells #[.slice A1 text.length c1, .int .i64 ent, .slice A2 mem.length c2] 29)).alloc (.cells #[.slice none 0 0, .int .i64 0, .slice none 0 0] 29)).heap[w.heap.size + 1]? = some (.cells #[.slice none 0 0, .int .i64 0, .slice none 0 0] 29 (0, 0))) := new_at (by simp)
  have HB0 : Hid _ := hB0
  clear hB0
  go_enter Tryz.func21, Tryz.ntmps21
  go_wp2_with fail
  refine (copywords_any A1 c1 text _ (hT.keep HB0.out) h01 hl).mono ?_
  rintro e w1 ⟨O1, k1, rfl, hown, hg, hn⟩
  have hb : Below _ _ w1 := ⟨hg.os, hg.tape, hg.output, hg.size, fun k hk => hg.block k hk (by simp)⟩
  have HX1 : Hid _ := lb_box HX0.out hb
  have HY1 : Hid _ := lb_box HY0.out hb
  have HB1 : Hid (Below w.heap.size w w1) := lb_trans HB0.out hb
  rw [zNews_vals] at hown
  have HO1 : Hid (w1.ownsRow (w.heap.size + 2) 78 1 (.slice O1 text.length k1) text.length (ziVals .u32 text)) := zownsRow_mono hown (by simp)
  have hs1 : w.heap.size + 2 ≤ w1.heap.size := by have := hb.size; simp at this; exact this
  have HS1 : Hid _ := hs1
  obtain ⟨x0, x1, x2⟩ := zbox3_cell HX1.out
  have f0 := zbox_fro HX1.out 0
  have HX2 : Hid _ := zbox_set HX1.out 0 (.slice O1 text.length k1)
  have HY2 : Hid _ := box_other HY1.out (show w.heap.size + 1 ≠ w.heap.size by omega) 0 (.slice O1 text.length k1)
  have HB2 : Hid (Below w.heap.size w (w1.setCell ⟨w.heap.size, 0, none⟩ (.slice O1 text.length k1))) := HB1.out.setCell (Nat.le_refl _) _
  have HO2 : Hid _ := row_setB HO1.out (show w.heap.size < w.heap.size + 2 by omega) 0 (.slice O1 text.length k1)
  clear hown hg hn hb hs1 HX0 HY0
  go_wp2_with fail
  refine (copylongs_any A2 c2 mem _ (hM.keep HB2.out) h02 hm).mono ?_
  rintro e w3 ⟨O2, k2, rfl, hown, hg, hn⟩
  have hb : Below _ _ w3 := ⟨hg.os, hg.tape, hg.output, hg.size, fun k hk => hg.block k hk (by simp)⟩
  have HX3 : Hid (w3.heap[w.heap.size]? = some (.cells #[.slice O1 text.length k1, .int .i64 ent, .slice A2 mem.length c2] 29 (0, 0))) := lb_box HX2.out hb
  have HY3 : Hid _ := lb_box HY2.out hb
  have HB3 : Hid (Below w.heap.size w w3) := lb_trans HB2.out hb
  rw [zNews_vals] at hown
  have HQ3 : Hid (RowsI w3 (w.heap.size + 2) O1 O2 k1 k2 text mem) := ⟨zrow_keep HO2.out hb, zownsRow_mono hown (by have := HS1.out; simpa using this)⟩
  clear hown hg hn hb x0 x1 x2 f0 HX1 HY1 HB1 HO1
  obtain ⟨x0, x1, x2⟩ := zbox3_cell HX3.out
  obtain ⟨y0, y1, y2⟩ := zbox3_cell HY3.out
  have f0 := zbox_fro HX3.out 0
  have f2 := zbox_fro HX3.out 2
  have g0 := zbox_fro HY3.out 0
  have g1 := zbox_fro HY3.out 1
  have g2 := zbox_fro HY3.out 2
  go_wp2
  refine bodyPost_ret (v := .agg #[.slice O1 text.length k1, .int .i64 ent, .slice O2 mem.length k2]) (by simp [results, Tryz.results21, go_sem, y0, y1, y2]) rfl ⟨O1, O2, k1, k2, rfl, ?_, ?_⟩
  · have h1 : w.heap.size < w.heap.size + 2 := by omega
    have h2 : w.heap.size + 1 < w.heap.size + 2 := by omega
    exact ((((HQ3.out.set h1 2 _).set h2 0 _).set h2 1 _).set h2 2 _).mono (by omega)
  · exact (((HB3.out.setCell (Nat.le_refl _) _).setCell (Nat.le_succ _) _).setCell (Nat.le_succ _) _).setCell (Nat.le_succ _) _


end Go.Proofs.YthpkekpojhmaaaaGreatDoor
