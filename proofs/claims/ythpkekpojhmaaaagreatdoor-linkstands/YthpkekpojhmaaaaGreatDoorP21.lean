/-
  A list of numbers copied by append, by the document's helpers: a list of its own; it is at most 2^20 long. A list of symbols, of relocations copied by append, by the document's helpers: a list of its own; it is at most 2^20 long. An object copied by the document's helper: each list is its own; the lists are at most 2^20 long. A copy of an object of a list. Lists of lists of places in memory of their own; no Go in sight. What binding means, as plain mathematics; no Go in sight.
-/
import Derived.Test.YthpkekpojhmaaaaGreatDoorProg
import Derived.WalkKit
import Derived.WalkSpells
import Derived.WalkLawsBesides
import Derived.RowKit3
import Derived.Below
import Derived.Deep.QuietTactic
import Derived.BigQuiet
import Derived.WalkSmall
import Derived.Laws.AppendOwn
import Derived.Laws.OwnMore
import Derived.Deep.Slices
import Derived.Lib.BufferOwn
import Derived.Test.YthpkekpojhmaaaaGreatDoorP20
import Derived.Laws.Rows
import Derived.Test.YthpkekpojhmaaaaGreatDoorP19
import Derived.Test.YthpkekpojhmaaaaGreatDoorP16
namespace Go.Proofs.YthpkekpojhmaaaaGreatDoor
open Go.RowKit

/-- How a copy ends: a list of its own. -/
def CopyP (el sz n : Nat) (news : List Value) (w : World) (e : Ending) (w' : World) : Prop := ∃ (O : Option Addr) (cap : Nat), e = .returned (.slice O n cap) ∧ w'.ownsRow w.heap.size el sz (.slice O n cap) n news ∧ w.grownBy w' none ∧ (O = none → cap = 0)
theorem copyP_mk {el sz n : Nat} {news : List Value} {w w' : World} {v : Value} {e : Ending} (he : e = .returned v) (h : w'.ownsRow w.heap.size el sz v n news) (hg : w.grownBy w' none) : CopyP el sz n news w e w' := by
  subst he
  rcases h.2 with ⟨rfl, rfl⟩ | ⟨g, cap, cur, rfl, _⟩
  · exact ⟨none, 0, rfl, h, hg, fun _ => rfl⟩
  · exact ⟨some ⟨g, 0, none⟩, cap, rfl, h, hg, fun e => by cases e⟩
def iNews (K : IntKind) (zs : List Int) : List Value := (List.range zs.length).map (wInt K zs)
def sNews (zs : List Sym) : List Value := (List.range (zs.length * 3)).map (wSym zs)
def rNews (zs : List Rel) : List Value := (List.range (zs.length * 2)).map (wRel zs)
theorem iNews_cell {w : World} {a : Addr} {K : IntKind} {zs : List Int} (hA : IntsAt w (some a) K zs) (j : Nat) (u : Value) (h : (iNews K zs)[j]? = some u) : w.cell? (a.add j) = some u := by
  have hj : j < zs.length := by
    have := (List.getElem?_eq_some_iff.1 h).1; simpa [iNews] using this
  obtain ⟨b, e, c⟩ := hA j hj
  obtain rfl := Option.some.inj e
  rw [c, ← h]
  simp [iNews, hj, wInt]
theorem iNews_one (K : IntKind) (zs : List Int) : ∀ u ∈ iNews K zs, u.oneCell' = true := by
  intro u hu
  obtain ⟨i, _, rfl⟩ := List.mem_map.1 hu
  unfold wInt; split <;> rfl
theorem copywords_any (O : Option Addr) (ca : Nat) (zs : List Int) (w : World) (hA : IntsAt w O .u32 zs) (h0 : O = none → ca = 0) (hz : zs.length ≤ 1048576) :
    Calls Tryz.prog 68 #[.slice O zs.length ca] w fun e w' => CopyP 78 1 zs.length (iNews .u32 zs) w e w' := by
  obtain ⟨i0, hi, hz0, hz1, hz2⟩ := info45
  cases O with
  | none =>
    obtain rfl := h0 rfl
    have hl : zs.length = 0 := by
      cases zs with
      | nil => rfl
      | cons x t => obtain ⟨a, e, _⟩ := hA 0 (by simp); cases e
    have hn : iNews .u32 zs = [] := by unfold iNews; rw [hl]; rfl
    rw [hl, hn]
    have hr := run_append_owned_none (P := Tryz.prog) (w := w) w.heap.size 26 26 78 i0 1 Tryz.underlying26 hi (.slice none 0 0) 0 [] (World.ownsRow_nil w _ _ _)
    go_enter Tryz.func68, Tryz.ntmps68
    go_wp2
    go_ret
    exact copyP_mk rfl (World.ownsRow_nil w _ _ _) (World.grownBy.refl w _)
  | some a =>
    go_enter Tryz.func68, Tryz.ntmps68
    go_wp2_with (at_builtin; refine wpList_append_own _ rfl (.tmp 4) (.tmp 5) 26 rfl w.heap.size 78 i0 (.int .u32 0) 1 4 Tryz.underlying26 hi hz0 hz1 hz2 rfl (by decide) (.slice none 0 0) 0 [] rfl (World.ownsRow_nil w _ _ _) a zs.length ca (iNews .u32 zs) rfl (by simp [iNews]) (iNews_cell hA) (iNews_one _ _) (by unfold maxLen; omega) (by omega) (Nat.le_refl _) ?_; intro v' w' hown hgrow hnil)
    go_ret
    exact copyP_mk rfl (by simpa using hown) hgrow
theorem copylongs_any (O : Option Addr) (ca : Nat) (zs : List Int) (w : World) (hA : IntsAt w O .i64 zs) (h0 : O = none → ca = 0) (hz : zs.length ≤ 1048576) :
    Calls Tryz.prog 69 #[.slice O zs.length ca] w fun e w' => CopyP 2 1 zs.length (iNews .i64 zs) w e w' := by
  obtain ⟨i0, hi, hz0, hz1, hz2⟩ := info2
  cases O with
  | none =>
    obtain rfl := h0 rfl
    have hl : zs.length = 0 := by
      cases zs with
      | nil => rfl
      | cons x t => obtain ⟨a, e, _⟩ := hA 0 (by simp); cases e
    have hn : iNews .i64 zs = [] := by unfold iNews; rw [hl]; rfl
    rw [hl, hn]
    have hr := run_append_owned_none (P := Tryz.prog) (w := w) w.heap.size 27 27 2 i0 1 Tryz.underlying27 hi (.slice none 0 0) 0 [] (World.ownsRow_nil w _ _ _)
    go_enter Tryz.func69, Tryz.ntmps69
    go_wp2
    go_ret
    exact copyP_mk rfl (World.ownsRow_nil w _ _ _) (World.grownBy.refl w _)
  | some a =>
    go_enter Tryz.func69, Tryz.ntmps69
    go_wp2_with (at_builtin; refine wpList_append_own _ rfl (.tmp 4) (.tmp 5) 27 rfl w.heap.size 2 i0 (.int .i64 0) 1 8 Tryz.underlying27 hi hz0 hz1 hz2 rfl (by decide) (.slice none 0 0) 0 [] rfl (World.ownsRow_nil w _ _ _) a zs.length ca (iNews .i64 zs) rfl (by simp [iNews]) (iNews_cell hA) (iNews_one _ _) (by unfold maxLen; omega) (by omega) (Nat.le_refl _) ?_; intro v' w' hown hgrow hnil)
    go_ret
    exact copyP_mk rfl (by simpa using hown) hgrow
theorem sNews_cell {w : World} {a : Addr} {zs : List Sym} (hA : SymsAt w (some a) zs) (j : Nat) (u : Value) (h : (sNews zs)[j]? = some u) : w.cell? (a.add j) = some u := by
  have hj : j < zs.length * 3 := by
    have := (List.getElem?_eq_some_iff.1 h).1; simpa [sNews] using this
  have hu : wSym zs j = u := by simpa [sNews, hj] using h
  have hi : j / 3 < zs.length := by omega
  obtain ⟨b, e, c0, c1, c2⟩ := hA (j / 3) hi
  obtain rfl := Option.some.inj e
  rw [← hu]
  have hm : j % 3 = 0 ∨ j % 3 = 1 ∨ j % 3 = 2 := by omega
  rcases hm with m | m | m
  · have e : j = j / 3 * 3 := by omega
    rw [e, wSym_item0 zs (j / 3) hi]; exact c0
  · have e : j = j / 3 * 3 + 1 := by omega
    rw [e, wSym_item1 zs (j / 3) hi, ← Deep.add_add]; exact c1
  · have e : j = j / 3 * 3 + 2 := by omega
    rw [e, wSym_item2 zs (j / 3) hi, ← Deep.add_add]; exact c2
theorem sNews_one (zs : List Sym) : ∀ u ∈ sNews zs, u.oneCell' = true := by
  intro u hu
  obtain ⟨i, _, rfl⟩ := List.mem_map.1 hu
  unfold wSym; split <;> (split <;> (try split) <;> rfl)
theorem rNews_cell {w : World} {a : Addr} {zs : List Rel} (hA : RelsAt w (some a) zs) (j : Nat) (u : Value) (h : (rNews zs)[j]? = some u) : w.cell? (a.add j) = some u := by
  have hj : j < zs.length * 2 := by
    have := (List.getElem?_eq_some_iff.1 h).1; simpa [rNews] using this
  have hu : wRel zs j = u := by simpa [rNews, hj] using h
  have hi : j / 2 < zs.length := by omega
  obtain ⟨b, e, c0, c1⟩ := hA (j / 2) hi
  obtain rfl := Option.some.inj e
  rw [← hu]
  have hm : j % 2 = 0 ∨ j % 2 = 1 := by omega
  rcases hm with m | m
  · have e : j = j / 2 * 2 := by omega
    rw [e, wRel_item0 zs (j / 2) hi]; exact c0
  · have e : j = j / 2 * 2 + 1 := by omega
    rw [e, wRel_item1 zs (j / 2) hi, ← Deep.add_add]; exact c1
theorem rNews_one (zs : List Rel) : ∀ u ∈ rNews zs, u.oneCell' = true := by
  intro u hu
  obtain ⟨i, _, rfl⟩ := List.mem_map.1 hu
  unfold wRel; split <;> (split <;> rfl)
theorem copysym_any (O : Option Addr) (ca : Nat) (zs : List Sym) (w : World) (hA : SymsAt w O zs) (h0 : O = none → ca = 0) (hz : zs.length ≤ 1048576) :
    Calls Tryz.prog 75 #[.slice O zs.length ca] w fun e w' => CopyP 131 3 zs.length (sNews zs) w e w' := by
  obtain ⟨i0, hi, hz0, hz1, hz2⟩ := info42
  cases O with
  | none =>
    obtain rfl := h0 rfl
    have hl : zs.length = 0 := by
      cases zs with
      | nil => rfl
      | cons x t => obtain ⟨a, e, _⟩ := hA 0 (by simp); cases e
    have hn : sNews zs = [] := by unfold sNews; rw [hl]; rfl
    rw [hl, hn]
    have hr := run_append_owned_none (P := Tryz.prog) (w := w) w.heap.size 72 72 131 i0 3 Tryz.underlying72 hi (.slice none 0 0) 0 [] (World.ownsRow_nil w _ _ _)
    go_enter Tryz.func75, Tryz.ntmps75
    go_wp2
    go_ret
    exact copyP_mk rfl (World.ownsRow_nil w _ _ _) (World.grownBy.refl w _)
  | some a =>
    go_enter Tryz.func75, Tryz.ntmps75
    go_wp2_with (at_builtin; refine wpList_append_own _ rfl (.tmp 4) (.tmp 5) 72 rfl w.heap.size 131 i0 (.agg #[.string ⟨#[]⟩, .int .i8 0, .int .i64 0]) 3 32 Tryz.underlying72 hi hz0 hz1 hz2 rfl (by decide) (.slice none 0 0) 0 [] rfl (World.ownsRow_nil w _ _ _) a zs.length ca (sNews zs) rfl (by simp [sNews]) (sNews_cell hA) (sNews_one _) (by unfold maxLen; omega) (by omega) (Nat.le_refl _) ?_; intro v' w' hown hgrow hnil)
    go_ret
    exact copyP_mk rfl (by simpa using hown) hgrow
theorem copyrel_any (O : Option Addr) (ca : Nat) (zs : List Rel) (w : World) (hA : RelsAt w O zs) (h0 : O = none → ca = 0) (hz : zs.length ≤ 1048576) :
    Calls Tryz.prog 76 #[.slice O zs.length ca] w fun e w' => CopyP 83 2 zs.length (rNews zs) w e w' := by
  obtain ⟨i0, hi, hz0, hz1, hz2⟩ := info44
  cases O with
  | none =>
    obtain rfl := h0 rfl
    have hl : zs.length = 0 := by
      cases zs with
      | nil => rfl
      | cons x t => obtain ⟨a, e, _⟩ := hA 0 (by simp); cases e
    have hn : rNews zs = [] := by unfold rNews; rw [hl]; rfl
    rw [hl, hn]
    have hr := run_append_owned_none (P := Tryz.prog) (w := w) w.heap.size 73 73 83 i0 2 Tryz.underlying73 hi (.slice none 0 0) 0 [] (World.ownsRow_nil w _ _ _)
    go_enter Tryz.func76, Tryz.ntmps76
    go_wp2
    go_ret
    exact copyP_mk rfl (World.ownsRow_nil w _ _ _) (World.grownBy.refl w _)
  | some a =>
    go_enter Tryz.func76, Tryz.ntmps76
    go_wp2_with (at_builtin; refine wpList_append_own _ rfl (.tmp 4) (.tmp 5) 73 rfl w.heap.size 83 i0 (.agg #[.int .i64 0, .int .i64 0]) 2 16 Tryz.underlying73 hi hz0 hz1 hz2 rfl (by decide) (.slice none 0 0) 0 [] rfl (World.ownsRow_nil w _ _ _) a zs.length ca (rNews zs) rfl (by simp [rNews]) (rNews_cell hA) (rNews_one _) (by unfold maxLen; omega) (by omega) (Nat.le_refl _) ?_; intro v' w' hown hgrow hnil)
    go_ret
    exact copyP_mk rfl (by simpa using hown) hgrow
theorem gcell {w w' : World} (hg : w.grownBy w' none) {p : Addr} {v : Value} (hc : w.cell? p = some v) : w'.cell? p = some v := hg.cell hc (by simp)
theorem gfroz {w w' : World} (hg : w.grownBy w' none) {p : Addr} {v : Value} (hc : w.cell? p = some v) (hf : w.frozen? p = false) : w'.frozen? p = false := by
  rw [World.frozen?_of_block (hg.block p.block (World.block_lt_of_cell? w p hc) (by simp))]; exact hf
theorem scell_ne {w : World} {b i j : Nat} {v u : Value} (hij : ¬ i = j) (h : w.cell? ⟨b, j, none⟩ = some u) : (w.setCell ⟨b, i, none⟩ v).cell? ⟨b, j, none⟩ = some u := by
  rw [← h]; simp [go_sem]
theorem scell_eq {w : World} {b i : Nat} {v u : Value} (h : w.cell? ⟨b, i, none⟩ = some u) : (w.setCell ⟨b, i, none⟩ v).cell? ⟨b, i, none⟩ = some v := by
  simp [go_sem, h]
theorem scell_far {w : World} {b c i j : Nat} {v u : Value} (hbc : ¬ b = c) (h : w.cell? ⟨c, j, none⟩ = some u) : (w.setCell ⟨b, i, none⟩ v).cell? ⟨c, j, none⟩ = some u := by
  rw [← h]; simp [go_sem]
theorem sfroz {w : World} {b i : Nat} {v : Value} {q : Addr} (h : w.frozen? q = false) : (w.setCell ⟨b, i, none⟩ v).frozen? q = false := by
  rw [← h]; simp [go_sem]
theorem keepN {w w' : World} {base e sz : Nat} {v : Value} {n : Nat} {xs : List Value} (h : w.ownsRow base e sz v n xs) (hg : w.grownBy w' none) : w'.ownsRow base e sz v n xs := h.kept hg (by
  by_cases c : v.ownBlock = none
  · exact Or.inl c
  · exact Or.inr c)
theorem keepS {w w' : World} {base e sz b : Nat} {v : Value} {n : Nat} {xs : List Value} (h : w.ownsRow base e sz v n xs) (hg : w.grownBy w' (some b)) (hb : b < base) : w'.ownsRow base e sz v n xs := h.kept hg (Or.inr fun c => by
  have := (h.lt b c).1; omega)
theorem ownMono {w : World} {base base' e sz : Nat} {v : Value} {n : Nat} {xs : List Value} (h : w.ownsRow base e sz v n xs) (hb : base' ≤ base) : w.ownsRow base' e sz v n xs := ⟨h.1, h.2.imp id fun ⟨g, cap, cur, a, b, c⟩ => ⟨g, cap, cur, a, Nat.le_trans hb b, c⟩⟩
theorem gset (w : World) (b i : Nat) (v : Value) : w.grownBy (w.setCell ⟨b, i, none⟩ v) (some b) := Lib.grownBy_setB (World.grownBy.refl w _) i v
theorem below_growC {w w1 w2 : World} (h : Below w.heap.size w w1) (hg : w1.grownBy w2 none) : Below w.heap.size w w2 := h.grown hg h.size (fun k e => by cases e)
/-- How a copy of an object ends. -/
def CopyO (nm : ByteArray) (dA : Int) (code data : List Int) (ss : List Sym) (rs : List Rel) (w : World) (e : Ending) (w' : World) : Prop := ∃ (O1 O2 O3 O4 : Option Addr) (k1 k2 k3 k4 : Nat),
  e = .returned (.agg #[.string nm, .slice O1 code.length k1, .int .i64 dA, .slice O2 data.length k2, .slice O3 ss.length k3, .slice O4 rs.length k4]) ∧ Below w.heap.size w w' ∧
  w'.ownsRow w.heap.size 78 1 (.slice O1 code.length k1) code.length (iNews .u32 code) ∧ w'.ownsRow w.heap.size 2 1 (.slice O2 data.length k2) data.length (iNews .i64 data) ∧ w'.ownsRow w.heap.size 131 3 (.slice O3 ss.length k3) ss.length (sNews ss) ∧ w'.ownsRow w.heap.size 83 2 (.slice O4 rs.length k4) rs.length (rNews rs)
set_option maxRecDepth 100000 in
set_option maxHeartbeats 4000000 in
theorem copyobj_any (nm : ByteArray) (dA : Int) (A1 A2 A3 A4 : Option Addr) (c1 c2 c3 c4 : Nat) (code data : List Int) (ss : List Sym) (rs : List Rel) (w : World) (hC : IntsAt w A1 .u32 code) (hD : IntsAt w A2 .i64 data) (hS : SymsAt w A3 ss) (hL : RelsAt w A4 rs) (h01 : A1 = none → c1 = 0) (h02 : A2 = none → c2 = 0) (h03 : A3 = none → c3 = 0) (h04 : A4 = none → c4 = 0) (hc : code.length ≤ 1048576) (hd : data.length ≤ 1048576) (hs : ss.length ≤ 1048576) (hl : rs.length ≤ 1048576) :
    Calls Tryz.prog 24 #[.agg #[.string nm, .slice A1 code.length c1, .int .i64 dA, .slice A2 data.length c2, .slice A3 ss.length c3, .slice A4 rs.length c4]] w fun e w' => CopyO nm dA code data ss rs w e w' := by
  go_enter Tryz.func24, Tryz.ntmps24
  go_wp2_with fail
  refine (copywords_any A1 c1 code _ (hC.keep (lb_alloc (lb_alloc (Below.refl _ _) _) _)) h01 hc).mono ?_
  rintro e w1 ⟨O1, k1, rfl, hown1, hg1, hn1⟩
  have b10 : w1.cell? ⟨w.heap.size, 0, none⟩ = some (.string nm) := gcell hg1 (by simp [go_sem])
  have fb10 : w1.frozen? ⟨w.heap.size, 0, none⟩ = false := gfroz hg1 (v := .string nm) (by simp [go_sem]) (by simp [go_sem])
  have r10 : w1.cell? ⟨w.heap.size + 1, 0, none⟩ = some (.string ⟨#[]⟩) := gcell hg1 (by simp [go_sem])
  have fr10 : w1.frozen? ⟨w.heap.size + 1, 0, none⟩ = false := gfroz hg1 (v := .string ⟨#[]⟩) (by simp [go_sem]) (by simp [go_sem])
  have b11 : w1.cell? ⟨w.heap.size, 1, none⟩ = some (.slice A1 code.length c1) := gcell hg1 (by simp [go_sem])
  have fb11 : w1.frozen? ⟨w.heap.size, 1, none⟩ = false := gfroz hg1 (v := .slice A1 code.length c1) (by simp [go_sem]) (by simp [go_sem])
  have r11 : w1.cell? ⟨w.heap.size + 1, 1, none⟩ = some (.slice none 0 0) := gcell hg1 (by simp [go_sem])
  have fr11 : w1.frozen? ⟨w.heap.size + 1, 1, none⟩ = false := gfroz hg1 (v := .slice none 0 0) (by simp [go_sem]) (by simp [go_sem])
  have b12 : w1.cell? ⟨w.heap.size, 2, none⟩ = some (.int .i64 dA) := gcell hg1 (by simp [go_sem])
  have fb12 : w1.frozen? ⟨w.heap.size, 2, none⟩ = false := gfroz hg1 (v := .int .i64 dA) (by simp [go_sem]) (by simp [go_sem])
  have r12 : w1.cell? ⟨w.heap.size + 1, 2, none⟩ = some (.int .i64 0) := gcell hg1 (by simp [go_sem])
  have fr12 : w1.frozen? ⟨w.heap.size + 1, 2, none⟩ = false := gfroz hg1 (v := .int .i64 0) (by simp [go_sem]) (by simp [go_sem])
  have b13 : w1.cell? ⟨w.heap.size, 3, none⟩ = some (.slice A2 data.length c2) := gcell hg1 (by simp [go_sem])
  have fb13 : w1.frozen? ⟨w.heap.size, 3, none⟩ = false := gfroz hg1 (v := .slice A2 data.length c2) (by simp [go_sem]) (by simp [go_sem])
  have r13 : w1.cell? ⟨w.heap.size + 1, 3, none⟩ = some (.slice none 0 0) := gcell hg1 (by simp [go_sem])
  have fr13 : w1.frozen? ⟨w.heap.size + 1, 3, none⟩ = false := gfroz hg1 (v := .slice none 0 0) (by simp [go_sem]) (by simp [go_sem])
  have b14 : w1.cell? ⟨w.heap.size, 4, none⟩ = some (.slice A3 ss.length c3) := gcell hg1 (by simp [go_sem])
  have fb14 : w1.frozen? ⟨w.heap.size, 4, none⟩ = false := gfroz hg1 (v := .slice A3 ss.length c3) (by simp [go_sem]) (by simp [go_sem])
  have r14 : w1.cell? ⟨w.heap.size + 1, 4, none⟩ = some (.slice none 0 0) := gcell hg1 (by simp [go_sem])
  have fr14 : w1.frozen? ⟨w.heap.size + 1, 4, none⟩ = false := gfroz hg1 (v := .slice none 0 0) (by simp [go_sem]) (by simp [go_sem])
  have b15 : w1.cell? ⟨w.heap.size, 5, none⟩ = some (.slice A4 rs.length c4) := gcell hg1 (by simp [go_sem])
  have fb15 : w1.frozen? ⟨w.heap.size, 5, none⟩ = false := gfroz hg1 (v := .slice A4 rs.length c4) (by simp [go_sem]) (by simp [go_sem])
  have r15 : w1.cell? ⟨w.heap.size + 1, 5, none⟩ = some (.slice none 0 0) := gcell hg1 (by simp [go_sem])
  have fr15 : w1.frozen? ⟨w.heap.size + 1, 5, none⟩ = false := gfroz hg1 (v := .slice none 0 0) (by simp [go_sem]) (by simp [go_sem])
  have x10 : (w1.setCell ⟨w.heap.size, 1, none⟩ (.slice O1 code.length k1)).cell? ⟨w.heap.size, 0, none⟩ = some (.string nm) := scell_ne (by omega) b10
  have fx10 : (w1.setCell ⟨w.heap.size, 1, none⟩ (.slice O1 code.length k1)).frozen? ⟨w.heap.size, 0, none⟩ = false := sfroz fb10
  have y10 : (w1.setCell ⟨w.heap.size, 1, none⟩ (.slice O1 code.length k1)).cell? ⟨w.heap.size + 1, 0, none⟩ = some (.string ⟨#[]⟩) := scell_far (by omega) r10
  have fy10 : (w1.setCell ⟨w.heap.size, 1, none⟩ (.slice O1 code.length k1)).frozen? ⟨w.heap.size + 1, 0, none⟩ = false := sfroz fr10
  have x11 : (w1.setCell ⟨w.heap.size, 1, none⟩ (.slice O1 code.length k1)).cell? ⟨w.heap.size, 1, none⟩ = some (.slice O1 code.length k1) := scell_eq b11
  have fx11 : (w1.setCell ⟨w.heap.size, 1, none⟩ (.slice O1 code.length k1)).frozen? ⟨w.heap.size, 1, none⟩ = false := sfroz fb11
  have y11 : (w1.setCell ⟨w.heap.size, 1, none⟩ (.slice O1 code.length k1)).cell? ⟨w.heap.size + 1, 1, none⟩ = some (.slice none 0 0) := scell_far (by omega) r11
  have fy11 : (w1.setCell ⟨w.heap.size, 1, none⟩ (.slice O1 code.length k1)).frozen? ⟨w.heap.size + 1, 1, none⟩ = false := sfroz fr11
  have x12 : (w1.setCell ⟨w.heap.size, 1, none⟩ (.slice O1 code.length k1)).cell? ⟨w.heap.size, 2, none⟩ = some (.int .i64 dA) := scell_ne (by omega) b12
  have fx12 : (w1.setCell ⟨w.heap.size, 1, none⟩ (.slice O1 code.length k1)).frozen? ⟨w.heap.size, 2, none⟩ = false := sfroz fb12
  have y12 : (w1.setCell ⟨w.heap.size, 1, none⟩ (.slice O1 code.length k1)).cell? ⟨w.heap.size + 1, 2, none⟩ = some (.int .i64 0) := scell_far (by omega) r12
  have fy12 : (w1.setCell ⟨w.heap.size, 1, none⟩ (.slice O1 code.length k1)).frozen? ⟨w.heap.size + 1, 2, none⟩ = false := sfroz fr12
  have x13 : (w1.setCell ⟨w.heap.size, 1, none⟩ (.slice O1 code.length k1)).cell? ⟨w.heap.size, 3, none⟩ = some (.slice A2 data.length c2) := scell_ne (by omega) b13
  have fx13 : (w1.setCell ⟨w.heap.size, 1, none⟩ (.slice O1 code.length k1)).frozen? ⟨w.heap.size, 3, none⟩ = false := sfroz fb13
  have y13 : (w1.setCell ⟨w.heap.size, 1, none⟩ (.slice O1 code.length k1)).cell? ⟨w.heap.size + 1, 3, none⟩ = some (.slice none 0 0) := scell_far (by omega) r13
  have fy13 : (w1.setCell ⟨w.heap.size, 1, none⟩ (.slice O1 code.length k1)).frozen? ⟨w.heap.size + 1, 3, none⟩ = false := sfroz fr13
  have x14 : (w1.setCell ⟨w.heap.size, 1, none⟩ (.slice O1 code.length k1)).cell? ⟨w.heap.size, 4, none⟩ = some (.slice A3 ss.length c3) := scell_ne (by omega) b14
  have fx14 : (w1.setCell ⟨w.heap.size, 1, none⟩ (.slice O1 code.length k1)).frozen? ⟨w.heap.size, 4, none⟩ = false := sfroz fb14
  have y14 : (w1.setCell ⟨w.heap.size, 1, none⟩ (.slice O1 code.length k1)).cell? ⟨w.heap.size + 1, 4, none⟩ = some (.slice none 0 0) := scell_far (by omega) r14
  have fy14 : (w1.setCell ⟨w.heap.size, 1, none⟩ (.slice O1 code.length k1)).frozen? ⟨w.heap.size + 1, 4, none⟩ = false := sfroz fr14
  have x15 : (w1.setCell ⟨w.heap.size, 1, none⟩ (.slice O1 code.length k1)).cell? ⟨w.heap.size, 5, none⟩ = some (.slice A4 rs.length c4) := scell_ne (by omega) b15
  have fx15 : (w1.setCell ⟨w.heap.size, 1, none⟩ (.slice O1 code.length k1)).frozen? ⟨w.heap.size, 5, none⟩ = false := sfroz fb15
  have y15 : (w1.setCell ⟨w.heap.size, 1, none⟩ (.slice O1 code.length k1)).cell? ⟨w.heap.size + 1, 5, none⟩ = some (.slice none 0 0) := scell_far (by omega) r15
  have fy15 : (w1.setCell ⟨w.heap.size, 1, none⟩ (.slice O1 code.length k1)).frozen? ⟨w.heap.size + 1, 5, none⟩ = false := sfroz fr15
  have HB1 : Hid (Below w.heap.size w w1) := below_growC (lb_alloc (lb_alloc (Below.refl _ _) _) _) hg1
  have HX1 : Hid (Below w.heap.size w (w1.setCell ⟨w.heap.size, 1, none⟩ (.slice O1 code.length k1))) := HB1.out.setCell (Nat.le_refl _) _
  have hb1 : w.heap.size + 2 ≤ w1.heap.size := by have := hg1.size; simp at this; omega
  have HO11 : Hid (w1.ownsRow (w.heap.size + 2) 78 1 (.slice O1 code.length k1) code.length (iNews .u32 code)) := ownMono hown1 (by simp)
  have HP11 : Hid ((w1.setCell ⟨w.heap.size, 1, none⟩ (.slice O1 code.length k1)).ownsRow (w.heap.size + 2) 78 1 (.slice O1 code.length k1) code.length (iNews .u32 code)) := keepS HO11.out (gset _ _ _ _) (by omega)
  clear hown1 hg1 hn1
  go_wp2_with fail
  refine (copylongs_any A2 c2 data _ (hD.keep HX1.out) h02 hd).mono ?_
  rintro e w2 ⟨O2, k2, rfl, hown2, hg2, hn2⟩
  have b20 := gcell hg2 x10
  have fb20 := gfroz hg2 x10 fx10
  have r20 := gcell hg2 y10
  have fr20 := gfroz hg2 y10 fy10
  have b21 := gcell hg2 x11
  have fb21 := gfroz hg2 x11 fx11
  have r21 := gcell hg2 y11
  have fr21 := gfroz hg2 y11 fy11
  have b22 := gcell hg2 x12
  have fb22 := gfroz hg2 x12 fx12
  have r22 := gcell hg2 y12
  have fr22 := gfroz hg2 y12 fy12
  have b23 := gcell hg2 x13
  have fb23 := gfroz hg2 x13 fx13
  have r23 := gcell hg2 y13
  have fr23 := gfroz hg2 y13 fy13
  have b24 := gcell hg2 x14
  have fb24 := gfroz hg2 x14 fx14
  have r24 := gcell hg2 y14
  have fr24 := gfroz hg2 y14 fy14
  have b25 := gcell hg2 x15
  have fb25 := gfroz hg2 x15 fx15
  have r25 := gcell hg2 y15
  have fr25 := gfroz hg2 y15 fy15
  have x20 : (w2.setCell ⟨w.heap.size, 3, none⟩ (.slice O2 data.length k2)).cell? ⟨w.heap.size, 0, none⟩ = some (.string nm) := scell_ne (by omega) b20
  have fx20 : (w2.setCell ⟨w.heap.size, 3, none⟩ (.slice O2 data.length k2)).frozen? ⟨w.heap.size, 0, none⟩ = false := sfroz fb20
  have y20 : (w2.setCell ⟨w.heap.size, 3, none⟩ (.slice O2 data.length k2)).cell? ⟨w.heap.size + 1, 0, none⟩ = some (.string ⟨#[]⟩) := scell_far (by omega) r20
  have fy20 : (w2.setCell ⟨w.heap.size, 3, none⟩ (.slice O2 data.length k2)).frozen? ⟨w.heap.size + 1, 0, none⟩ = false := sfroz fr20
  have x21 : (w2.setCell ⟨w.heap.size, 3, none⟩ (.slice O2 data.length k2)).cell? ⟨w.heap.size, 1, none⟩ = some (.slice O1 code.length k1) := scell_ne (by omega) b21
  have fx21 : (w2.setCell ⟨w.heap.size, 3, none⟩ (.slice O2 data.length k2)).frozen? ⟨w.heap.size, 1, none⟩ = false := sfroz fb21
  have y21 : (w2.setCell ⟨w.heap.size, 3, none⟩ (.slice O2 data.length k2)).cell? ⟨w.heap.size + 1, 1, none⟩ = some (.slice none 0 0) := scell_far (by omega) r21
  have fy21 : (w2.setCell ⟨w.heap.size, 3, none⟩ (.slice O2 data.length k2)).frozen? ⟨w.heap.size + 1, 1, none⟩ = false := sfroz fr21
  have x22 : (w2.setCell ⟨w.heap.size, 3, none⟩ (.slice O2 data.length k2)).cell? ⟨w.heap.size, 2, none⟩ = some (.int .i64 dA) := scell_ne (by omega) b22
  have fx22 : (w2.setCell ⟨w.heap.size, 3, none⟩ (.slice O2 data.length k2)).frozen? ⟨w.heap.size, 2, none⟩ = false := sfroz fb22
  have y22 : (w2.setCell ⟨w.heap.size, 3, none⟩ (.slice O2 data.length k2)).cell? ⟨w.heap.size + 1, 2, none⟩ = some (.int .i64 0) := scell_far (by omega) r22
  have fy22 : (w2.setCell ⟨w.heap.size, 3, none⟩ (.slice O2 data.length k2)).frozen? ⟨w.heap.size + 1, 2, none⟩ = false := sfroz fr22
  have x23 : (w2.setCell ⟨w.heap.size, 3, none⟩ (.slice O2 data.length k2)).cell? ⟨w.heap.size, 3, none⟩ = some (.slice O2 data.length k2) := scell_eq b23
  have fx23 : (w2.setCell ⟨w.heap.size, 3, none⟩ (.slice O2 data.length k2)).frozen? ⟨w.heap.size, 3, none⟩ = false := sfroz fb23
  have y23 : (w2.setCell ⟨w.heap.size, 3, none⟩ (.slice O2 data.length k2)).cell? ⟨w.heap.size + 1, 3, none⟩ = some (.slice none 0 0) := scell_far (by omega) r23
  have fy23 : (w2.setCell ⟨w.heap.size, 3, none⟩ (.slice O2 data.length k2)).frozen? ⟨w.heap.size + 1, 3, none⟩ = false := sfroz fr23
  have x24 : (w2.setCell ⟨w.heap.size, 3, none⟩ (.slice O2 data.length k2)).cell? ⟨w.heap.size, 4, none⟩ = some (.slice A3 ss.length c3) := scell_ne (by omega) b24
  have fx24 : (w2.setCell ⟨w.heap.size, 3, none⟩ (.slice O2 data.length k2)).frozen? ⟨w.heap.size, 4, none⟩ = false := sfroz fb24
  have y24 : (w2.setCell ⟨w.heap.size, 3, none⟩ (.slice O2 data.length k2)).cell? ⟨w.heap.size + 1, 4, none⟩ = some (.slice none 0 0) := scell_far (by omega) r24
  have fy24 : (w2.setCell ⟨w.heap.size, 3, none⟩ (.slice O2 data.length k2)).frozen? ⟨w.heap.size + 1, 4, none⟩ = false := sfroz fr24
  have x25 : (w2.setCell ⟨w.heap.size, 3, none⟩ (.slice O2 data.length k2)).cell? ⟨w.heap.size, 5, none⟩ = some (.slice A4 rs.length c4) := scell_ne (by omega) b25
  have fx25 : (w2.setCell ⟨w.heap.size, 3, none⟩ (.slice O2 data.length k2)).frozen? ⟨w.heap.size, 5, none⟩ = false := sfroz fb25
  have y25 : (w2.setCell ⟨w.heap.size, 3, none⟩ (.slice O2 data.length k2)).cell? ⟨w.heap.size + 1, 5, none⟩ = some (.slice none 0 0) := scell_far (by omega) r25
  have fy25 : (w2.setCell ⟨w.heap.size, 3, none⟩ (.slice O2 data.length k2)).frozen? ⟨w.heap.size + 1, 5, none⟩ = false := sfroz fr25
  have HB2 : Hid (Below w.heap.size w w2) := below_growC HX1.out hg2
  have HX2 : Hid (Below w.heap.size w (w2.setCell ⟨w.heap.size, 3, none⟩ (.slice O2 data.length k2))) := HB2.out.setCell (Nat.le_refl _) _
  have hb2 : w.heap.size + 2 ≤ w2.heap.size := by have := hg2.size; simp at this; omega
  have HO22 : Hid (w2.ownsRow (w.heap.size + 2) 2 1 (.slice O2 data.length k2) data.length (iNews .i64 data)) := ownMono hown2 (by simp; omega)
  have HO21 : Hid (w2.ownsRow (w.heap.size + 2) 78 1 (.slice O1 code.length k1) code.length (iNews .u32 code)) := keepN HP11.out hg2
  have HP21 : Hid ((w2.setCell ⟨w.heap.size, 3, none⟩ (.slice O2 data.length k2)).ownsRow (w.heap.size + 2) 78 1 (.slice O1 code.length k1) code.length (iNews .u32 code)) := keepS HO21.out (gset _ _ _ _) (by omega)
  have HP22 : Hid ((w2.setCell ⟨w.heap.size, 3, none⟩ (.slice O2 data.length k2)).ownsRow (w.heap.size + 2) 2 1 (.slice O2 data.length k2) data.length (iNews .i64 data)) := keepS HO22.out (gset _ _ _ _) (by omega)
  clear hown2 hg2 hn2 x10 fx10 y10 fy10 b10 fb10 r10 fr10 x11 fx11 y11 fy11 b11 fb11 r11 fr11 x12 fx12 y12 fy12 b12 fb12 r12 fr12 x13 fx13 y13 fy13 b13 fb13 r13 fr13 x14 fx14 y14 fy14 b14 fb14 r14 fr14 x15 fx15 y15 fy15 b15 fb15 r15 fr15
  go_wp2_with fail
  refine (copysym_any A3 c3 ss _ (hS.keep HX2.out) h03 hs).mono ?_
  rintro e w3 ⟨O3, k3, rfl, hown3, hg3, hn3⟩
  have b30 := gcell hg3 x20
  have fb30 := gfroz hg3 x20 fx20
  have r30 := gcell hg3 y20
  have fr30 := gfroz hg3 y20 fy20
  have b31 := gcell hg3 x21
  have fb31 := gfroz hg3 x21 fx21
  have r31 := gcell hg3 y21
  have fr31 := gfroz hg3 y21 fy21
  have b32 := gcell hg3 x22
  have fb32 := gfroz hg3 x22 fx22
  have r32 := gcell hg3 y22
  have fr32 := gfroz hg3 y22 fy22
  have b33 := gcell hg3 x23
  have fb33 := gfroz hg3 x23 fx23
  have r33 := gcell hg3 y23
  have fr33 := gfroz hg3 y23 fy23
  have b34 := gcell hg3 x24
  have fb34 := gfroz hg3 x24 fx24
  have r34 := gcell hg3 y24
  have fr34 := gfroz hg3 y24 fy24
  have b35 := gcell hg3 x25
  have fb35 := gfroz hg3 x25 fx25
  have r35 := gcell hg3 y25
  have fr35 := gfroz hg3 y25 fy25
  have x30 : (w3.setCell ⟨w.heap.size, 4, none⟩ (.slice O3 ss.length k3)).cell? ⟨w.heap.size, 0, none⟩ = some (.string nm) := scell_ne (by omega) b30
  have fx30 : (w3.setCell ⟨w.heap.size, 4, none⟩ (.slice O3 ss.length k3)).frozen? ⟨w.heap.size, 0, none⟩ = false := sfroz fb30
  have y30 : (w3.setCell ⟨w.heap.size, 4, none⟩ (.slice O3 ss.length k3)).cell? ⟨w.heap.size + 1, 0, none⟩ = some (.string ⟨#[]⟩) := scell_far (by omega) r30
  have fy30 : (w3.setCell ⟨w.heap.size, 4, none⟩ (.slice O3 ss.length k3)).frozen? ⟨w.heap.size + 1, 0, none⟩ = false := sfroz fr30
  have x31 : (w3.setCell ⟨w.heap.size, 4, none⟩ (.slice O3 ss.length k3)).cell? ⟨w.heap.size, 1, none⟩ = some (.slice O1 code.length k1) := scell_ne (by omega) b31
  have fx31 : (w3.setCell ⟨w.heap.size, 4, none⟩ (.slice O3 ss.length k3)).frozen? ⟨w.heap.size, 1, none⟩ = false := sfroz fb31
  have y31 : (w3.setCell ⟨w.heap.size, 4, none⟩ (.slice O3 ss.length k3)).cell? ⟨w.heap.size + 1, 1, none⟩ = some (.slice none 0 0) := scell_far (by omega) r31
  have fy31 : (w3.setCell ⟨w.heap.size, 4, none⟩ (.slice O3 ss.length k3)).frozen? ⟨w.heap.size + 1, 1, none⟩ = false := sfroz fr31
  have x32 : (w3.setCell ⟨w.heap.size, 4, none⟩ (.slice O3 ss.length k3)).cell? ⟨w.heap.size, 2, none⟩ = some (.int .i64 dA) := scell_ne (by omega) b32
  have fx32 : (w3.setCell ⟨w.heap.size, 4, none⟩ (.slice O3 ss.length k3)).frozen? ⟨w.heap.size, 2, none⟩ = false := sfroz fb32
  have y32 : (w3.setCell ⟨w.heap.size, 4, none⟩ (.slice O3 ss.length k3)).cell? ⟨w.heap.size + 1, 2, none⟩ = some (.int .i64 0) := scell_far (by omega) r32
  have fy32 : (w3.setCell ⟨w.heap.size, 4, none⟩ (.slice O3 ss.length k3)).frozen? ⟨w.heap.size + 1, 2, none⟩ = false := sfroz fr32
  have x33 : (w3.setCell ⟨w.heap.size, 4, none⟩ (.slice O3 ss.length k3)).cell? ⟨w.heap.size, 3, none⟩ = some (.slice O2 data.length k2) := scell_ne (by omega) b33
  have fx33 : (w3.setCell ⟨w.heap.size, 4, none⟩ (.slice O3 ss.length k3)).frozen? ⟨w.heap.size, 3, none⟩ = false := sfroz fb33
  have y33 : (w3.setCell ⟨w.heap.size, 4, none⟩ (.slice O3 ss.length k3)).cell? ⟨w.heap.size + 1, 3, none⟩ = some (.slice none 0 0) := scell_far (by omega) r33
  have fy33 : (w3.setCell ⟨w.heap.size, 4, none⟩ (.slice O3 ss.length k3)).frozen? ⟨w.heap.size + 1, 3, none⟩ = false := sfroz fr33
  have x34 : (w3.setCell ⟨w.heap.size, 4, none⟩ (.slice O3 ss.length k3)).cell? ⟨w.heap.size, 4, none⟩ = some (.slice O3 ss.length k3) := scell_eq b34
  have fx34 : (w3.setCell ⟨w.heap.size, 4, none⟩ (.slice O3 ss.length k3)).frozen? ⟨w.heap.size, 4, none⟩ = false := sfroz fb34
  have y34 : (w3.setCell ⟨w.heap.size, 4, none⟩ (.slice O3 ss.length k3)).cell? ⟨w.heap.size + 1, 4, none⟩ = some (.slice none 0 0) := scell_far (by omega) r34
  have fy34 : (w3.setCell ⟨w.heap.size, 4, none⟩ (.slice O3 ss.length k3)).frozen? ⟨w.heap.size + 1, 4, none⟩ = false := sfroz fr34
  have x35 : (w3.setCell ⟨w.heap.size, 4, none⟩ (.slice O3 ss.length k3)).cell? ⟨w.heap.size, 5, none⟩ = some (.slice A4 rs.length c4) := scell_ne (by omega) b35
  have fx35 : (w3.setCell ⟨w.heap.size, 4, none⟩ (.slice O3 ss.length k3)).frozen? ⟨w.heap.size, 5, none⟩ = false := sfroz fb35
  have y35 : (w3.setCell ⟨w.heap.size, 4, none⟩ (.slice O3 ss.length k3)).cell? ⟨w.heap.size + 1, 5, none⟩ = some (.slice none 0 0) := scell_far (by omega) r35
  have fy35 : (w3.setCell ⟨w.heap.size, 4, none⟩ (.slice O3 ss.length k3)).frozen? ⟨w.heap.size + 1, 5, none⟩ = false := sfroz fr35
  have HB3 : Hid (Below w.heap.size w w3) := below_growC HX2.out hg3
  have HX3 : Hid (Below w.heap.size w (w3.setCell ⟨w.heap.size, 4, none⟩ (.slice O3 ss.length k3))) := HB3.out.setCell (Nat.le_refl _) _
  have hb3 : w.heap.size + 2 ≤ w3.heap.size := by have := hg3.size; simp at this; omega
  have HO33 : Hid (w3.ownsRow (w.heap.size + 2) 131 3 (.slice O3 ss.length k3) ss.length (sNews ss)) := ownMono hown3 (by simp; omega)
  have HO31 : Hid (w3.ownsRow (w.heap.size + 2) 78 1 (.slice O1 code.length k1) code.length (iNews .u32 code)) := keepN HP21.out hg3
  have HO32 : Hid (w3.ownsRow (w.heap.size + 2) 2 1 (.slice O2 data.length k2) data.length (iNews .i64 data)) := keepN HP22.out hg3
  have HP31 : Hid ((w3.setCell ⟨w.heap.size, 4, none⟩ (.slice O3 ss.length k3)).ownsRow (w.heap.size + 2) 78 1 (.slice O1 code.length k1) code.length (iNews .u32 code)) := keepS HO31.out (gset _ _ _ _) (by omega)
  have HP32 : Hid ((w3.setCell ⟨w.heap.size, 4, none⟩ (.slice O3 ss.length k3)).ownsRow (w.heap.size + 2) 2 1 (.slice O2 data.length k2) data.length (iNews .i64 data)) := keepS HO32.out (gset _ _ _ _) (by omega)
  have HP33 : Hid ((w3.setCell ⟨w.heap.size, 4, none⟩ (.slice O3 ss.length k3)).ownsRow (w.heap.size + 2) 131 3 (.slice O3 ss.length k3) ss.length (sNews ss)) := keepS HO33.out (gset _ _ _ _) (by omega)
  clear hown3 hg3 hn3 x20 fx20 y20 fy20 b20 fb20 r20 fr20 x21 fx21 y21 fy21 b21 fb21 r21 fr21 x22 fx22 y22 fy22 b22 fb22 r22 fr22 x23 fx23 y23 fy23 b23 fb23 r23 fr23 x24 fx24 y24 fy24 b24 fb24 r24 fr24 x25 fx25 y25 fy25 b25 fb25 r25 fr25
  go_wp2_with fail
  refine (copyrel_any A4 c4 rs _ (hL.keep HX3.out) h04 hl).mono ?_
  rintro e w4 ⟨O4, k4, rfl, hown4, hg4, hn4⟩
  have b40 := gcell hg4 x30
  have fb40 := gfroz hg4 x30 fx30
  have r40 := gcell hg4 y30
  have fr40 := gfroz hg4 y30 fy30
  have b41 := gcell hg4 x31
  have fb41 := gfroz hg4 x31 fx31
  have r41 := gcell hg4 y31
  have fr41 := gfroz hg4 y31 fy31
  have b42 := gcell hg4 x32
  have fb42 := gfroz hg4 x32 fx32
  have r42 := gcell hg4 y32
  have fr42 := gfroz hg4 y32 fy32
  have b43 := gcell hg4 x33
  have fb43 := gfroz hg4 x33 fx33
  have r43 := gcell hg4 y33
  have fr43 := gfroz hg4 y33 fy33
  have b44 := gcell hg4 x34
  have fb44 := gfroz hg4 x34 fx34
  have r44 := gcell hg4 y34
  have fr44 := gfroz hg4 y34 fy34
  have b45 := gcell hg4 x35
  have fb45 := gfroz hg4 x35 fx35
  have r45 := gcell hg4 y35
  have fr45 := gfroz hg4 y35 fy35
  have x40 : (w4.setCell ⟨w.heap.size, 5, none⟩ (.slice O4 rs.length k4)).cell? ⟨w.heap.size, 0, none⟩ = some (.string nm) := scell_ne (by omega) b40
  have fx40 : (w4.setCell ⟨w.heap.size, 5, none⟩ (.slice O4 rs.length k4)).frozen? ⟨w.heap.size, 0, none⟩ = false := sfroz fb40
  have y40 : (w4.setCell ⟨w.heap.size, 5, none⟩ (.slice O4 rs.length k4)).cell? ⟨w.heap.size + 1, 0, none⟩ = some (.string ⟨#[]⟩) := scell_far (by omega) r40
  have fy40 : (w4.setCell ⟨w.heap.size, 5, none⟩ (.slice O4 rs.length k4)).frozen? ⟨w.heap.size + 1, 0, none⟩ = false := sfroz fr40
  have x41 : (w4.setCell ⟨w.heap.size, 5, none⟩ (.slice O4 rs.length k4)).cell? ⟨w.heap.size, 1, none⟩ = some (.slice O1 code.length k1) := scell_ne (by omega) b41
  have fx41 : (w4.setCell ⟨w.heap.size, 5, none⟩ (.slice O4 rs.length k4)).frozen? ⟨w.heap.size, 1, none⟩ = false := sfroz fb41
  have y41 : (w4.setCell ⟨w.heap.size, 5, none⟩ (.slice O4 rs.length k4)).cell? ⟨w.heap.size + 1, 1, none⟩ = some (.slice none 0 0) := scell_far (by omega) r41
  have fy41 : (w4.setCell ⟨w.heap.size, 5, none⟩ (.slice O4 rs.length k4)).frozen? ⟨w.heap.size + 1, 1, none⟩ = false := sfroz fr41
  have x42 : (w4.setCell ⟨w.heap.size, 5, none⟩ (.slice O4 rs.length k4)).cell? ⟨w.heap.size, 2, none⟩ = some (.int .i64 dA) := scell_ne (by omega) b42
  have fx42 : (w4.setCell ⟨w.heap.size, 5, none⟩ (.slice O4 rs.length k4)).frozen? ⟨w.heap.size, 2, none⟩ = false := sfroz fb42
  have y42 : (w4.setCell ⟨w.heap.size, 5, none⟩ (.slice O4 rs.length k4)).cell? ⟨w.heap.size + 1, 2, none⟩ = some (.int .i64 0) := scell_far (by omega) r42
  have fy42 : (w4.setCell ⟨w.heap.size, 5, none⟩ (.slice O4 rs.length k4)).frozen? ⟨w.heap.size + 1, 2, none⟩ = false := sfroz fr42
  have x43 : (w4.setCell ⟨w.heap.size, 5, none⟩ (.slice O4 rs.length k4)).cell? ⟨w.heap.size, 3, none⟩ = some (.slice O2 data.length k2) := scell_ne (by omega) b43
  have fx43 : (w4.setCell ⟨w.heap.size, 5, none⟩ (.slice O4 rs.length k4)).frozen? ⟨w.heap.size, 3, none⟩ = false := sfroz fb43
  have y43 : (w4.setCell ⟨w.heap.size, 5, none⟩ (.slice O4 rs.length k4)).cell? ⟨w.heap.size + 1, 3, none⟩ = some (.slice none 0 0) := scell_far (by omega) r43
  have fy43 : (w4.setCell ⟨w.heap.size, 5, none⟩ (.slice O4 rs.length k4)).frozen? ⟨w.heap.size + 1, 3, none⟩ = false := sfroz fr43
  have x44 : (w4.setCell ⟨w.heap.size, 5, none⟩ (.slice O4 rs.length k4)).cell? ⟨w.heap.size, 4, none⟩ = some (.slice O3 ss.length k3) := scell_ne (by omega) b44
  have fx44 : (w4.setCell ⟨w.heap.size, 5, none⟩ (.slice O4 rs.length k4)).frozen? ⟨w.heap.size, 4, none⟩ = false := sfroz fb44
  have y44 : (w4.setCell ⟨w.heap.size, 5, none⟩ (.slice O4 rs.length k4)).cell? ⟨w.heap.size + 1, 4, none⟩ = some (.slice none 0 0) := scell_far (by omega) r44
  have fy44 : (w4.setCell ⟨w.heap.size, 5, none⟩ (.slice O4 rs.length k4)).frozen? ⟨w.heap.size + 1, 4, none⟩ = false := sfroz fr44
  have x45 : (w4.setCell ⟨w.heap.size, 5, none⟩ (.slice O4 rs.length k4)).cell? ⟨w.heap.size, 5, none⟩ = some (.slice O4 rs.length k4) := scell_eq b45
  have fx45 : (w4.setCell ⟨w.heap.size, 5, none⟩ (.slice O4 rs.length k4)).frozen? ⟨w.heap.size, 5, none⟩ = false := sfroz fb45
  have y45 : (w4.setCell ⟨w.heap.size, 5, none⟩ (.slice O4 rs.length k4)).cell? ⟨w.heap.size + 1, 5, none⟩ = some (.slice none 0 0) := scell_far (by omega) r45
  have fy45 : (w4.setCell ⟨w.heap.size, 5, none⟩ (.slice O4 rs.length k4)).frozen? ⟨w.heap.size + 1, 5, none⟩ = false := sfroz fr45
  have HB4 : Hid (Below w.heap.size w w4) := below_growC HX3.out hg4
  have HX4 : Hid (Below w.heap.size w (w4.setCell ⟨w.heap.size, 5, none⟩ (.slice O4 rs.length k4))) := HB4.out.setCell (Nat.le_refl _) _
  have hb4 : w.heap.size + 2 ≤ w4.heap.size := by have := hg4.size; simp at this; omega
  have HO44 : Hid (w4.ownsRow (w.heap.size + 2) 83 2 (.slice O4 rs.length k4) rs.length (rNews rs)) := ownMono hown4 (by simp; omega)
  have HO41 : Hid (w4.ownsRow (w.heap.size + 2) 78 1 (.slice O1 code.length k1) code.length (iNews .u32 code)) := keepN HP31.out hg4
  have HO42 : Hid (w4.ownsRow (w.heap.size + 2) 2 1 (.slice O2 data.length k2) data.length (iNews .i64 data)) := keepN HP32.out hg4
  have HO43 : Hid (w4.ownsRow (w.heap.size + 2) 131 3 (.slice O3 ss.length k3) ss.length (sNews ss)) := keepN HP33.out hg4
  have HP41 : Hid ((w4.setCell ⟨w.heap.size, 5, none⟩ (.slice O4 rs.length k4)).ownsRow (w.heap.size + 2) 78 1 (.slice O1 code.length k1) code.length (iNews .u32 code)) := keepS HO41.out (gset _ _ _ _) (by omega)
  have HP42 : Hid ((w4.setCell ⟨w.heap.size, 5, none⟩ (.slice O4 rs.length k4)).ownsRow (w.heap.size + 2) 2 1 (.slice O2 data.length k2) data.length (iNews .i64 data)) := keepS HO42.out (gset _ _ _ _) (by omega)
  have HP43 : Hid ((w4.setCell ⟨w.heap.size, 5, none⟩ (.slice O4 rs.length k4)).ownsRow (w.heap.size + 2) 131 3 (.slice O3 ss.length k3) ss.length (sNews ss)) := keepS HO43.out (gset _ _ _ _) (by omega)
  have HP44 : Hid ((w4.setCell ⟨w.heap.size, 5, none⟩ (.slice O4 rs.length k4)).ownsRow (w.heap.size + 2) 83 2 (.slice O4 rs.length k4) rs.length (rNews rs)) := keepS HO44.out (gset _ _ _ _) (by omega)
  clear hown4 hg4 hn4 x30 fx30 y30 fy30 b30 fb30 r30 fr30 x31 fx31 y31 fy31 b31 fb31 r31 fr31 x32 fx32 y32 fy32 b32 fb32 r32 fr32 x33 fx33 y33 fy33 b33 fb33 r33 fr33 x34 fx34 y34 fy34 b34 fb34 r34 fr34 x35 fx35 y35 fy35 b35 fb35 r35 fr35
  go_wp2
  exact bodyPost_ret (v := .agg #[.string nm, .slice O1 code.length k1, .int .i64 dA, .slice O2 data.length k2, .slice O3 ss.length k3, .slice O4 rs.length k4]) (by simp [results, Tryz.results24, go_sem, y40, y41, y42, y43, y44, y45]) rfl ⟨O1, O2, O3, O4, k1, k2, k3, k4, rfl, ((((((HX4.out.setCell (Nat.le_succ _) _).setCell (Nat.le_succ _) _).setCell (Nat.le_succ _) _).setCell (Nat.le_succ _) _).setCell (Nat.le_succ _) _).setCell (Nat.le_succ _) _), ownMono (keepS HP41.out (Lib.grownBy_setB (Lib.grownBy_setB (Lib.grownBy_setB (Lib.grownBy_setB (Lib.grownBy_setB (gset _ _ _ _) _ _) _ _) _ _) _ _) _ _) (by omega)) (by omega), ownMono (keepS HP42.out (Lib.grownBy_setB (Lib.grownBy_setB (Lib.grownBy_setB (Lib.grownBy_setB (Lib.grownBy_setB (gset _ _ _ _) _ _) _ _) _ _) _ _) _ _) (by omega)) (by omega), ownMono (keepS HP43.out (Lib.grownBy_setB (Lib.grownBy_setB (Lib.grownBy_setB (Lib.grownBy_setB (Lib.grownBy_setB (gset _ _ _ _) _ _) _ _) _ _) _ _) _ _) (by omega)) (by omega), ownMono (keepS HP44.out (Lib.grownBy_setB (Lib.grownBy_setB (Lib.grownBy_setB (Lib.grownBy_setB (Lib.grownBy_setB (gset _ _ _ _) _ _) _ _) _ _) _ _) _ _) (by omega)) (by omega)⟩






end Go.Proofs.YthpkekpojhmaaaaGreatDoor

namespace Go.Proofs.YthpkekpojhmaaaaGreatDoor
open Go.RowKit

theorem own_any {w : World} {base : Nat} {e : TypeId} {size : Nat} {v : Value} {n : Nat} {xs : List Value} (h : w.ownsRow base e size v n xs) : ∃ A c, v = .slice A n c ∧ n ≤ c := by
  rcases h.2 with ⟨rfl, rfl⟩ | ⟨g, cap, cur, rfl, _, _, hc, _⟩
  · exact ⟨none, 0, rfl, Nat.le_refl _⟩
  · exact ⟨_, _, rfl, hc⟩

theorem sNews_get {l : List Sym} {i : Nat} (h : i < l.length) : (sNews l)[i * 3]? = some (.string (sName l i)) ∧ (sNews l)[i * 3 + 1]? = some (.int .i8 (sKind l i)) ∧ (sNews l)[i * 3 + 2]? = some (.int .i64 (sAt l i)) := by
  refine ⟨?_, ?_, ?_⟩
  · rw [sNews, List.getElem?_map, List.getElem?_range (by omega)]
    simp only [Option.map_some, wSym]
    rw [show i * 3 / 3 = i by omega, show i * 3 % 3 = 0 by omega, if_pos h]
    rfl
  · rw [sNews, List.getElem?_map, List.getElem?_range (by omega)]
    simp only [Option.map_some, wSym]
    rw [show (i * 3 + 1) / 3 = i by omega, show (i * 3 + 1) % 3 = 1 by omega, if_pos h]
    rfl
  · rw [sNews, List.getElem?_map, List.getElem?_range (by omega)]
    simp only [Option.map_some, wSym]
    rw [show (i * 3 + 2) / 3 = i by omega, show (i * 3 + 2) % 3 = 2 by omega, if_pos h]
    rfl
theorem rNews_get {l : List Rel} {i : Nat} (h : i < l.length) : (rNews l)[i * 2]? = some (.int .i64 (rAt l i)) ∧ (rNews l)[i * 2 + 1]? = some (.int .i64 (rSym l i)) := by
  refine ⟨?_, ?_⟩
  · rw [rNews, List.getElem?_map, List.getElem?_range (by omega)]
    simp only [Option.map_some, wRel]
    rw [show i * 2 / 2 = i by omega, show i * 2 % 2 = 0 by omega, if_pos h]
    rfl
  · rw [rNews, List.getElem?_map, List.getElem?_range (by omega)]
    simp only [Option.map_some, wRel]
    rw [show (i * 2 + 1) / 2 = i by omega, show (i * 2 + 1) % 2 = 1 by omega, if_pos h]
    rfl

theorem iNews_get {K : IntKind} {l : List Int} {i : Nat} (h : i < l.length) : (iNews K l)[i]? = some (.int K (nth l i)) := by
  simp [iNews, h, wInt]
theorem nrow_ints {w : World} {base c n : Nat} {e : TypeId} {A : Option Addr} {K : IntKind} {l : List Int} (h : w.ownsRow base e 1 (.slice A n c) l.length (iNews K l)) : IntsAt w A K l := fun i hi => by
  rcases h.2 with ⟨_, h0⟩ | ⟨j, cap, cur, hv, hb, hg, hc, _⟩
  · omega
  · cases hv
    exact ⟨_, rfl, h.cells rfl _ _ (iNews_get hi)⟩
theorem nrow_syms {w : World} {base c n : Nat} {e : TypeId} {A : Option Addr} {l : List Sym} (h : w.ownsRow base e 3 (.slice A n c) l.length (sNews l)) : SymsAt w A l := fun i hi => by
  rcases h.2 with ⟨_, h0⟩ | ⟨j, cap, cur, hv, hb, hg, hc, _⟩
  · omega
  · cases hv
    obtain ⟨a, b, d⟩ := sNews_get hi
    exact ⟨_, rfl, h.cells rfl _ _ a, by rw [Deep.add_add]; exact h.cells rfl _ _ b, by rw [Deep.add_add]; exact h.cells rfl _ _ d⟩
theorem nrow_rels {w : World} {base c n : Nat} {e : TypeId} {A : Option Addr} {l : List Rel} (h : w.ownsRow base e 2 (.slice A n c) l.length (rNews l)) : RelsAt w A l := fun i hi => by
  rcases h.2 with ⟨_, h0⟩ | ⟨j, cap, cur, hv, hb, hg, hc, _⟩
  · omega
  · cases hv
    obtain ⟨a, b⟩ := rNews_get hi
    exact ⟨_, rfl, h.cells rfl _ _ a, by rw [Deep.add_add]; exact h.cells rfl _ _ b⟩
/-- No list that is none has room. -/
def NoneO (p : Pl) : Prop := (p.A1 = none → p.c1 = 0) ∧ (p.A2 = none → p.c2 = 0) ∧ (p.A3 = none → p.c3 = 0) ∧ (p.A4 = none → p.c4 = 0)
theorem copyob_any (o : Ob) (p : Pl) (w : World) (h : ObIn w p o) (h0 : NoneO p) :
    Calls Tryz.prog 24 #[.agg #[.string o.nm, .slice p.A1 o.code.length p.c1, .int .i64 o.dA, .slice p.A2 o.data.length p.c2, .slice p.A3 o.ss.length p.c3, .slice p.A4 o.rs.length p.c4]] w fun e w' => ∃ p' : Pl, e = .returned (.agg #[.string o.nm, .slice p'.A1 o.code.length p'.c1, .int .i64 o.dA, .slice p'.A2 o.data.length p'.c2, .slice p'.A3 o.ss.length p'.c3, .slice p'.A4 o.rs.length p'.c4]) ∧ Below w.heap.size w w' ∧ ObIn w' p' o := by
  refine (copyobj_any o.nm o.dA p.A1 p.A2 p.A3 p.A4 p.c1 p.c2 p.c3 p.c4 o.code o.data o.ss o.rs w h.cd h.dt h.sy h.rl h0.1 h0.2.1 h0.2.2.1 h0.2.2.2 h.hc h.hd h.hs h.hl).mono ?_
  rintro e w' ⟨O1, O2, O3, O4, k1, k2, k3, k4, rfl, hb, r1, r2, r3, r4⟩
  obtain ⟨_, c, e4, h4⟩ := own_any r4
  refine ⟨⟨O1, O2, O3, O4, k1, k2, k3, k4⟩, rfl, hb, ⟨nrow_ints r1, nrow_ints r2, nrow_syms r3, nrow_rels r4, h.cr, h.dr, h.da, h.hc, h.hd, h.hs, h.hl, h.hN, ?_⟩⟩
  cases e4
  exact h4




end Go.Proofs.YthpkekpojhmaaaaGreatDoor

namespace Go.Proofs.YthpkekpojhmaaaaGreatDoor
open Go.RowKit

/-- The cells of a list of places. -/
def dNews : List Rel → List Value
  | [] => []
  | x :: l => .int .i64 x.1 :: .int .i64 x.2 :: dNews l
theorem dNews_append : ∀ a b : List Rel, dNews (a ++ b) = dNews a ++ dNews b
  | [], _ => rfl
  | x :: a, b => by rw [List.cons_append, dNews, dNews, dNews_append a b]; rfl
theorem dNews_snoc (a : List Rel) (x : Rel) : dNews (a ++ [x]) = dNews a ++ [.int .i64 x.1, .int .i64 x.2] := dNews_append a [x]
theorem dNews_get : ∀ {l : List Rel} {i : Nat}, i < l.length → (dNews l)[i * 2]? = some (.int .i64 (rAt l i)) ∧ (dNews l)[i * 2 + 1]? = some (.int .i64 (rSym l i))
  | [], _, h => absurd h (Nat.not_lt_zero _)
  | x :: l, 0, _ => ⟨rfl, rfl⟩
  | x :: l, i + 1, h => by
    have := dNews_get (l := l) (i := i) (by simpa using h)
    rw [show (i + 1) * 2 = i * 2 + 1 + 1 by omega]
    exact this
theorem drow_rels {w : World} {base c n : Nat} {e : TypeId} {A : Option Addr} {l : List Rel} (h : w.ownsRow base e 2 (.slice A n c) l.length (dNews l)) : RelsAt w A l := fun i hi => by
  rcases h.2 with ⟨_, h0⟩ | ⟨j, cap, cur, hv, hb, hg, hc, _⟩
  · omega
  · cases hv
    obtain ⟨a, b⟩ := dNews_get hi
    exact ⟨_, rfl, h.cells rfl _ _ a, by rw [Deep.add_add]; exact h.cells rfl _ _ b⟩
theorem own_keep {w w1 : World} {b t size n : Nat} {v : Value} {xs : List Value} (h : w.ownsRow b t size v n xs) (hb : Below w.heap.size w w1) : w1.ownsRow b t size v n xs := by
  refine h.kept (row := none) ⟨hb.os, hb.tape, hb.output, hb.size, fun k hk _ => hb.block k hk⟩ ?_
  cases hv : v.ownBlock <;> simp
theorem own_base {w : World} {b c t size n : Nat} {v : Value} {xs : List Value} (h : w.ownsRow b t size v n xs) (hc : c ≤ b) : w.ownsRow c t size v n xs := by
  refine ⟨h.1, ?_⟩
  rcases h.2 with h | ⟨g, cap, cur, e, hb, rest⟩
  · exact .inl h
  · exact .inr ⟨g, cap, cur, e, by omega, rest⟩
/-- A list of lists. -/
def rowN (rows : List (List Rel)) (i : Nat) : List Rel := rows.getD i []
structure RowsD (w : World) (base : Nat) (TS TD : TypeId) (V : Value) (vs : List Value) (rows : List (List Rel)) : Prop where
  bag : w.ownsRow base TS 1 V rows.length vs
  row : ∀ i, i < rows.length → w.ownsRow base TD 2 (vn vs i) (rowN rows i).length (dNews (rowN rows i))
theorem RowsD.nil (w : World) (base : Nat) (TS TD : TypeId) : RowsD w base TS TD (.slice none 0 0) [] [] := ⟨World.ownsRow_nil _ _ _ _, fun _i hi => absurd hi (Nat.not_lt_zero _)⟩
theorem RowsD.keep {w w1 : World} {base : Nat} {TS TD : TypeId} {V : Value} {vs : List Value} {rows : List (List Rel)} (h : RowsD w base TS TD V vs rows) (hb : Below w.heap.size w w1) : RowsD w1 base TS TD V vs rows := ⟨own_keep h.bag hb, fun i hi => own_keep (h.row i hi) hb⟩
theorem RowsD.len {w : World} {base : Nat} {TS TD : TypeId} {V : Value} {vs : List Value} {rows : List (List Rel)} (h : RowsD w base TS TD V vs rows) : vs.length = rows.length := by have := h.bag.1; omega
/-- One row more. -/
theorem RowsD.add {w w1 : World} {base : Nat} {TS TD : TypeId} {V V1 r : Value} {vs : List Value} {rows : List (List Rel)} {row : List Rel} (hT : TS ≠ TD) (h : RowsD w base TS TD V vs rows) (hr : w.ownsRow base TD 2 r row.length (dNews row)) (h1 : w1.ownsRow base TS 1 V1 (rows.length + 1) (vs ++ [r])) (hg : w.grownBy w1 V.ownBlock) : RowsD w1 base TS TD V1 (vs ++ [r]) (rows ++ [row]) := by
  refine ⟨by simpa using h1, fun i hi => ?_⟩
  have hl := h.len
  by_cases he : i < rows.length
  · have a : vn (vs ++ [r]) i = vn vs i := vn_old vs r i (by omega)
    have b : rowN (rows ++ [row]) i = rowN rows i := by
      unfold rowN
      rw [List.getD_eq_getElem?_getD, List.getD_eq_getElem?_getD, List.getElem?_append_left he]
    rw [a, b]
    exact own_other (h.row i he) hg (own_not h.bag hT)
  · have hi' : i = rows.length := by simp at hi; omega
    subst hi'
    have a : vn (vs ++ [r]) rows.length = r := by rw [← hl]; exact vn_last vs r
    have b : rowN (rows ++ [row]) rows.length = row := by simp [rowN]
    rw [a, b]
    exact own_other hr hg (own_not h.bag hT)
/-- What lies at a place of the list of lists. -/
theorem RowsD.at {w : World} {base c : Nat} {TS TD : TypeId} {A : Option Addr} {n : Nat} {vs : List Value} {rows : List (List Rel)} (h : RowsD w base TS TD (.slice A n c) vs rows) (i : Nat) (hi : i < rows.length) : ∃ (a : Addr) (R : Option Addr) (k : Nat), A = some a ∧ w.cell? (a.add i) = some (.slice R (rowN rows i).length k) ∧ RelsAt w R (rowN rows i) := by
  obtain ⟨R, k, e, _⟩ := own_any (h.row i hi)
  have hr := h.row i hi
  rw [e] at hr
  rcases h.bag.2 with ⟨_, h0⟩ | ⟨j, cap, cur, hv, hb, hg, hc, _⟩
  · omega
  · cases hv
    refine ⟨_, R, k, rfl, ?_, drow_rels hr⟩
    have hl := h.len
    have : vs[i]? = some (vn vs i) := by
      unfold vn
      rw [List.getElem?_eq_getElem (by omega), List.getD_eq_getElem?_getD, List.getElem?_eq_getElem (by omega)]
      rfl
    rw [e] at this
    exact h.bag.cells rfl _ _ this
/-- What a symbol stands for. -/
def standS (l : List Ob) (i k : Nat) : Rel := if (sKind (ob l i).ss k != 0) = true then ((dfI (findF (sName (ob l i).ss k) l) : Int), dfA (findF (sName (ob l i).ss k) l)) else ((i : Int), sAt (ob l i).ss k)
def rowT (l : List Ob) (i k : Nat) : List Rel := (List.range k).map (standS l i)
def rowsT (l : List Ob) (k : Nat) : List (List Rel) := (List.range k).map fun i => rowT l i (ob l i).ss.length
theorem rowT_succ (l : List Ob) (i k : Nat) : rowT l i (k + 1) = rowT l i k ++ [standS l i k] := by simp [rowT, List.range_succ]
theorem rowT_len (l : List Ob) (i k : Nat) : (rowT l i k).length = k := by simp [rowT]
theorem rowsT_succ (l : List Ob) (k : Nat) : rowsT l (k + 1) = rowsT l k ++ [rowT l k (ob l k).ss.length] := by simp [rowsT, List.range_succ]
theorem rowsT_len (l : List Ob) (k : Nat) : (rowsT l k).length = k := by simp [rowsT]
theorem rowsT_at (l : List Ob) {k i : Nat} (h : i < k) : rowN (rowsT l k) i = rowT l i (ob l i).ss.length := by simp [rowN, rowsT, h]
/-- Resolve's error, its answer. -/
def resE (l : List Ob) : Option (Int × Int × Int) := match chkL l with
  | some x => some x
  | none => namL l
def resL (l : List Ob) : List (List Rel) := match resE l with
  | some _ => []
  | none => rowsT l l.length
/-- An answer of Resolve. -/
def ResP (TS TD : TypeId) (l : List Ob) (w : World) (e : Ending) (w' : World) : Prop :=
  ∃ (A : Option Addr) (c : Nat) (vs : List Value), e = .returned (.tuple #[.slice A (resL l).length c, .int .i64 (t1 (resE l)), .int .i64 (t2 (resE l)), .int .i64 (t3 (resE l))]) ∧ RowsD w' w.heap.size TS TD (.slice A (resL l).length c) vs (resL l) ∧ Below w.heap.size w w'



end Go.Proofs.YthpkekpojhmaaaaGreatDoor

namespace Go.Proofs.YthpkekpojhmaaaaGreatDoor
open Go.RowKit

/-- A row's first symbol of a name and kind, the whole list's. -/
def rowW (nm : ByteArray) (kd : Int) (l : List Ob) (i : Nat) : Option (Nat × Int) := (rowF nm kd (ob l i).ss (ob l i).ss.length).map fun a => (i, a)
theorem fst_same {β : Type} {f g : Nat → Option β} : ∀ {n : Nat}, (∀ j, j < n → f j = g j) → fstN f n = fstN g n
  | 0, _ => rfl
  | n + 1, h => by
    rw [fstN, fstN, fst_same (fun j hj => h j (by omega)), h n (by omega)]
theorem first_whole (nm : ByteArray) (kd : Int) (l : List Ob) : firstF nm kd l l.length 0 = fstN (rowW nm kd l) l.length := by
  unfold firstF
  rw [show min l.length (l.length + 1) = l.length by omega]
  refine fst_same fun j hj => ?_
  unfold hitO rowW upTo
  rw [if_neg (by omega)]
theorem rowF_some {nm : ByteArray} {kd : Int} {ss : List Sym} {n : Nat} {a : Int} (h : rowF nm kd ss n = some a) : ∃ k, k < n ∧ (sName ss k).toList = nm.toList ∧ sKind ss k = kd ∧ a = sAt ss k := by
  obtain ⟨k, hk, e, _⟩ := fst_some h
  unfold hitS at e
  split at e
  · next hc =>
    cases e
    exact ⟨k, hk, by simpa using hc.1, by simpa using hc.2, rfl⟩
  · cases e
theorem rowW_some {nm : ByteArray} {kd : Int} {l : List Ob} {i : Nat} {x : Nat × Int} (h : rowW nm kd l i = some x) : x.1 = i ∧ ∃ k, k < (ob l i).ss.length ∧ (sName (ob l i).ss k).toList = nm.toList ∧ sKind (ob l i).ss k = kd ∧ x.2 = sAt (ob l i).ss k := by
  unfold rowW at h
  cases hr : rowF nm kd (ob l i).ss (ob l i).ss.length with
  | none => rw [hr] at h; cases h
  | some a =>
    rw [hr] at h
    cases h
    exact ⟨rfl, rowF_some hr⟩
theorem findF_some {nm : ByteArray} {l : List Ob} {x : Nat × Int} (h : findF nm l = some x) : x.1 < l.length ∧ ∃ k, k < (ob l x.1).ss.length ∧ x.2 = sAt (ob l x.1).ss k := by
  have main : ∀ kd, fstN (rowW nm kd l) l.length = some x → x.1 < l.length ∧ ∃ k, k < (ob l x.1).ss.length ∧ x.2 = sAt (ob l x.1).ss k := fun kd e => by
    obtain ⟨i, hi, hr, _⟩ := fst_some e
    obtain ⟨e1, k, hk, _, _, e2⟩ := rowW_some hr
    rw [e1]
    exact ⟨hi, k, hk, e2⟩
  unfold findF at h
  rw [first_whole, first_whole] at h
  split at h
  · next hf => cases h; exact main 1 hf
  · exact main 2 h
/-- Objects that resolve. -/
structure Res (l : List Ob) : Prop where
  few : l.length ≤ 32
  may : ∀ i, i < l.length → MayBe (ob l i).nm (ob l i).code (ob l i).dA (ob l i).data.length (ob l i).ss (ob l i).rs
  own : ∀ i, i < l.length → ∀ k, k < i → (ob l k).nm.toList ≠ (ob l i).nm.toList
  tw : ∀ i, i < l.length → ∀ k, k < (ob l i).ss.length → twS l i k = none
  un : ∀ i, i < l.length → ∀ k, k < (ob l i).ss.length → unS l i k = none
theorem res_ok {l : List Ob} (h : resE l = none) : Res l := by
  unfold resE at h
  cases hc : chkL l with
  | some x => rw [hc] at h; cases h
  | none =>
    rw [hc] at h
    unfold chkL at hc
    split at hc
    · cases hc
    · next hf =>
      have hb := fst_no hc
      unfold namL at h
      cases ht : fstN (twO l) l.length with
      | some x => rw [ht] at h; cases h
      | none =>
        rw [ht] at h
        have hE : ∀ i, i < l.length → (obC (ob l i)).1 = 0 ∧ fstN (sameN l i) i = none := fun i hi => by
          have := hb i hi
          unfold badO at this
          split at this
          · next e =>
            split at this
            · cases this
            · next e2 => exact ⟨e, e2⟩
          · cases this
        refine ⟨by omega, fun i hi => check_may (hE i hi).1, fun i hi k hk e => ?_, fun i hi k hk => fst_no (fst_no ht i hi) k hk, fun i hi k hk => fst_no (fst_no h i hi) k hk⟩
        have := fst_no (hE i hi).2 k hk
        unfold sameN at this
        rw [if_pos (by simpa using e)] at this
        cases this
theorem ok_res {l : List Ob} (h : Res l) : resE l = none := by
  have hb : ∀ i, i < l.length → badO l i = none := fun i hi => by
    unfold badO
    have e : obC (ob l i) = (0, 0) := may_check (h.may i hi)
    rw [e, if_pos rfl, fst_none (fun k hk => by
      unfold sameN
      rw [if_neg (by simpa using h.own i hi k hk)])]
  unfold resE chkL
  rw [if_neg (by have := h.few; omega), fst_none hb]
  show namL l = none
  unfold namL
  rw [fst_none (f := twO l) (fun i hi => fst_none (h.tw i hi)), fst_none (f := unO l) (fun i hi => fst_none (h.un i hi))]
theorem may_sym {nm : ByteArray} {code : List Int} {dA : Int} {nd : Nat} {ss : List Sym} {rs : List Rel} (h : MayBe nm code dA nd ss rs) (k : Nat) (hk : k < ss.length) : 0 ≤ sAt ss k ∧ sAt ss k ≤ code.length ∧ 0 ≤ sKind ss k ∧ sKind ss k ≤ 3 := by
  have := h.2.1 k hk
  unfold symE at this
  split at this
  · cases this
  · split at this
    · cases this
    · split at this
      · cases this
      · split at this
        · cases this
        · omega
theorem Res.find {l : List Ob} (h : Res l) {nm : ByteArray} {x : Nat × Int} (hf : findF nm l = some x) : x.1 < l.length ∧ 0 ≤ x.2 ∧ x.2 ≤ (ob l x.1).code.length := by
  obtain ⟨h1, k, hk, e⟩ := findF_some hf
  have := may_sym (h.may x.1 h1) k hk
  rw [e]
  exact ⟨h1, this.1, this.2.1⟩
/-- A symbol that is not Local stands for something. -/
theorem Res.has {l : List Ob} (h : Res l) {i k : Nat} (hi : i < l.length) (hk : k < (ob l i).ss.length) (h0 : sKind (ob l i).ss k ≠ 0) : (findF (sName (ob l i).ss k) l).isSome = true := by
  have hr := may_sym (h.may i hi) k hk
  by_cases h3 : sKind (ob l i).ss k = 3
  · have := h.un i hi k hk
    unfold unS at this
    cases hf : (findF (sName (ob l i).ss k) l).isSome with
    | true => rfl
    | false =>
      rw [hf, if_pos ⟨by simp [h3], rfl⟩] at this
      cases this
  · have hit : ∀ kd, sKind (ob l i).ss k = kd → (fstN (rowW (sName (ob l i).ss k) kd l) l.length).isSome = true := fun kd e => by
      cases hf : fstN (rowW (sName (ob l i).ss k) kd l) l.length with
      | some x => rfl
      | none =>
        have h1 := fst_no hf i hi
        unfold rowW at h1
        cases hr : rowF (sName (ob l i).ss k) kd (ob l i).ss (ob l i).ss.length with
        | some a => rw [hr] at h1; cases h1
        | none =>
          have h2 := fst_no hr k hk
          rw [hitS_yes (by simp) (by simp [e])] at h2
          cases h2
    unfold findF
    rw [first_whole, first_whole]
    have : sKind (ob l i).ss k = 1 ∨ sKind (ob l i).ss k = 2 := by omega
    rcases this with e | e
    · have := hit 1 e
      cases hf : fstN (rowW (sName (ob l i).ss k) 1 l) l.length with
      | some x => rfl
      | none => rw [hf] at this; cases this
    · have := hit 2 e
      cases hf : fstN (rowW (sName (ob l i).ss k) 1 l) l.length with
      | some x => rfl
      | none => exact this



end Go.Proofs.YthpkekpojhmaaaaGreatDoor
