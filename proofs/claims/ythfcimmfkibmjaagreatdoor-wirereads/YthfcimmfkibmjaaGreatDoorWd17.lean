/-
  The program takes a whole object of an input. Rows of an object as its lists lie in memory; no Go in sight. errors.As at an error that is a refusal: facts on the entries that it comes to. errors.As at an error that is a refusal: what it answers.
-/
import Derived.Test.YthfcimmfkibmjaaGreatDoorProg
import Derived.WalkKit
import Derived.WalkSpells
import Derived.WalkLawsBesides
import Derived.RowKit3
import Derived.Below
import Derived.Deep.QuietTactic
import Derived.BigQuiet
import Derived.WalkSmall
import Derived.Laws.Rows
import Derived.Test.YthfcimmfkibmjaaGreatDoorWd07
import Derived.Test.YthfcimmfkibmjaaGreatDoorWd16
import Derived.Test.YthfcimmfkibmjaaGreatDoorWd08
import Derived.LaidEql
import Derived.Stop.Asserts
import Derived.RowKitTokens
import Derived.Test.YthfcimmfkibmjaaGreatDoorWd02
namespace Go.Proofs.YthfcimmfkibmjaaGreatDoor
open Go.RowKit


theorem all_stick {α : Type} {b : List Int} {m : Int} {f : Tk → α × Tk} {t : Tk} (h : ¬ t.bad = 0) : (tAll b m f t).2 = t := by
  unfold tAll
  rw [count_stick h]
  rfl
theorem count_stick2 {b : List Int} {m : Int} {t : Tk} (h : ¬ t.bad = 0) : (tCount b m t).2 = t := by rw [count_stick h]
theorem end_stick {b : List Int} {t : Tk} (h : ¬ t.bad = 0) : tEnd b t = t := by
  unfold tEnd
  rw [four_stick h, if_neg h]
theorem own_form {w : World} {b n : Nat} {e : TypeId} {sz : Nat} {v : Value} {xs : List Value} (h : w.ownsRow b e sz v n xs) : ∃ A c, v = .slice A n c := by
  rcases h.2 with ⟨rfl, rfl⟩ | ⟨g, cap, cur, rfl, _⟩
  · exact ⟨_, _, rfl⟩
  · exact ⟨_, _, rfl⟩
/-- An object's four lists, each in memory of its own. -/
structure RowsO (w : World) (base : Nat) (A1 A2 A3 A4 : Option Addr) (c1 c2 c3 c4 : Nat) (code data : List Int) (ss : List Sym) (rs : List Rel) : Prop where
  r1 : w.ownsRow base 78 1 (.slice A1 code.length c1) code.length (iVals .u32 code)
  r2 : w.ownsRow base 2 1 (.slice A2 data.length c2) data.length (iVals .i64 data)
  r3 : w.ownsRow base 68 3 (.slice A3 ss.length c3) ss.length (sVals ss)
  r4 : w.ownsRow base 119 2 (.slice A4 rs.length c4) rs.length (rVals rs)
/-- An object that is not looked at. -/
def IsObj (u : Value) : Prop := ∃ (x : ByteArray) (A1 A2 A3 A4 : Option Addr) (n1 n2 n3 n4 c1 c2 c3 c4 : Nat) (y : Int), u = .agg #[.string x, .slice A1 n1 c1, .int .i64 y, .slice A2 n2 c2, .slice A3 n3 c3, .slice A4 n4 c4]
/-- What taking an object answers. -/
def TakesO (g : Nat) (b : List Int) (w : World) (r : Ending) (w' : World) : Prop :=
  But g w w' ∧ (((took b).t.bad = 0 ∧ ∃ (A1 A2 A3 A4 : Option Addr) (c1 c2 c3 c4 : Nat), r = .returned (.tuple #[.agg #[.string (took b).nm, .slice A1 (took b).code.length c1, .int .i64 (took b).dA, .slice A2 (took b).data.length c2, .slice A3 (took b).ss.length c3, .slice A4 (took b).rs.length c4], .nilIface]) ∧ RowsO w' w.heap.size A1 A2 A3 A4 c1 c2 c3 c4 (took b).code (took b).data (took b).ss (took b).rs) ∨
    (¬ (took b).t.bad = 0 ∧ ∃ u, IsObj u ∧ r = .returned (.tuple #[u, .iface 97 (.agg #[.int .i64 (took b).t.bad, .int .i64 (took b).t.place])])))
theorem takesO_no {g : Nat} {b : List Int} {w w' : World} {u : Value} {T : Tk} (hb : But g w w') (hu : IsObj u) (e : (took b).t = T) (h : ¬ T.bad = 0) : TakesO g b w (.returned (.tuple #[u, .iface 97 (.agg #[.int .i64 T.bad, .int .i64 T.place])])) w' := by
  subst e
  exact ⟨hb, Or.inr ⟨h, u, hu, rfl⟩⟩
theorem takesO_yes {g : Nat} {b : List Int} {w w' : World} {nm : ByteArray} {code data : List Int} {dA : Int} {ss : List Sym} {rs : List Rel} {A1 A2 A3 A4 : Option Addr} {c1 c2 c3 c4 q : Nat} (hb : But g w w') (e : took b = ⟨nm, code, dA, data, ss, rs, ⟨q, 0, 0⟩⟩) (h : RowsO w' w.heap.size A1 A2 A3 A4 c1 c2 c3 c4 code data ss rs) : TakesO g b w (.returned (.tuple #[.agg #[.string nm, .slice A1 code.length c1, .int .i64 dA, .slice A2 data.length c2, .slice A3 ss.length c3, .slice A4 rs.length c4], .nilIface])) w' := by
  unfold TakesO
  rw [e]
  exact ⟨hb, Or.inl ⟨rfl, A1, A2, A3, A4, c1, c2, c3, c4, rfl, h⟩⟩
theorem box6_fro {w : World} {B : Nat} {cs : Array Value} {t : TypeId} (h : w.heap[B]? = some (.cells cs t (0, 0))) : w.frozen? ⟨B, 0, none⟩ = false ∧ w.frozen? ⟨B, 1, none⟩ = false ∧ w.frozen? ⟨B, 2, none⟩ = false ∧ w.frozen? ⟨B, 3, none⟩ = false ∧ w.frozen? ⟨B, 4, none⟩ = false ∧ w.frozen? ⟨B, 5, none⟩ = false :=
  ⟨box_fro h _, box_fro h _, box_fro h _, box_fro h _, box_fro h _, box_fro h _⟩
theorem but_set6 {w w1 : World} {g : Nat} (h : But g w w1) (x0 x1 x2 x3 x4 x5 : Value) : But g w ((((((w1.setCell ⟨w.heap.size, 0, none⟩ x0).setCell ⟨w.heap.size, 1, none⟩ x1).setCell ⟨w.heap.size, 2, none⟩ x2).setCell ⟨w.heap.size, 3, none⟩ x3).setCell ⟨w.heap.size, 4, none⟩ x4).setCell ⟨w.heap.size, 5, none⟩ x5) :=
  but_setB (but_setB (but_setB (but_setB (but_setB (but_setB h (Nat.le_refl _) _ _) (Nat.le_refl _) _ _) (Nat.le_refl _) _ _) (Nat.le_refl _) _ _) (Nat.le_refl _) _ _) (Nat.le_refl _) _ _
theorem row_set6 {w1 : World} {B base n : Nat} {e : TypeId} {sz : Nat} {v : Value} {xs : List Value} (h : w1.ownsRow base e sz v n xs) (hB : B < base) (x0 x1 x2 x3 x4 x5 : Value) : ((((((w1.setCell ⟨B, 0, none⟩ x0).setCell ⟨B, 1, none⟩ x1).setCell ⟨B, 2, none⟩ x2).setCell ⟨B, 3, none⟩ x3).setCell ⟨B, 4, none⟩ x4).setCell ⟨B, 5, none⟩ x5).ownsRow base e sz v n xs :=
  ownsRow_setCell_below (ownsRow_setCell_below (ownsRow_setCell_below (ownsRow_setCell_below (ownsRow_setCell_below (ownsRow_setCell_below h hB _) hB _) hB _) hB _) hB _) hB _

theorem end_good {b : List Int} {p : Nat} (h : (tEnd b ⟨p, 0, 0⟩).bad = 0) : tEnd b ⟨p, 0, 0⟩ = ⟨(tEnd b ⟨p, 0, 0⟩).pos, 0, 0⟩ := by
  by_cases h1 : p + 4 ≤ b.length
  · by_cases h2 : p + 4 < b.length
    · rw [end_b h2] at h; cases h
    · by_cases h3 : v4 (b.drop p) = sumB (b.take p)
      · rw [end_d (by omega) h3]
      · rw [end_c (by omega) h3] at h; cases h
  · rw [end_a h1] at h; cases h
theorem fail_rels {b : List Int} (h : ¬ (tRels b).2.bad = 0) : (took b).t = (tRels b).2 := end_stick h
theorem fail_syms {b : List Int} (h : ¬ (tSyms b).2.bad = 0) : (took b).t = (tSyms b).2 := by
  have e : (tRels b).2 = (tSyms b).2 := all_stick (f := tRel b) (m := (tCode b).1.length) h
  rw [fail_rels (by rw [e]; exact h), e]
theorem fail_data {b : List Int} (h : ¬ (tData b).2.bad = 0) : (took b).t = (tData b).2 := by
  have e : (tSyms b).2 = (tData b).2 := all_stick (f := tSym b) (m := 256) h
  rw [fail_syms (by rw [e]; exact h), e]
theorem fail_dat {b : List Int} (h : ¬ (tDat b).2.bad = 0) : (took b).t = (tDat b).2 := by
  have e : (tData b).2 = (tDat b).2 := all_stick (f := tEight b) (m := 4096) h
  rw [fail_data (by rw [e]; exact h), e]
theorem fail_code {b : List Int} (h : ¬ (tCode b).2.bad = 0) : (took b).t = (tCode b).2 := by
  have e : (tDat b).2 = (tCode b).2 := count_stick2 h
  rw [fail_dat (by rw [e]; exact h), e]
theorem fail_name {b : List Int} (h : ¬ (tName b (tBegin b [80, 76, 79, 49])).2.bad = 0) : (took b).t = (tName b (tBegin b [80, 76, 79, 49])).2 := by
  have e : (tCode b).2 = (tName b (tBegin b [80, 76, 79, 49])).2 := all_stick (f := tFour b) (m := 16384) h
  rw [fail_code (by rw [e]; exact h), e]
theorem fail_begin {b : List Int} (h : ¬ (tBegin b [80, 76, 79, 49]).bad = 0) : (took b).t = tBegin b [80, 76, 79, 49] := by
  have e : (tName b (tBegin b [80, 76, 79, 49])).2 = tBegin b [80, 76, 79, 49] := name_stick h
  rw [fail_name (by rw [e]; exact h), e]

theorem all_len {α : Type} {b : List Int} {m : Nat} {f : Tk → α × Tk} {p : Nat} (hb : AreB b) (h : (tAll b (m : Int) f ⟨p, 0, 0⟩).2.bad = 0) : (tAll b (m : Int) f ⟨p, 0, 0⟩).1.length ≤ m := by
  by_cases hg : (tCount b m ⟨p, 0, 0⟩).2.bad = 0
  · have := (count_range hb hg).2
    have hl : ∀ (n : Nat) (t : Tk), (tList f n t).1.length ≤ n := by
      intro n
      induction n with
      | zero => intro t; simp [tList]
      | succ n ih =>
        intro t
        rw [tList]
        split
        · have := ih (f t).2
          simp
          omega
        · simp
    have h2 := hl (tCount b m ⟨p, 0, 0⟩).1.toNat (tCount b m ⟨p, 0, 0⟩).2
    unfold tAll
    omega
  · rw [all_bad hg] at h
    exact absurd h hg
set_option maxRecDepth 100000 in
set_option maxHeartbeats 8000000 in
theorem robject_any (w0 : World) (g : Nat) (A : Option Addr) (c : Nat) (b : List Int) (w : World) (h : InBy w0 g A c b 0 w) :
    Calls Tryz.prog 59 #[.pointer (some ⟨g, 0, none⟩)] w (TakesO g b w) := by
  have hgw := h.lt
  have hle := h.below.size
  have hab := h.areB
  have hin1 := h.keep (lb_alloc (Below.refl _ _) (.cells #[.string ⟨#[]⟩, .slice none 0 0, .int .i64 0, .slice none 0 0, .slice none 0 0, .slice none 0 0] 27))
  have hbx1 : Hid ((w.alloc (.cells #[.string ⟨#[]⟩, .slice none 0 0, .int .i64 0, .slice none 0 0, .slice none 0 0, .slice none 0 0] 27)).heap[w.heap.size]? = some (.cells #[.string ⟨#[]⟩, .slice none 0 0, .int .i64 0, .slice none 0 0, .slice none 0 0, .slice none 0 0] 27 (0, 0))) := heap_alloc_new _ _
  have HB1 : Hid (But g w (w.alloc (.cells #[.string ⟨#[]⟩, .slice none 0 0, .int .i64 0, .slice none 0 0, .slice none 0 0, .slice none 0 0] 27))) := But.of (lb_alloc (Below.refl _ _) _)
  have C := beginning_any w0 g A c b _ hin1
  clear h hin1
  by_cases hg : (tBegin b [80, 76, 79, 49]).bad = 0
  · have et : tBegin b [80, 76, 79, 49] = ⟨4, 0, 0⟩ := begin_good hg
    have P1 : Hid (tName b (tBegin b [80, 76, 79, 49]) = tName b ⟨4, 0, 0⟩) := by
      show _ = _
      rw [et]
    rw [et] at C
    clear hg et
    go_enter Tryz.func59, Tryz.ntmps59
    go_wp2_with fail
    refine C.mono ?_
    intro r w1 hr
    obtain ⟨rfl, hin, hb⟩ := hr.ok rfl
    clear hr C
    have hbx := but_box hb hbx1.out (by omega)
    have HB : Hid (But g w w1) := HB1.out.trans hb
    have HX : Hid _ := hbx
    obtain ⟨d0, d1, d2, d3, d4, d5⟩ := box6_cell hbx
    obtain ⟨f0, f1, f2, f3, f4, f5⟩ := box6_fro hbx
    have hz1 : w.heap.size < w1.heap.size := (Array.getElem?_eq_some_iff.1 hbx).1
    have hin : InBy w0 g A c b 4 w1 := hin
    clear hb hbx hbx1 HB1
    have C1 := rtext_any w0 g A c b 4 _ hin
    by_cases hg : (tName b ⟨4, 0, 0⟩).2.bad = 0
    · have et := plain_tk (plain_name b hab) hg
      have E1 : Hid (tName b (tBegin b [80, 76, 79, 49]) = ((tName b ⟨4, 0, 0⟩).1, ⟨(tName b ⟨4, 0, 0⟩).2.pos, 0, 0⟩)) := by
        show _ = _
        rw [P1.out, ← et]
      go_wp2_with fail
      refine C1.mono ?_
      intro r w2 hr
      obtain ⟨rfl, hin, hb⟩ := hr.ok hg
      clear hr C1 hg et
      have hbx := but_box hb HX.out (by omega)
      have HB : Hid (But g w w2) := But.trans HB.out hb
      obtain ⟨d0, d1, d2, d3, d4, d5⟩ := box6_cell hbx
      obtain ⟨f0, f1, f2, f3, f4, f5⟩ := box6_fro hbx
      have hz2 : w.heap.size < w2.heap.size := (Array.getElem?_eq_some_iff.1 hbx).1
      generalize (tName b ⟨4, 0, 0⟩).1 = x1 at *
      generalize (tName b ⟨4, 0, 0⟩).2.pos = q1 at *
      have HX : Hid ((w2.setCell ⟨w.heap.size, 0, none⟩ (.string x1)).heap[w.heap.size]? = some (.cells #[.string x1, .slice none 0 0, .int .i64 0, .slice none 0 0, .slice none 0 0, .slice none 0 0] 27 (0, 0))) := box_set hbx 0 (.string x1)
      have HB : Hid (But g w (w2.setCell ⟨w.heap.size, 0, none⟩ (.string x1))) := but_setB HB.out (Nat.le_refl _) 0 (.string x1)
      have hin : InBy w0 g A c b q1 (w2.setCell ⟨w.heap.size, 0, none⟩ (.string x1)) := hin.setB (by omega) hle 0 (.string x1)
      clear hb hbx
      have P2 : Hid (tCode b = tAll b 16384 (tFour b) ⟨q1, 0, 0⟩) := by
        show tAll b 16384 (tFour b) (tName b (tBegin b [80, 76, 79, 49])).2 = _
        rw [E1.out]
      have C2 := takeWords 16384 (by omega) (by omega) w0 g A c b q1 _ hin
      by_cases hg : (tAll b 16384 (tFour b) ⟨q1, 0, 0⟩).2.bad = 0
      · have et := plain_tk (plain_all (plain_four b) b 16384) hg
        have E2 : Hid (tCode b = ((tAll b 16384 (tFour b) ⟨q1, 0, 0⟩).1, ⟨(tAll b 16384 (tFour b) ⟨q1, 0, 0⟩).2.pos, 0, 0⟩)) := by
          show _ = _
          rw [P2.out, ← et]
        have hl1 : (tAll b 16384 (tFour b) ⟨q1, 0, 0⟩).1.length ≤ 16384 := all_len hab hg
        go_wp2_with fail
        refine C2.mono ?_
        intro r w3 hr
        obtain ⟨v, rfl, ho, hin, hb⟩ := hr.ok hg
        clear hr C2 hg et
        have hbx := but_box hb HX.out (by omega)
        have HB : Hid (But g w w3) := But.trans HB.out hb
        obtain ⟨d0, d1, d2, d3, d4, d5⟩ := box6_cell hbx
        obtain ⟨f0, f1, f2, f3, f4, f5⟩ := box6_fro hbx
        have hz3 : w.heap.size < w3.heap.size := (Array.getElem?_eq_some_iff.1 hbx).1
        generalize (tAll b 16384 (tFour b) ⟨q1, 0, 0⟩).1 = l1 at *
        generalize (tAll b 16384 (tFour b) ⟨q1, 0, 0⟩).2.pos = q2 at *
        obtain ⟨A1, c1, rfl⟩ := own_form ho
        have R1 : Hid (w3.ownsRow (w.heap.size + 1) 78 1 (.slice A1 l1.length c1) l1.length (iVals .u32 l1)) := ownsRow_mono ho (by first | omega | (simp; omega))
        clear ho
        have HX : Hid ((w3.setCell ⟨w.heap.size, 1, none⟩ (.slice A1 l1.length c1)).heap[w.heap.size]? = some (.cells #[.string x1, .slice A1 l1.length c1, .int .i64 0, .slice none 0 0, .slice none 0 0, .slice none 0 0] 27 (0, 0))) := box_set hbx 1 (.slice A1 l1.length c1)
        have HB : Hid (But g w (w3.setCell ⟨w.heap.size, 1, none⟩ (.slice A1 l1.length c1))) := but_setB HB.out (Nat.le_refl _) 1 (.slice A1 l1.length c1)
        have hin : InBy w0 g A c b q2 (w3.setCell ⟨w.heap.size, 1, none⟩ (.slice A1 l1.length c1)) := hin.setB (by omega) hle 1 (.slice A1 l1.length c1)
        have R1 : Hid ((w3.setCell ⟨w.heap.size, 1, none⟩ (.slice A1 l1.length c1)).ownsRow (w.heap.size + 1) 78 1 (.slice A1 l1.length c1) l1.length (iVals .u32 l1)) := ownsRow_setCell_below R1.out (by show w.heap.size < w.heap.size + 1; omega) _
        clear hb hbx
        have P3 : Hid (tDat b = tCount b great ⟨q2, 0, 0⟩) := by
          show tCount b great (tCode b).2 = _
          rw [E2.out]
        have C3 : Calls Tryz.prog 101 #[.pointer (some ⟨g, 0, none⟩), .int .i64 2147483647] _ (Takes w0 g A c b (tCount b great ⟨q2, 0, 0⟩) (.int .i64) (IsZ .i64) _) := upto_any 2147483647 (by omega) (by omega) w0 g A c b q2 _ hin
        by_cases hg : (tCount b great ⟨q2, 0, 0⟩).2.bad = 0
        · have et := plain_tk (plain_count b great) hg
          have E3 : Hid (tDat b = ((tCount b great ⟨q2, 0, 0⟩).1, ⟨(tCount b great ⟨q2, 0, 0⟩).2.pos, 0, 0⟩)) := by
            show _ = _
            rw [P3.out, ← et]
          go_wp2_with fail
          refine C3.mono ?_
          intro r w4 hr
          obtain ⟨rfl, hin, hb⟩ := hr.ok hg
          clear hr C3 hg et
          have hbx := but_box hb HX.out (by omega)
          have HB : Hid (But g w w4) := But.trans HB.out hb
          obtain ⟨d0, d1, d2, d3, d4, d5⟩ := box6_cell hbx
          obtain ⟨f0, f1, f2, f3, f4, f5⟩ := box6_fro hbx
          have hz4 : w.heap.size < w4.heap.size := (Array.getElem?_eq_some_iff.1 hbx).1
          have R1 : Hid (w4.ownsRow (w.heap.size + 1) 78 1 (.slice A1 l1.length c1) l1.length (iVals .u32 l1)) := row_but R1.out (by omega) hb
          generalize (tCount b great ⟨q2, 0, 0⟩).1 = x3 at *
          generalize (tCount b great ⟨q2, 0, 0⟩).2.pos = q3 at *
          have HX : Hid ((w4.setCell ⟨w.heap.size, 2, none⟩ (.int .i64 x3)).heap[w.heap.size]? = some (.cells #[.string x1, .slice A1 l1.length c1, .int .i64 x3, .slice none 0 0, .slice none 0 0, .slice none 0 0] 27 (0, 0))) := box_set hbx 2 (.int .i64 x3)
          have HB : Hid (But g w (w4.setCell ⟨w.heap.size, 2, none⟩ (.int .i64 x3))) := but_setB HB.out (Nat.le_refl _) 2 (.int .i64 x3)
          have hin : InBy w0 g A c b q3 (w4.setCell ⟨w.heap.size, 2, none⟩ (.int .i64 x3)) := hin.setB (by omega) hle 2 (.int .i64 x3)
          have R1 : Hid ((w4.setCell ⟨w.heap.size, 2, none⟩ (.int .i64 x3)).ownsRow (w.heap.size + 1) 78 1 (.slice A1 l1.length c1) l1.length (iVals .u32 l1)) := ownsRow_setCell_below R1.out (by show w.heap.size < w.heap.size + 1; omega) _
          clear hb hbx
          have P4 : Hid (tData b = tAll b 4096 (tEight b) ⟨q3, 0, 0⟩) := by
            show tAll b 4096 (tEight b) (tDat b).2 = _
            rw [E3.out]
          have C4 := takeLongs 4096 (by omega) (by omega) w0 g A c b q3 _ hin
          by_cases hg : (tAll b 4096 (tEight b) ⟨q3, 0, 0⟩).2.bad = 0
          · have et := plain_tk (plain_all (plain_eight b) b 4096) hg
            have E4 : Hid (tData b = ((tAll b 4096 (tEight b) ⟨q3, 0, 0⟩).1, ⟨(tAll b 4096 (tEight b) ⟨q3, 0, 0⟩).2.pos, 0, 0⟩)) := by
              show _ = _
              rw [P4.out, ← et]
            go_wp2_with fail
            refine C4.mono ?_
            intro r w5 hr
            obtain ⟨v, rfl, ho, hin, hb⟩ := hr.ok hg
            clear hr C4 hg et
            have hbx := but_box hb HX.out (by omega)
            have HB : Hid (But g w w5) := But.trans HB.out hb
            obtain ⟨d0, d1, d2, d3, d4, d5⟩ := box6_cell hbx
            obtain ⟨f0, f1, f2, f3, f4, f5⟩ := box6_fro hbx
            have hz5 : w.heap.size < w5.heap.size := (Array.getElem?_eq_some_iff.1 hbx).1
            have R1 : Hid (w5.ownsRow (w.heap.size + 1) 78 1 (.slice A1 l1.length c1) l1.length (iVals .u32 l1)) := row_but R1.out (by omega) hb
            generalize (tAll b 4096 (tEight b) ⟨q3, 0, 0⟩).1 = l2 at *
            generalize (tAll b 4096 (tEight b) ⟨q3, 0, 0⟩).2.pos = q4 at *
            obtain ⟨A2, c2, rfl⟩ := own_form ho
            have R2 : Hid (w5.ownsRow (w.heap.size + 1) 2 1 (.slice A2 l2.length c2) l2.length (iVals .i64 l2)) := ownsRow_mono ho (by first | omega | (simp; omega))
            clear ho
            have HX : Hid ((w5.setCell ⟨w.heap.size, 3, none⟩ (.slice A2 l2.length c2)).heap[w.heap.size]? = some (.cells #[.string x1, .slice A1 l1.length c1, .int .i64 x3, .slice A2 l2.length c2, .slice none 0 0, .slice none 0 0] 27 (0, 0))) := box_set hbx 3 (.slice A2 l2.length c2)
            have HB : Hid (But g w (w5.setCell ⟨w.heap.size, 3, none⟩ (.slice A2 l2.length c2))) := but_setB HB.out (Nat.le_refl _) 3 (.slice A2 l2.length c2)
            have hin : InBy w0 g A c b q4 (w5.setCell ⟨w.heap.size, 3, none⟩ (.slice A2 l2.length c2)) := hin.setB (by omega) hle 3 (.slice A2 l2.length c2)
            have R1 : Hid ((w5.setCell ⟨w.heap.size, 3, none⟩ (.slice A2 l2.length c2)).ownsRow (w.heap.size + 1) 78 1 (.slice A1 l1.length c1) l1.length (iVals .u32 l1)) := ownsRow_setCell_below R1.out (by show w.heap.size < w.heap.size + 1; omega) _
            have R2 : Hid ((w5.setCell ⟨w.heap.size, 3, none⟩ (.slice A2 l2.length c2)).ownsRow (w.heap.size + 1) 2 1 (.slice A2 l2.length c2) l2.length (iVals .i64 l2)) := ownsRow_setCell_below R2.out (by show w.heap.size < w.heap.size + 1; omega) _
            clear hb hbx
            have P5 : Hid (tSyms b = tAll b 256 (tSym b) ⟨q4, 0, 0⟩) := by
              show tAll b 256 (tSym b) (tData b).2 = _
              rw [E4.out]
            have C5 := takeSyms 256 (by omega) (by omega) w0 g A c b q4 _ hin
            by_cases hg : (tAll b 256 (tSym b) ⟨q4, 0, 0⟩).2.bad = 0
            · have et := plain_tk (plain_all (plain_sym b hab) b 256) hg
              have E5 : Hid (tSyms b = ((tAll b 256 (tSym b) ⟨q4, 0, 0⟩).1, ⟨(tAll b 256 (tSym b) ⟨q4, 0, 0⟩).2.pos, 0, 0⟩)) := by
                show _ = _
                rw [P5.out, ← et]
              go_wp2_with fail
              refine C5.mono ?_
              intro r w6 hr
              obtain ⟨v, rfl, ho, hin, hb⟩ := hr.ok hg
              clear hr C5 hg et
              have hbx := but_box hb HX.out (by omega)
              have HB : Hid (But g w w6) := But.trans HB.out hb
              obtain ⟨d0, d1, d2, d3, d4, d5⟩ := box6_cell hbx
              obtain ⟨f0, f1, f2, f3, f4, f5⟩ := box6_fro hbx
              have hz6 : w.heap.size < w6.heap.size := (Array.getElem?_eq_some_iff.1 hbx).1
              have R1 : Hid (w6.ownsRow (w.heap.size + 1) 78 1 (.slice A1 l1.length c1) l1.length (iVals .u32 l1)) := row_but R1.out (by omega) hb
              have R2 : Hid (w6.ownsRow (w.heap.size + 1) 2 1 (.slice A2 l2.length c2) l2.length (iVals .i64 l2)) := row_but R2.out (by omega) hb
              generalize (tAll b 256 (tSym b) ⟨q4, 0, 0⟩).1 = l3 at *
              generalize (tAll b 256 (tSym b) ⟨q4, 0, 0⟩).2.pos = q5 at *
              obtain ⟨A3, c3, rfl⟩ := own_form ho
              have R3 : Hid (w6.ownsRow (w.heap.size + 1) 68 3 (.slice A3 l3.length c3) l3.length (sVals l3)) := ownsRow_mono ho (by first | omega | (simp; omega))
              clear ho
              have HX : Hid ((w6.setCell ⟨w.heap.size, 4, none⟩ (.slice A3 l3.length c3)).heap[w.heap.size]? = some (.cells #[.string x1, .slice A1 l1.length c1, .int .i64 x3, .slice A2 l2.length c2, .slice A3 l3.length c3, .slice none 0 0] 27 (0, 0))) := box_set hbx 4 (.slice A3 l3.length c3)
              have HB : Hid (But g w (w6.setCell ⟨w.heap.size, 4, none⟩ (.slice A3 l3.length c3))) := but_setB HB.out (Nat.le_refl _) 4 (.slice A3 l3.length c3)
              have hin : InBy w0 g A c b q5 (w6.setCell ⟨w.heap.size, 4, none⟩ (.slice A3 l3.length c3)) := hin.setB (by omega) hle 4 (.slice A3 l3.length c3)
              have R1 : Hid ((w6.setCell ⟨w.heap.size, 4, none⟩ (.slice A3 l3.length c3)).ownsRow (w.heap.size + 1) 78 1 (.slice A1 l1.length c1) l1.length (iVals .u32 l1)) := ownsRow_setCell_below R1.out (by show w.heap.size < w.heap.size + 1; omega) _
              have R2 : Hid ((w6.setCell ⟨w.heap.size, 4, none⟩ (.slice A3 l3.length c3)).ownsRow (w.heap.size + 1) 2 1 (.slice A2 l2.length c2) l2.length (iVals .i64 l2)) := ownsRow_setCell_below R2.out (by show w.heap.size < w.heap.size + 1; omega) _
              have R3 : Hid ((w6.setCell ⟨w.heap.size, 4, none⟩ (.slice A3 l3.length c3)).ownsRow (w.heap.size + 1) 68 3 (.slice A3 l3.length c3) l3.length (sVals l3)) := ownsRow_setCell_below R3.out (by show w.heap.size < w.heap.size + 1; omega) _
              clear hb hbx
              have P6 : Hid (tRels b = tAll b (l1.length : Int) (tRel b) ⟨q5, 0, 0⟩) := by
                show tAll b ((tCode b).1.length : Int) (tRel b) (tSyms b).2 = _
                rw [E5.out, E2.out]
              have C6 := takeRels (l1.length : Int) (by omega) (by omega) w0 g A c b q5 _ hin
              by_cases hg : (tAll b (l1.length : Int) (tRel b) ⟨q5, 0, 0⟩).2.bad = 0
              · have et := plain_tk (plain_all (plain_rel b) b (l1.length : Int)) hg
                have E6 : Hid (tRels b = ((tAll b (l1.length : Int) (tRel b) ⟨q5, 0, 0⟩).1, ⟨(tAll b (l1.length : Int) (tRel b) ⟨q5, 0, 0⟩).2.pos, 0, 0⟩)) := by
                  show _ = _
                  rw [P6.out, ← et]
                go_wp2_with fail
                refine C6.mono ?_
                intro r w7 hr
                obtain ⟨v, rfl, ho, hin, hb⟩ := hr.ok hg
                clear hr C6 hg et
                have hbx := but_box hb HX.out (by omega)
                have HB : Hid (But g w w7) := But.trans HB.out hb
                obtain ⟨d0, d1, d2, d3, d4, d5⟩ := box6_cell hbx
                obtain ⟨f0, f1, f2, f3, f4, f5⟩ := box6_fro hbx
                have hz7 : w.heap.size < w7.heap.size := (Array.getElem?_eq_some_iff.1 hbx).1
                have R1 : Hid (w7.ownsRow (w.heap.size + 1) 78 1 (.slice A1 l1.length c1) l1.length (iVals .u32 l1)) := row_but R1.out (by omega) hb
                have R2 : Hid (w7.ownsRow (w.heap.size + 1) 2 1 (.slice A2 l2.length c2) l2.length (iVals .i64 l2)) := row_but R2.out (by omega) hb
                have R3 : Hid (w7.ownsRow (w.heap.size + 1) 68 3 (.slice A3 l3.length c3) l3.length (sVals l3)) := row_but R3.out (by omega) hb
                generalize (tAll b (l1.length : Int) (tRel b) ⟨q5, 0, 0⟩).1 = l4 at *
                generalize (tAll b (l1.length : Int) (tRel b) ⟨q5, 0, 0⟩).2.pos = q6 at *
                obtain ⟨A4, c4, rfl⟩ := own_form ho
                have R4 : Hid (w7.ownsRow (w.heap.size + 1) 119 2 (.slice A4 l4.length c4) l4.length (rVals l4)) := ownsRow_mono ho (by first | omega | (simp; omega))
                clear ho
                have HX : Hid ((w7.setCell ⟨w.heap.size, 5, none⟩ (.slice A4 l4.length c4)).heap[w.heap.size]? = some (.cells #[.string x1, .slice A1 l1.length c1, .int .i64 x3, .slice A2 l2.length c2, .slice A3 l3.length c3, .slice A4 l4.length c4] 27 (0, 0))) := box_set hbx 5 (.slice A4 l4.length c4)
                have HB : Hid (But g w (w7.setCell ⟨w.heap.size, 5, none⟩ (.slice A4 l4.length c4))) := but_setB HB.out (Nat.le_refl _) 5 (.slice A4 l4.length c4)
                have hin : InBy w0 g A c b q6 (w7.setCell ⟨w.heap.size, 5, none⟩ (.slice A4 l4.length c4)) := hin.setB (by omega) hle 5 (.slice A4 l4.length c4)
                have R1 : Hid ((w7.setCell ⟨w.heap.size, 5, none⟩ (.slice A4 l4.length c4)).ownsRow (w.heap.size + 1) 78 1 (.slice A1 l1.length c1) l1.length (iVals .u32 l1)) := ownsRow_setCell_below R1.out (by show w.heap.size < w.heap.size + 1; omega) _
                have R2 : Hid ((w7.setCell ⟨w.heap.size, 5, none⟩ (.slice A4 l4.length c4)).ownsRow (w.heap.size + 1) 2 1 (.slice A2 l2.length c2) l2.length (iVals .i64 l2)) := ownsRow_setCell_below R2.out (by show w.heap.size < w.heap.size + 1; omega) _
                have R3 : Hid ((w7.setCell ⟨w.heap.size, 5, none⟩ (.slice A4 l4.length c4)).ownsRow (w.heap.size + 1) 68 3 (.slice A3 l3.length c3) l3.length (sVals l3)) := ownsRow_setCell_below R3.out (by show w.heap.size < w.heap.size + 1; omega) _
                have R4 : Hid ((w7.setCell ⟨w.heap.size, 5, none⟩ (.slice A4 l4.length c4)).ownsRow (w.heap.size + 1) 119 2 (.slice A4 l4.length c4) l4.length (rVals l4)) := ownsRow_setCell_below R4.out (by show w.heap.size < w.heap.size + 1; omega) _
                clear hb hbx
                have P7 : Hid ((took b).t = tEnd b ⟨q6, 0, 0⟩) := by
                  show tEnd b (tRels b).2 = _
                  rw [E6.out]
                have C := fun wx (h : InBy w0 g A c b q6 wx) => rend_any w0 g A c b q6 wx h
                by_cases hg : (tEnd b ⟨q6, 0, 0⟩).bad = 0
                · have et := end_good hg
                  have E7 : Hid (took b = ⟨x1, l1, x3, l2, l3, l4, ⟨(tEnd b ⟨q6, 0, 0⟩).pos, 0, 0⟩⟩) := by
                    show _ = _
                    have e : took b = ⟨(tName b (tBegin b [80, 76, 79, 49])).1, (tCode b).1, (tDat b).1, (tData b).1, (tSyms b).1, (tRels b).1, tEnd b (tRels b).2⟩ := rfl
                    rw [e, E1.out, E2.out, E3.out, E4.out, E5.out, E6.out, ← et]
                  go_wp2_with fail
                  go_region_with (go_at_call 108; refine (C _ (by first | exact hin | exact hin.drewN _)).mono ?_; intro r w8 hr; obtain ⟨rfl, hin8, hb8⟩ := hr.ok hg; have hbx8 := but_box hb8 HX.out (by omega); obtain ⟨e0, e1, e2, e3, e4, e5⟩ := box6_cell hbx8; obtain ⟨g0, g1, g2, g3, g4, g5⟩ := box6_fro hbx8; have hz8 : w.heap.size < w8.heap.size := (Array.getElem?_eq_some_iff.1 hbx8).1; have HB8 : Hid (But g w w8) := But.trans HB.out hb8; have S1 : Hid (w8.ownsRow (w.heap.size + 1) 78 1 (.slice A1 l1.length c1) l1.length (iVals .u32 l1)) := row_but R1.out (by omega) hb8; have S2 : Hid (w8.ownsRow (w.heap.size + 1) 2 1 (.slice A2 l2.length c2) l2.length (iVals .i64 l2)) := row_but R2.out (by omega) hb8; have S3 : Hid (w8.ownsRow (w.heap.size + 1) 68 3 (.slice A3 l3.length c3) l3.length (sVals l3)) := row_but R3.out (by omega) hb8; have S4 : Hid (w8.ownsRow (w.heap.size + 1) 119 2 (.slice A4 l4.length c4) l4.length (rVals l4)) := row_but R4.out (by omega) hb8; clear hr hb8 hbx8)
                  all_goals go_wp2_with fail
                  all_goals exact bodyPost_ret (v := .tuple #[.agg #[.string x1, .slice A1 l1.length c1, .int .i64 x3, .slice A2 l2.length c2, .slice A3 l3.length c3, .slice A4 l4.length c4], .nilIface]) (by simp [results, Tryz.results59, go_sem, e0, e1, e2, e3, e4, e5]) rfl (takesO_yes (but_set6 HB8.out _ _ _ _ _ _) E7.out ⟨ownsRow_mono (row_set6 S1.out (by omega) _ _ _ _ _ _) (by omega), ownsRow_mono (row_set6 S2.out (by omega) _ _ _ _ _ _) (by omega), ownsRow_mono (row_set6 S3.out (by omega) _ _ _ _ _ _) (by omega), ownsRow_mono (row_set6 S4.out (by omega) _ _ _ _ _ _) (by omega)⟩)
                · have HG : Hid _ := hg
                  go_wp2_with fail
                  go_region_with (go_at_call 108; refine (C _ (by first | exact hin | exact hin.drewN _)).mono ?_; intro r w8 hr; obtain ⟨qq, rfl, hin8, hb8⟩ := hr.err hg; have hbx8 := but_box hb8 HX.out (by omega); obtain ⟨e0, e1, e2, e3, e4, e5⟩ := box6_cell hbx8; obtain ⟨g0, g1, g2, g3, g4, g5⟩ := box6_fro hbx8; have hz8 : w.heap.size < w8.heap.size := (Array.getElem?_eq_some_iff.1 hbx8).1; have HB8 : Hid (But g w w8) := But.trans HB.out hb8; have S1 : Hid (w8.ownsRow (w.heap.size + 1) 78 1 (.slice A1 l1.length c1) l1.length (iVals .u32 l1)) := row_but R1.out (by omega) hb8; have S2 : Hid (w8.ownsRow (w.heap.size + 1) 2 1 (.slice A2 l2.length c2) l2.length (iVals .i64 l2)) := row_but R2.out (by omega) hb8; have S3 : Hid (w8.ownsRow (w.heap.size + 1) 68 3 (.slice A3 l3.length c3) l3.length (sVals l3)) := row_but R3.out (by omega) hb8; have S4 : Hid (w8.ownsRow (w.heap.size + 1) 119 2 (.slice A4 l4.length c4) l4.length (rVals l4)) := row_but R4.out (by omega) hb8; clear hr hb8 hbx8)
                  all_goals go_wp2_with fail
                  all_goals exact bodyPost_ret (v := .tuple #[.agg #[.string x1, .slice A1 l1.length c1, .int .i64 x3, .slice A2 l2.length c2, .slice A3 l3.length c3, .slice A4 l4.length c4], .iface 97 (.agg #[.int .i64 (tEnd b ⟨q6, 0, 0⟩).bad, .int .i64 (tEnd b ⟨q6, 0, 0⟩).place])]) (by simp [results, Tryz.results59, go_sem, e0, e1, e2, e3, e4, e5]) rfl (takesO_no (but_set6 HB8.out _ _ _ _ _ _) ⟨_, _, _, _, _, _, _, _, _, _, _, _, _, _, rfl⟩ P7.out HG.out)
              · have HE : Hid ((took b).t = (tAll b (l1.length : Int) (tRel b) ⟨q5, 0, 0⟩).2) := by
                  show _ = _
                  rw [← P6.out]
                  exact fail_rels (by rw [P6.out]; exact hg)
                have HG : Hid _ := hg
                go_wp2_with fail
                refine C6.mono ?_
                intro r w7 hr
                obtain ⟨q, rfl, hin, hb⟩ := hr.err hg
                clear hr C6 hg
                have hbx := but_box hb HX.out (by omega)
                have HB : Hid (But g w w7) := But.trans HB.out hb
                obtain ⟨d0, d1, d2, d3, d4, d5⟩ := box6_cell hbx
                obtain ⟨f0, f1, f2, f3, f4, f5⟩ := box6_fro hbx
                have hz7 : w.heap.size < w7.heap.size := (Array.getElem?_eq_some_iff.1 hbx).1
                generalize (tAll b (l1.length : Int) (tRel b) ⟨q5, 0, 0⟩).2 = T at *
                clear hb hbx
                go_wp2
                exact bodyPost_ret (v := .tuple #[.agg #[.string x1, .slice A1 l1.length c1, .int .i64 x3, .slice A2 l2.length c2, .slice A3 l3.length c3, .slice none 0 0], .iface 97 (.agg #[.int .i64 T.bad, .int .i64 T.place])]) (by simp [results, Tryz.results59, go_sem, d0, d1, d2, d3, d4, d5]) rfl (takesO_no (but_set6 (but_setB HB.out (Nat.le_refl _) _ _) _ _ _ _ _ _) ⟨_, _, _, _, _, _, _, _, _, _, _, _, _, _, rfl⟩ HE.out HG.out)
            · have HE : Hid ((took b).t = (tAll b 256 (tSym b) ⟨q4, 0, 0⟩).2) := by
                show _ = _
                rw [← P5.out]
                exact fail_syms (by rw [P5.out]; exact hg)
              have HG : Hid _ := hg
              go_wp2_with fail
              refine C5.mono ?_
              intro r w6 hr
              obtain ⟨q, rfl, hin, hb⟩ := hr.err hg
              clear hr C5 hg
              have hbx := but_box hb HX.out (by omega)
              have HB : Hid (But g w w6) := But.trans HB.out hb
              obtain ⟨d0, d1, d2, d3, d4, d5⟩ := box6_cell hbx
              obtain ⟨f0, f1, f2, f3, f4, f5⟩ := box6_fro hbx
              have hz6 : w.heap.size < w6.heap.size := (Array.getElem?_eq_some_iff.1 hbx).1
              generalize (tAll b 256 (tSym b) ⟨q4, 0, 0⟩).2 = T at *
              clear hb hbx
              go_wp2
              exact bodyPost_ret (v := .tuple #[.agg #[.string x1, .slice A1 l1.length c1, .int .i64 x3, .slice A2 l2.length c2, .slice none 0 0, .slice none 0 0], .iface 97 (.agg #[.int .i64 T.bad, .int .i64 T.place])]) (by simp [results, Tryz.results59, go_sem, d0, d1, d2, d3, d4, d5]) rfl (takesO_no (but_set6 (but_setB HB.out (Nat.le_refl _) _ _) _ _ _ _ _ _) ⟨_, _, _, _, _, _, _, _, _, _, _, _, _, _, rfl⟩ HE.out HG.out)
          · have HE : Hid ((took b).t = (tAll b 4096 (tEight b) ⟨q3, 0, 0⟩).2) := by
              show _ = _
              rw [← P4.out]
              exact fail_data (by rw [P4.out]; exact hg)
            have HG : Hid _ := hg
            go_wp2_with fail
            refine C4.mono ?_
            intro r w5 hr
            obtain ⟨q, rfl, hin, hb⟩ := hr.err hg
            clear hr C4 hg
            have hbx := but_box hb HX.out (by omega)
            have HB : Hid (But g w w5) := But.trans HB.out hb
            obtain ⟨d0, d1, d2, d3, d4, d5⟩ := box6_cell hbx
            obtain ⟨f0, f1, f2, f3, f4, f5⟩ := box6_fro hbx
            have hz5 : w.heap.size < w5.heap.size := (Array.getElem?_eq_some_iff.1 hbx).1
            generalize (tAll b 4096 (tEight b) ⟨q3, 0, 0⟩).2 = T at *
            clear hb hbx
            go_wp2
            exact bodyPost_ret (v := .tuple #[.agg #[.string x1, .slice A1 l1.length c1, .int .i64 x3, .slice none 0 0, .slice none 0 0, .slice none 0 0], .iface 97 (.agg #[.int .i64 T.bad, .int .i64 T.place])]) (by simp [results, Tryz.results59, go_sem, d0, d1, d2, d3, d4, d5]) rfl (takesO_no (but_set6 (but_setB HB.out (Nat.le_refl _) _ _) _ _ _ _ _ _) ⟨_, _, _, _, _, _, _, _, _, _, _, _, _, _, rfl⟩ HE.out HG.out)
        · have HE : Hid ((took b).t = (tCount b great ⟨q2, 0, 0⟩).2) := by
            show _ = _
            rw [← P3.out]
            exact fail_dat (by rw [P3.out]; exact hg)
          have HG : Hid _ := hg
          go_wp2_with fail
          refine C3.mono ?_
          intro r w4 hr
          obtain ⟨_, q, rfl, rfl, hin, hb⟩ := hr.err hg
          clear hr C3 hg
          have hbx := but_box hb HX.out (by omega)
          have HB : Hid (But g w w4) := But.trans HB.out hb
          obtain ⟨d0, d1, d2, d3, d4, d5⟩ := box6_cell hbx
          obtain ⟨f0, f1, f2, f3, f4, f5⟩ := box6_fro hbx
          have hz4 : w.heap.size < w4.heap.size := (Array.getElem?_eq_some_iff.1 hbx).1
          generalize (tCount b great ⟨q2, 0, 0⟩).2 = T at *
          clear hb hbx
          go_wp2
          exact bodyPost_ret (v := .tuple #[.agg #[.string x1, .slice A1 l1.length c1, .int .i64 0, .slice none 0 0, .slice none 0 0, .slice none 0 0], .iface 97 (.agg #[.int .i64 T.bad, .int .i64 T.place])]) (by simp [results, Tryz.results59, go_sem, d0, d1, d2, d3, d4, d5]) rfl (takesO_no (but_set6 (but_setB HB.out (Nat.le_refl _) _ _) _ _ _ _ _ _) ⟨_, _, _, _, _, _, _, _, _, _, _, _, _, _, rfl⟩ HE.out HG.out)
      · have HE : Hid ((took b).t = (tAll b 16384 (tFour b) ⟨q1, 0, 0⟩).2) := by
          show _ = _
          rw [← P2.out]
          exact fail_code (by rw [P2.out]; exact hg)
        have HG : Hid _ := hg
        go_wp2_with fail
        refine C2.mono ?_
        intro r w3 hr
        obtain ⟨q, rfl, hin, hb⟩ := hr.err hg
        clear hr C2 hg
        have hbx := but_box hb HX.out (by omega)
        have HB : Hid (But g w w3) := But.trans HB.out hb
        obtain ⟨d0, d1, d2, d3, d4, d5⟩ := box6_cell hbx
        obtain ⟨f0, f1, f2, f3, f4, f5⟩ := box6_fro hbx
        have hz3 : w.heap.size < w3.heap.size := (Array.getElem?_eq_some_iff.1 hbx).1
        generalize (tAll b 16384 (tFour b) ⟨q1, 0, 0⟩).2 = T at *
        clear hb hbx
        go_wp2
        exact bodyPost_ret (v := .tuple #[.agg #[.string x1, .slice none 0 0, .int .i64 0, .slice none 0 0, .slice none 0 0, .slice none 0 0], .iface 97 (.agg #[.int .i64 T.bad, .int .i64 T.place])]) (by simp [results, Tryz.results59, go_sem, d0, d1, d2, d3, d4, d5]) rfl (takesO_no (but_set6 (but_setB HB.out (Nat.le_refl _) _ _) _ _ _ _ _ _) ⟨_, _, _, _, _, _, _, _, _, _, _, _, _, _, rfl⟩ HE.out HG.out)
    · have HE : Hid ((took b).t = (tName b ⟨4, 0, 0⟩).2) := by
        show _ = _
        rw [← P1.out]
        exact fail_name (by rw [P1.out]; exact hg)
      have HG : Hid _ := hg
      go_wp2_with fail
      refine C1.mono ?_
      intro r w2 hr
      obtain ⟨_, q, rfl, rfl, hin, hb⟩ := hr.err hg
      clear hr C1 hg
      have hbx := but_box hb HX.out (by omega)
      have HB : Hid (But g w w2) := But.trans HB.out hb
      obtain ⟨d0, d1, d2, d3, d4, d5⟩ := box6_cell hbx
      obtain ⟨f0, f1, f2, f3, f4, f5⟩ := box6_fro hbx
      have hz2 : w.heap.size < w2.heap.size := (Array.getElem?_eq_some_iff.1 hbx).1
      generalize (tName b ⟨4, 0, 0⟩).2 = T at *
      clear hb hbx
      go_wp2
      exact bodyPost_ret (v := .tuple #[.agg #[.string ⟨#[]⟩, .slice none 0 0, .int .i64 0, .slice none 0 0, .slice none 0 0, .slice none 0 0], .iface 97 (.agg #[.int .i64 T.bad, .int .i64 T.place])]) (by simp [results, Tryz.results59, go_sem, d0, d1, d2, d3, d4, d5]) rfl (takesO_no (but_set6 (but_setB HB.out (Nat.le_refl _) _ _) _ _ _ _ _ _) ⟨_, _, _, _, _, _, _, _, _, _, _, _, _, _, rfl⟩ HE.out HG.out)
  · have HE : Hid _ := fail_begin hg
    have HG : Hid _ := hg
    go_enter Tryz.func59, Tryz.ntmps59
    go_wp2_with fail
    refine C.mono ?_
    intro r w1 hr
    obtain ⟨q, rfl, hin, hb⟩ := hr.err hg
    clear hr C hg
    have hbx := but_box hb hbx1.out (by omega)
    have HB : Hid (But g w w1) := HB1.out.trans hb
    obtain ⟨d0, d1, d2, d3, d4, d5⟩ := box6_cell hbx
    obtain ⟨f0, f1, f2, f3, f4, f5⟩ := box6_fro hbx
    have hz1 : w.heap.size < w1.heap.size := (Array.getElem?_eq_some_iff.1 hbx).1
    generalize tBegin b [80, 76, 79, 49] = T at *
    clear hb hbx
    go_wp2
    exact bodyPost_ret (v := .tuple #[.agg #[.string ⟨#[]⟩, .slice none 0 0, .int .i64 0, .slice none 0 0, .slice none 0 0, .slice none 0 0], .iface 97 (.agg #[.int .i64 T.bad, .int .i64 T.place])]) (by simp [results, Tryz.results59, go_sem, d0, d1, d2, d3, d4, d5]) rfl (takesO_no (but_set6 HB.out _ _ _ _ _ _) ⟨_, _, _, _, _, _, _, _, _, _, _, _, _, _, rfl⟩ HE.out HG.out)

end Go.Proofs.YthfcimmfkibmjaaGreatDoor

namespace Go.Proofs.YthfcimmfkibmjaaGreatDoor
open Go.RowKit


theorem iVals_get {K : IntKind} {l : List Int} {i : Nat} (h : i < l.length) : (iVals K l)[i]? = some (.int K (nth l i)) := by simp [iVals, nth, List.getD, h]
theorem sVals_get : ∀ (l : List Sym) (i : Nat), i < l.length → (sVals l)[i * 3]? = some (.string (sName l i)) ∧ (sVals l)[i * 3 + 1]? = some (.int .i8 (sKind l i)) ∧ (sVals l)[i * 3 + 2]? = some (.int .i64 (sAt l i))
  | [], i, h => by simp at h
  | x :: l, 0, _ => ⟨rfl, rfl, rfl⟩
  | x :: l, i + 1, h => by
    obtain ⟨a, b, c⟩ := sVals_get l i (by simpa using h)
    have e : ∀ j, (sVals (x :: l))[(i + 1) * 3 + j]? = (sVals l)[i * 3 + j]? := fun j => by
      show ([_, _, _] ++ sVals l)[(i + 1) * 3 + j]? = _
      rw [List.getElem?_append_right (by simp; omega)]
      congr 1
      simp
      omega
    refine ⟨?_, ?_, ?_⟩
    · have := e 0
      simp only [Nat.add_zero] at this
      rw [this, a]
      rfl
    · rw [e 1, b]; rfl
    · rw [e 2, c]; rfl
theorem rVals_get : ∀ (l : List Rel) (i : Nat), i < l.length → (rVals l)[i * 2]? = some (.int .i64 (rAt l i)) ∧ (rVals l)[i * 2 + 1]? = some (.int .i64 (rSym l i))
  | [], i, h => by simp at h
  | x :: l, 0, _ => ⟨rfl, rfl⟩
  | x :: l, i + 1, h => by
    obtain ⟨a, b⟩ := rVals_get l i (by simpa using h)
    have e : ∀ j, (rVals (x :: l))[(i + 1) * 2 + j]? = (rVals l)[i * 2 + j]? := fun j => by
      show ([_, _] ++ rVals l)[(i + 1) * 2 + j]? = _
      rw [List.getElem?_append_right (by simp; omega)]
      congr 1
      simp
      omega
    refine ⟨?_, ?_⟩
    · have := e 0
      simp only [Nat.add_zero] at this
      rw [this, a]
      rfl
    · rw [e 1, b]; rfl
theorem add_add (j k i : Nat) : ((⟨j, 0, none⟩ : Addr).add k).add i = (⟨j, 0, none⟩ : Addr).add (k + i) := by
  rw [add0, add0]
  unfold Addr.add
  split
  · next h => subst h; rfl
  · rfl
theorem row_ints {w : World} {base c n : Nat} {e : TypeId} {A : Option Addr} {K : IntKind} {l : List Int} (h : w.ownsRow base e 1 (.slice A n c) l.length (iVals K l)) : IntsAt w A K l := fun i hi => by
  rcases h.2 with ⟨_, h0⟩ | ⟨j, cap, cur, hv, hb, hg, hc, _⟩
  · omega
  · cases hv
    exact ⟨_, rfl, h.cells rfl i _ (iVals_get hi)⟩
theorem row_syms {w : World} {base c n : Nat} {e : TypeId} {A : Option Addr} {l : List Sym} (h : w.ownsRow base e 3 (.slice A n c) l.length (sVals l)) : SymsAt w A l := fun i hi => by
  rcases h.2 with ⟨_, h0⟩ | ⟨j, cap, cur, hv, hb, hg, hc, _⟩
  · omega
  · cases hv
    obtain ⟨a, b, d⟩ := sVals_get l i hi
    exact ⟨_, rfl, h.cells rfl _ _ a, by rw [add_add]; exact h.cells rfl _ _ b, by rw [add_add]; exact h.cells rfl _ _ d⟩
theorem row_rels {w : World} {base c n : Nat} {e : TypeId} {A : Option Addr} {l : List Rel} (h : w.ownsRow base e 2 (.slice A n c) l.length (rVals l)) : RelsAt w A l := fun i hi => by
  rcases h.2 with ⟨_, h0⟩ | ⟨j, cap, cur, hv, hb, hg, hc, _⟩
  · omega
  · cases hv
    obtain ⟨a, b⟩ := rVals_get l i hi
    exact ⟨_, rfl, h.cells rfl _ _ a, by rw [add_add]; exact h.cells rfl _ _ b⟩
theorem row_keep {w w1 : World} {base n : Nat} {e : TypeId} {sz : Nat} {v : Value} {xs : List Value} (h : w.ownsRow base e sz v n xs) (hb : Below w.heap.size w w1) : w1.ownsRow base e sz v n xs := by
  refine h.kept (row := none) ⟨hb.os, hb.tape, hb.output, hb.size, fun k hk _ => hb.block k hk⟩ ?_
  cases hv : v.ownBlock <;> simp
theorem RowsO.keep {w w1 : World} {base : Nat} {A1 A2 A3 A4 : Option Addr} {c1 c2 c3 c4 : Nat} {code data : List Int} {ss : List Sym} {rs : List Rel} (h : RowsO w base A1 A2 A3 A4 c1 c2 c3 c4 code data ss rs) (hb : Below w.heap.size w w1) : RowsO w1 base A1 A2 A3 A4 c1 c2 c3 c4 code data ss rs :=
  ⟨row_keep h.r1 hb, row_keep h.r2 hb, row_keep h.r3 hb, row_keep h.r4 hb⟩
theorem RowsO.set6 {w : World} {B base : Nat} {A1 A2 A3 A4 : Option Addr} {c1 c2 c3 c4 : Nat} {code data : List Int} {ss : List Sym} {rs : List Rel} (h : RowsO w base A1 A2 A3 A4 c1 c2 c3 c4 code data ss rs) (hB : B < base) (x0 x1 x2 x3 x4 x5 : Value) : RowsO ((((((w.setCell ⟨B, 0, none⟩ x0).setCell ⟨B, 1, none⟩ x1).setCell ⟨B, 2, none⟩ x2).setCell ⟨B, 3, none⟩ x3).setCell ⟨B, 4, none⟩ x4).setCell ⟨B, 5, none⟩ x5) base A1 A2 A3 A4 c1 c2 c3 c4 code data ss rs :=
  ⟨row_set6 h.r1 hB _ _ _ _ _ _, row_set6 h.r2 hB _ _ _ _ _ _, row_set6 h.r3 hB _ _ _ _ _ _, row_set6 h.r4 hB _ _ _ _ _ _⟩
theorem RowsO.mono {w : World} {base base' : Nat} {A1 A2 A3 A4 : Option Addr} {c1 c2 c3 c4 : Nat} {code data : List Int} {ss : List Sym} {rs : List Rel} (h : RowsO w base A1 A2 A3 A4 c1 c2 c3 c4 code data ss rs) (hb : base' ≤ base) : RowsO w base' A1 A2 A3 A4 c1 c2 c3 c4 code data ss rs :=
  ⟨ownsRow_mono h.r1 hb, ownsRow_mono h.r2 hb, ownsRow_mono h.r3 hb, ownsRow_mono h.r4 hb⟩
theorem below_set6 {w w1 : World} {n : Nat} (h : Below n w w1) {B : Nat} (hB : n ≤ B) (x0 x1 x2 x3 x4 x5 : Value) : Below n w ((((((w1.setCell ⟨B, 0, none⟩ x0).setCell ⟨B, 1, none⟩ x1).setCell ⟨B, 2, none⟩ x2).setCell ⟨B, 3, none⟩ x3).setCell ⟨B, 4, none⟩ x4).setCell ⟨B, 5, none⟩ x5) :=
  (((((h.setCell hB _).setCell hB _).setCell hB _).setCell hB _).setCell hB _).setCell hB _

end Go.Proofs.YthfcimmfkibmjaaGreatDoor

namespace Go.Proofs.YthfcimmfkibmjaaGreatDoor
open Go.RowKit


open Go.Extern.Stop Go.Stop Go.Extern

theorem as_nil (t : Value) (w : World) : Calls Tryz.prog 60 #[.nilIface, t] w fun e w' => e = .returned (.bool false) ∧ w' = w := by
  go_enter Tryz.func60, Tryz.ntmps60
  go_wp2
  go_ret
  exact ⟨rfl, rfl⟩
theorem as_val99 (t : Addr) (w : World) : (ReflectliteValue.unpack (.iface 99 (.pointer (some t)))).run Tryz.prog w = .ok (.agg #[.pointer (some ⟨4, 99, none⟩), .pointer (some ⟨w.heap.size, 0, none⟩), .int .u64 150]) (w.alloc (.cells #[.pointer (some t)] 99)) := by kernel_rfl
theorem as_type99 (a : Addr) (w : World) : (ReflectliteValue.methodAny (ReflectliteValue.valueError "reflectlite.Value.Type" 0) (fun t _ _ _ => ReflectliteType.toType t) #[.agg #[.pointer (some ⟨4, 99, none⟩), .pointer (some a), .int .u64 150]]).run Tryz.prog w = .ok (.iface 218 (.agg #[.pointer (some ⟨4, 99, none⟩)])) w := by kernel_rfl
theorem as_kind (h : Value) (w : World) : (Go.method 391 218 (.agg #[h]) "Kind").run Tryz.prog w = .ok (188, h) w := by kernel_rfl
theorem as_kind99 (w : World) : ((ReflectliteType.abiMethod fun t => (fun a : Nat => Value.int IntKind.u8 (a : Int)) <$> Rtype.kind t) #[.pointer (some ⟨4, 99, none⟩)]).run Tryz.prog w = .ok (.int .u8 22) w := by kernel_rfl
theorem as_kind97 (w : World) : ((ReflectliteType.abiMethod fun t => (fun a : Nat => Value.int IntKind.u8 (a : Int)) <$> Rtype.kind t) #[.pointer (some ⟨4, 97, none⟩)]).run Tryz.prog w = .ok (.int .u8 25) w := by kernel_rfl
theorem as_method (z : Sem Value) (f : TypeId → Addr → Nat → Nat → Sem Value) (v : Value) :
    ReflectliteValue.method z f #[v] = (do match ← ReflectliteValue.parts v with | none => z | some (t, a, fl) => f t a fl (fl % 32)) := rfl
theorem as_parts99 (a : Addr) (w : World) : (ReflectliteValue.parts (.agg #[.pointer (some ⟨4, 99, none⟩), .pointer (some a), .int .u64 150])).run Tryz.prog w = .ok (some (99, a, 150)) w := by kernel_rfl
theorem as_isNil99 (a p : Addr) (W : World) (ha : W.cell? a = some (.pointer (some p))) :
    (ReflectliteValue.method (ReflectliteValue.valueError "reflectlite.Value.IsNil" 0) ReflectliteValue.isNil #[.agg #[.pointer (some ⟨4, 99, none⟩), .pointer (some a), .int .u64 150]]).run Tryz.prog W = .ok (.bool false) W := by
  rw [as_method]
  simp only [Sem.run_bind, as_parts99, Result.andThen]
  simp [ReflectliteValue.isNil, loadVar, isAgg, underlying, Tryz.underlying99, ha, Result.andThen]
theorem as_elem (h : Value) (w : World) : (Go.method 391 218 (.agg #[h]) "Elem").run Tryz.prog w = .ok (199, .agg #[h]) w := by kernel_rfl
theorem as_impl (h : Value) (w : World) : (Go.method 391 218 (.agg #[h]) "Implements").run Tryz.prog w = .ok (200, .agg #[h]) w := by kernel_rfl
theorem as_asg (h : Value) (w : World) : (Go.method 391 218 (.agg #[h]) "AssignableTo").run Tryz.prog w = .ok (197, .agg #[h]) w := by kernel_rfl
theorem as_elem99 (w : World) : (ReflectliteType.method ReflectliteType.elem #[.agg #[.pointer (some ⟨4, 99, none⟩)]]).run Tryz.prog w = .ok (.iface 218 (.agg #[.pointer (some ⟨4, 97, none⟩)])) w := by kernel_rfl
theorem as_impl97 (w : World) : (ReflectliteType.relation "Implements" ReflectliteType.implements_ #[.agg #[.pointer (some ⟨4, 97, none⟩)], .iface 218 (.agg #[.pointer (some ⟨4, 90, none⟩)])]).run Tryz.prog w = .ok (.bool true) w := by kernel_rfl
theorem as_typeOf97 (v : Value) (w : World) : (ReflectliteType.typeOf #[.iface 97 v]).run Tryz.prog w = .ok (.iface 218 (.agg #[.pointer (some ⟨4, 97, none⟩)])) w := by kernel_rfl
theorem as_asg97 (w : World) : (ReflectliteType.relation "AssignableTo" ReflectliteType.assignableTo #[.agg #[.pointer (some ⟨4, 97, none⟩)], .iface 218 (.agg #[.pointer (some ⟨4, 97, none⟩)])]).run Tryz.prog w = .ok (.bool true) w := by kernel_rfl
theorem as_val97 (x y : Int) (w : World) : (ReflectliteValue.unpack (.iface 97 (.agg #[.int .i64 x, .int .i64 y]))).run Tryz.prog w = .ok (.agg #[.pointer (some ⟨4, 97, none⟩), .pointer (some ⟨w.heap.size, 0, none⟩), .int .u64 153]) (w.alloc (.cells #[.int .i64 x, .int .i64 y] 97)) := by kernel_rfl
theorem as_elemOf99 (w : World) : (Rtype.elem? 99).run Tryz.prog w = .ok (some 97) w := by kernel_rfl
theorem as_mk97 (p : Addr) (w : World) : (ReflectliteValue.mk 97 p ReflectliteValue.flagAddr).run Tryz.prog w = .ok (.agg #[.pointer (some ⟨4, 97, none⟩), .pointer (some p), .int .u64 409]) w := by kernel_rfl
theorem as_elemV99 (a p : Addr) (W : World) (ha : W.cell? a = some (.pointer (some p))) :
    (ReflectliteValue.method (ReflectliteValue.valueError "reflectlite.Value.Elem" 0) ReflectliteValue.elem #[.agg #[.pointer (some ⟨4, 99, none⟩), .pointer (some a), .int .u64 150]]).run Tryz.prog W = .ok (.agg #[.pointer (some ⟨4, 97, none⟩), .pointer (some p), .int .u64 409]) W := by
  rw [as_method]
  simp only [Sem.run_bind, as_parts99, Result.andThen]
  simp [ReflectliteValue.elem, loadVar, isAgg, underlying, Tryz.underlying99, ha, Result.andThen, as_elemOf99, as_mk97]
theorem as_parts97a (a : Addr) (w : World) : (ReflectliteValue.parts (.agg #[.pointer (some ⟨4, 97, none⟩), .pointer (some a), .int .u64 409])).run Tryz.prog w = .ok (some (97, a, 409)) w := by kernel_rfl
theorem as_parts97 (a : Addr) (w : World) : (ReflectliteValue.parts (.agg #[.pointer (some ⟨4, 97, none⟩), .pointer (some a), .int .u64 153])).run Tryz.prog w = .ok (some (97, a, 153)) w := by kernel_rfl
theorem as_direct97 (w : World) : (Rtype.directlyAssignable 97 97).run Tryz.prog w = .ok true w := by kernel_rfl
theorem as_load97 (b : Nat) (x y : Int) (W : World) (h0 : W.cell? ⟨b, 0, none⟩ = some (.int .i64 x)) (h1 : W.cell? ⟨b, 1, none⟩ = some (.int .i64 y)) : (loadVar 97 ⟨b, 0, none⟩).run Tryz.prog W = .ok (.agg #[.int .i64 x, .int .i64 y]) W := by
  simp [loadVar, go_sem, h0, h1]
theorem as_store97 (b : Nat) (x y : Int) (u v : Value) (W : World) (h0 : W.cell? ⟨b, 0, none⟩ = some u) (h1 : W.cell? ⟨b, 1, none⟩ = some v) (f0 : W.frozen? ⟨b, 0, none⟩ = false) (f1 : W.frozen? ⟨b, 1, none⟩ = false) : (storeVar 97 ⟨b, 0, none⟩ (.agg #[.int .i64 x, .int .i64 y])).run Tryz.prog W = .ok () ((W.setCell ⟨b, 0, none⟩ (.int .i64 x)).setCell ⟨b, 1, none⟩ (.int .i64 y)) := by
  simp [storeVar, go_sem, h0, h1, f0, f1]

end Go.Proofs.YthfcimmfkibmjaaGreatDoor

namespace Go.Proofs.YthfcimmfkibmjaaGreatDoor
open Go.RowKit


open Go.Extern.Stop Go.Stop Go.Extern

theorem run_two {α β : Type} {P : Program} {W : World} {m : Sem Value} {p1 : Sem α} {p2 : Sem β} (k : α → β → Sem Value) (e : m = (p1 >>= fun p => p2 >>= fun q => k p q)) : m.run P W = (p1 >>= fun p => p2 >>= fun q => k p q).run P W := by rw [e]
theorem as_set_run (v x : Value) (a b : Addr) (val : Value) (P : Program) (W W' : World) (hp : (ReflectliteValue.parts v).run P W = .ok (some (97, a, 409)) W) (hq : (ReflectliteValue.parts x).run P W = .ok (some (97, b, 153)) W) (hl : (loadVar 97 b).run P W = .ok val W) (hd : (Rtype.directlyAssignable 97 97).run P W = .ok true W) (hs : (storeVar 97 a val).run P W = .ok () W') :
    (ReflectliteValue.set #[v, x]).run P W = .ok (.tuple #[]) W' := by
  refine (run_two (p1 := ReflectliteValue.parts v) (p2 := ReflectliteValue.parts x) _ rfl).trans ?_
  simp only [Sem.run_bind, hp, hq, Result.andThen]
  simp [ReflectliteValue.flagAddr, hl, hd, hs, Result.andThen]
theorem as_set97 (ta b : Nat) (x y : Int) (u v : Value) (W : World) (hb0 : W.cell? ⟨b, 0, none⟩ = some (.int .i64 x)) (hb1 : W.cell? ⟨b, 1, none⟩ = some (.int .i64 y)) (h0 : W.cell? ⟨ta, 0, none⟩ = some u) (h1 : W.cell? ⟨ta, 1, none⟩ = some v) (f0 : W.frozen? ⟨ta, 0, none⟩ = false) (f1 : W.frozen? ⟨ta, 1, none⟩ = false) :
    (ReflectliteValue.set #[.agg #[.pointer (some ⟨4, 97, none⟩), .pointer (some ⟨ta, 0, none⟩), .int .u64 409], .agg #[.pointer (some ⟨4, 97, none⟩), .pointer (some ⟨b, 0, none⟩), .int .u64 153]]).run Tryz.prog W = .ok (.tuple #[]) ((W.setCell ⟨ta, 0, none⟩ (.int .i64 x)).setCell ⟨ta, 1, none⟩ (.int .i64 y)) :=
  as_set_run _ _ _ _ _ _ _ _ (as_parts97a _ _) (as_parts97 _ _) (as_load97 b x y W hb0 hb1) (as_direct97 _) (as_store97 ta x y u v W h0 h1 f0 f1)
theorem alloc_keep {w : World} {a : Addr} {v : Value} (h : w.cell? a = some v) (o : Obj) : (w.alloc o).cell? a = some v := lkeep (lb_alloc (Below.refl _ _) o) h
theorem alloc_fro {w : World} {a : Addr} (hl : a.block < w.heap.size) (h : w.frozen? a = false) (o : Obj) : (w.alloc o).frozen? a = false := by
  rw [(lb_alloc (Below.refl w.heap.size w) o).frozen (p := a) hl]; exact h
set_option maxHeartbeats 4000000 in
theorem as_hit (tb : Nat) (x y : Int) (u v : Value) (w : World) (hg : w.cell? ⟨0, 0, none⟩ = some (.iface 218 (.agg #[.pointer (some ⟨4, 90, none⟩)]))) (h0 : w.cell? ⟨tb, 0, none⟩ = some u) (h1 : w.cell? ⟨tb, 1, none⟩ = some v) (f0 : w.frozen? ⟨tb, 0, none⟩ = false) (f1 : w.frozen? ⟨tb, 1, none⟩ = false) :
    Calls Tryz.prog 60 #[.iface 97 (.agg #[.int .i64 x, .int .i64 y]), .iface 99 (.pointer (some ⟨tb, 0, none⟩))] w fun ev w' => ev = .returned (.bool true) ∧ w' = (((((w.alloc (.cells #[.pointer (some ⟨tb, 0, none⟩)] 99)).alloc (.cells #[.pointer (some ⟨4, 99, none⟩), .pointer (some ⟨w.heap.size, 0, none⟩), .int .u64 150] 181)).alloc (.cells #[.pointer (some ⟨4, 99, none⟩), .pointer (some ⟨w.heap.size, 0, none⟩), .int .u64 150] 181)).alloc (.cells #[.int .i64 x, .int .i64 y] 97)).setCell ⟨tb, 0, none⟩ (.int .i64 x)).setCell ⟨tb, 1, none⟩ (.int .i64 y) := by
  have h6 := @run_callFunc_extern Tryz.prog 109 _ (fun args => ReflectliteValue.unpack (args.getD 0 (.tuple #[]))) Tryz.func109 (by kernel_rfl) (by kernel_rfl) (by kernel_rfl) (by kernel_rfl)
  have h7 := @run_callFunc_extern Tryz.prog 110 _ (ReflectliteValue.methodAny (ReflectliteValue.valueError "reflectlite.Value.Type" 0) (fun t _ _ _ => ReflectliteType.toType t)) Tryz.func110 (by kernel_rfl) (by kernel_rfl) (by kernel_rfl) (by kernel_rfl)
  have h8 := @run_callFunc_extern Tryz.prog 111 _ (ReflectliteValue.method (ReflectliteValue.valueError "reflectlite.Value.IsNil" 0) ReflectliteValue.isNil) Tryz.func111 (by kernel_rfl) (by kernel_rfl) (by kernel_rfl) (by kernel_rfl)
  have h27 := @run_callFunc_extern Tryz.prog 188 _ (ReflectliteType.abiMethod fun t => do pure (.int .u8 (← Rtype.kind t))) Tryz.func188 (by kernel_rfl) (by kernel_rfl) (by kernel_rfl) (by kernel_rfl)
  have h37 := @run_callFunc_extern Tryz.prog 199 _ (ReflectliteType.method ReflectliteType.elem) Tryz.func199 (by kernel_rfl) (by kernel_rfl) (by kernel_rfl) (by kernel_rfl)
  have h38 := @run_callFunc_extern Tryz.prog 200 _ (ReflectliteType.relation "Implements" ReflectliteType.implements_) Tryz.func200 (by kernel_rfl) (by kernel_rfl) (by kernel_rfl) (by kernel_rfl)
  have h10 := @run_callFunc_extern Tryz.prog 140 _ ReflectliteType.typeOf Tryz.func140 (by kernel_rfl) (by kernel_rfl) (by kernel_rfl) (by kernel_rfl)
  have h35 := @run_callFunc_extern Tryz.prog 197 _ (ReflectliteType.relation "AssignableTo" ReflectliteType.assignableTo) Tryz.func197 (by kernel_rfl) (by kernel_rfl) (by kernel_rfl) (by kernel_rfl)
  have h11 := @run_callFunc_extern Tryz.prog 141 _ (ReflectliteValue.method (ReflectliteValue.valueError "reflectlite.Value.Elem" 0) ReflectliteValue.elem) Tryz.func141 (by kernel_rfl) (by kernel_rfl) (by kernel_rfl) (by kernel_rfl)
  have h12 := @run_callFunc_extern Tryz.prog 142 _ ReflectliteValue.set Tryz.func142 (by kernel_rfl) (by kernel_rfl) (by kernel_rfl) (by kernel_rfl)
  have tO := as_typeOf97
  have mA := as_asg
  have a25 := as_asg97
  have v25 := as_val97
  have f6 := as_val99
  have f7 := as_type99
  have mK := as_kind
  have mE := as_elem
  have mI := as_impl
  have k27 := as_kind99
  have k25 := as_kind97
  have e27 := as_elem99
  have i25 := as_impl97
  have htl : tb < w.heap.size := World.block_lt_of_cell? w ⟨tb, 0, none⟩ h0
  have n8 := as_isNil99 ⟨w.heap.size, 0, none⟩ ⟨tb, 0, none⟩ ((w.alloc (.cells #[.pointer (some ⟨tb, 0, none⟩)] 99)).alloc (.cells #[.pointer (some ⟨4, 99, none⟩), .pointer (some ⟨w.heap.size, 0, none⟩), .int .u64 150] 181)) (alloc_keep (by simp) _)
  have hg2 : ((w.alloc (.cells #[.pointer (some ⟨tb, 0, none⟩)] 99)).alloc (.cells #[.pointer (some ⟨4, 99, none⟩), .pointer (some ⟨w.heap.size, 0, none⟩), .int .u64 150] 181)).cell? ⟨0, 0, none⟩ = some (.iface 218 (.agg #[.pointer (some ⟨4, 90, none⟩)])) := alloc_keep (alloc_keep hg _) _
  have el := as_elemV99 ⟨w.heap.size, 0, none⟩ ⟨tb, 0, none⟩ (((w.alloc (.cells #[.pointer (some ⟨tb, 0, none⟩)] 99)).alloc (.cells #[.pointer (some ⟨4, 99, none⟩), .pointer (some ⟨w.heap.size, 0, none⟩), .int .u64 150] 181)).alloc (.cells #[.pointer (some ⟨4, 99, none⟩), .pointer (some ⟨w.heap.size, 0, none⟩), .int .u64 150] 181)) (alloc_keep (alloc_keep (by simp) _) _)
  have st := as_set97 tb (w.heap.size + 1 + 1 + 1) x y u v ((((w.alloc (.cells #[.pointer (some ⟨tb, 0, none⟩)] 99)).alloc (.cells #[.pointer (some ⟨4, 99, none⟩), .pointer (some ⟨w.heap.size, 0, none⟩), .int .u64 150] 181)).alloc (.cells #[.pointer (some ⟨4, 99, none⟩), .pointer (some ⟨w.heap.size, 0, none⟩), .int .u64 150] 181)).alloc (.cells #[.int .i64 x, .int .i64 y] 97)) (by rw [World.cell?_alloc_at _ _ _ _ (by simp)]; rfl) (by rw [World.cell?_alloc_at _ _ _ _ (by simp)]; rfl) (alloc_keep (alloc_keep (alloc_keep (alloc_keep h0 _) _) _) _) (alloc_keep (alloc_keep (alloc_keep (alloc_keep h1 _) _) _) _)
    (alloc_fro (by simp; omega) (alloc_fro (by simp; omega) (alloc_fro (by simp; omega) (alloc_fro htl f0 _) _) _) _) (alloc_fro (by simp; omega) (alloc_fro (by simp; omega) (alloc_fro (by simp; omega) (alloc_fro htl f1 _) _) _) _)
  go_enter Tryz.func60, Tryz.ntmps60
  go_wp2
  refine wp_loop_rounds 1 ?_
  rw [rounds_succ]
  go_wp2
  go_ret
  exact ⟨rfl, rfl⟩

end Go.Proofs.YthfcimmfkibmjaaGreatDoor
