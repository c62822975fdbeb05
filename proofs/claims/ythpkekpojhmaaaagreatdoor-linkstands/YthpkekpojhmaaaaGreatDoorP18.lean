/-
  Rows of an object as its lists lie in memory; no Go in sight. Read of package wire: what it answers; bytes are at most 2^20. Where the handle of the type error lies as the program's text lays it, its cell holds it; a world that meets this. When an image may be, as plain mathematics; no Go in sight.
-/
import Derived.Test.YthpkekpojhmaaaaGreatDoorProg
import Derived.WalkKit
import Derived.WalkSpells
import Derived.WalkLawsBesides
import Derived.RowKit3
import Derived.Below
import Derived.Deep.QuietTactic
import Derived.BigQuiet
import Derived.WalkSmall
import Derived.Laws.Rows
import Derived.Test.YthpkekpojhmaaaaGreatDoorP17
import Derived.Test.YthpkekpojhmaaaaGreatDoorP03
import Derived.Test.YthpkekpojhmaaaaGreatDoorRows
import Derived.Test.YthpkekpojhmaaaaGreatDoorP01
import Derived.ChangeSame
import Derived.ChangeVars
import Derived.JoinedOf
import Derived.RowKit
import Derived.RowKitTokens
import Derived.LaidLaws
import Derived.LaidHandle
import Derived.Stop.Joined
namespace Go.Proofs.YthpkekpojhmaaaaGreatDoor
open Go.RowKit


theorem iVals_get {K : IntKind} {l : List Int} {i : Nat} (h : i < l.length) : (iVals K l)[i]? = some (.int K (nth l i)) := by simp [iVals, nth, List.getD, h]
theorem sVals_get : ∀ (l : List Sym) (i : Nat), i < l.length → (sVals l)[i * 3]? = some (.string (sName l i)) ∧ (sVals l)[i * 3 + 1]? = some (.int .i8 (sKind l i)) ∧ (sVals l)[i * 3 + 2]? = some (.int .i64 (sAt l i))
  | [], i, h => by simp at h
  | x :: l, 0, _ => ⟨rfl, rfl, rfl⟩
  | x :: l, i + 1, h => by
    obtain ⟨a, b, c⟩ := sVals_get l i (by simpa using h)
    have e : ∀ j, (sVals (x :: l))[(i + 1) * 3 + j]? = (sVals l)[i * 3 + j]? := fun j => by
      show ([_, _, _] ++ sVals l)[(i + 1) * 3 + j]? = _
      rw [List.getElem?_append_right (by simp; omega)]
      congr 1
      simp
      omega
    refine ⟨?_, ?_, ?_⟩
    · have := e 0
      simp only [Nat.add_zero] at this
      rw [this, a]
      rfl
    · rw [e 1, b]; rfl
    · rw [e 2, c]; rfl
theorem rVals_get : ∀ (l : List Rel) (i : Nat), i < l.length → (rVals l)[i * 2]? = some (.int .i64 (rAt l i)) ∧ (rVals l)[i * 2 + 1]? = some (.int .i64 (rSym l i))
  | [], i, h => by simp at h
  | x :: l, 0, _ => ⟨rfl, rfl⟩
  | x :: l, i + 1, h => by
    obtain ⟨a, b⟩ := rVals_get l i (by simpa using h)
    have e : ∀ j, (rVals (x :: l))[(i + 1) * 2 + j]? = (rVals l)[i * 2 + j]? := fun j => by
      show ([_, _] ++ rVals l)[(i + 1) * 2 + j]? = _
      rw [List.getElem?_append_right (by simp; omega)]
      congr 1
      simp
      omega
    refine ⟨?_, ?_⟩
    · have := e 0
      simp only [Nat.add_zero] at this
      rw [this, a]
      rfl
    · rw [e 1, b]; rfl
theorem add_add (j k i : Nat) : ((⟨j, 0, none⟩ : Addr).add k).add i = (⟨j, 0, none⟩ : Addr).add (k + i) := by
  rw [add0, add0]
  unfold Addr.add
  split
  · next h => subst h; rfl
  · rfl
theorem row_ints {w : World} {base c n : Nat} {e : TypeId} {A : Option Addr} {K : IntKind} {l : List Int} (h : w.ownsRow base e 1 (.slice A n c) l.length (iVals K l)) : IntsAt w A K l := fun i hi => by
  rcases h.2 with ⟨_, h0⟩ | ⟨j, cap, cur, hv, hb, hg, hc, _⟩
  · omega
  · cases hv
    exact ⟨_, rfl, h.cells rfl i _ (iVals_get hi)⟩
theorem row_syms {w : World} {base c n : Nat} {e : TypeId} {A : Option Addr} {l : List Sym} (h : w.ownsRow base e 3 (.slice A n c) l.length (sVals l)) : SymsAt w A l := fun i hi => by
  rcases h.2 with ⟨_, h0⟩ | ⟨j, cap, cur, hv, hb, hg, hc, _⟩
  · omega
  · cases hv
    obtain ⟨a, b, d⟩ := sVals_get l i hi
    exact ⟨_, rfl, h.cells rfl _ _ a, by rw [add_add]; exact h.cells rfl _ _ b, by rw [add_add]; exact h.cells rfl _ _ d⟩
theorem row_rels {w : World} {base c n : Nat} {e : TypeId} {A : Option Addr} {l : List Rel} (h : w.ownsRow base e 2 (.slice A n c) l.length (rVals l)) : RelsAt w A l := fun i hi => by
  rcases h.2 with ⟨_, h0⟩ | ⟨j, cap, cur, hv, hb, hg, hc, _⟩
  · omega
  · cases hv
    obtain ⟨a, b⟩ := rVals_get l i hi
    exact ⟨_, rfl, h.cells rfl _ _ a, by rw [add_add]; exact h.cells rfl _ _ b⟩
theorem row_keep {w w1 : World} {base n : Nat} {e : TypeId} {sz : Nat} {v : Value} {xs : List Value} (h : w.ownsRow base e sz v n xs) (hb : Below w.heap.size w w1) : w1.ownsRow base e sz v n xs := by
  refine h.kept (row := none) ⟨hb.os, hb.tape, hb.output, hb.size, fun k hk _ => hb.block k hk⟩ ?_
  cases hv : v.ownBlock <;> simp
theorem RowsO.keep {w w1 : World} {base : Nat} {A1 A2 A3 A4 : Option Addr} {c1 c2 c3 c4 : Nat} {code data : List Int} {ss : List Sym} {rs : List Rel} (h : RowsO w base A1 A2 A3 A4 c1 c2 c3 c4 code data ss rs) (hb : Below w.heap.size w w1) : RowsO w1 base A1 A2 A3 A4 c1 c2 c3 c4 code data ss rs :=
  ⟨row_keep h.r1 hb, row_keep h.r2 hb, row_keep h.r3 hb, row_keep h.r4 hb⟩
theorem RowsO.set6 {w : World} {B base : Nat} {A1 A2 A3 A4 : Option Addr} {c1 c2 c3 c4 : Nat} {code data : List Int} {ss : List Sym} {rs : List Rel} (h : RowsO w base A1 A2 A3 A4 c1 c2 c3 c4 code data ss rs) (hB : B < base) (x0 x1 x2 x3 x4 x5 : Value) : RowsO ((((((w.setCell ⟨B, 0, none⟩ x0).setCell ⟨B, 1, none⟩ x1).setCell ⟨B, 2, none⟩ x2).setCell ⟨B, 3, none⟩ x3).setCell ⟨B, 4, none⟩ x4).setCell ⟨B, 5, none⟩ x5) base A1 A2 A3 A4 c1 c2 c3 c4 code data ss rs :=
  ⟨row_set6 h.r1 hB _ _ _ _ _ _, row_set6 h.r2 hB _ _ _ _ _ _, row_set6 h.r3 hB _ _ _ _ _ _, row_set6 h.r4 hB _ _ _ _ _ _⟩
theorem RowsO.mono {w : World} {base base' : Nat} {A1 A2 A3 A4 : Option Addr} {c1 c2 c3 c4 : Nat} {code data : List Int} {ss : List Sym} {rs : List Rel} (h : RowsO w base A1 A2 A3 A4 c1 c2 c3 c4 code data ss rs) (hb : base' ≤ base) : RowsO w base' A1 A2 A3 A4 c1 c2 c3 c4 code data ss rs :=
  ⟨ownsRow_mono h.r1 hb, ownsRow_mono h.r2 hb, ownsRow_mono h.r3 hb, ownsRow_mono h.r4 hb⟩
theorem below_set6 {w w1 : World} {n : Nat} (h : Below n w w1) {B : Nat} (hB : n ≤ B) (x0 x1 x2 x3 x4 x5 : Value) : Below n w ((((((w1.setCell ⟨B, 0, none⟩ x0).setCell ⟨B, 1, none⟩ x1).setCell ⟨B, 2, none⟩ x2).setCell ⟨B, 3, none⟩ x3).setCell ⟨B, 4, none⟩ x4).setCell ⟨B, 5, none⟩ x5) :=
  (((((h.setCell hB _).setCell hB _).setCell hB _).setCell hB _).setCell hB _).setCell hB _


end Go.Proofs.YthpkekpojhmaaaaGreatDoor

namespace Go.Proofs.YthpkekpojhmaaaaGreatDoor
open Go.RowKit


/-- What Read answers. -/
def ReadP (b : List Int) (w : World) (r : Ending) (w' : World) : Prop :=
  Below w.heap.size w w' ∧ ((¬ (took b).t.bad = 0 ∧ r = .returned (.tuple #[.agg #[.string ⟨#[]⟩, .slice none 0 0, .int .i64 0, .slice none 0 0, .slice none 0 0, .slice none 0 0], .int .i64 (took b).t.bad, .int .i64 (took b).t.place])) ∨
    ((took b).t.bad = 0 ∧ ¬ (checkC (took b).nm (took b).code (took b).dA (took b).data.length (took b).ss (took b).rs).1 = 0 ∧ r = .returned (.tuple #[.agg #[.string ⟨#[]⟩, .slice none 0 0, .int .i64 0, .slice none 0 0, .slice none 0 0, .slice none 0 0], .int .i64 (checkC (took b).nm (took b).code (took b).dA (took b).data.length (took b).ss (took b).rs).1, .int .i64 (checkC (took b).nm (took b).code (took b).dA (took b).data.length (took b).ss (took b).rs).2])) ∨
    ((took b).t.bad = 0 ∧ (checkC (took b).nm (took b).code (took b).dA (took b).data.length (took b).ss (took b).rs).1 = 0 ∧ ∃ (A1 A2 A3 A4 : Option Addr) (c1 c2 c3 c4 : Nat), r = .returned (.tuple #[.agg #[.string (took b).nm, .slice A1 (took b).code.length c1, .int .i64 (took b).dA, .slice A2 (took b).data.length c2, .slice A3 (took b).ss.length c3, .slice A4 (took b).rs.length c4], .int .i64 0, .int .i64 0]) ∧ RowsO w' w.heap.size A1 A2 A3 A4 c1 c2 c3 c4 (took b).code (took b).data (took b).ss (took b).rs))
/-- The handle of the type error. -/
def errT : Value := .iface 281 (.agg #[.pointer (some ⟨4, 154, none⟩)])
theorem below_drew {n : Nat} {w w1 : World} (h : Below n w w1) (k : Nat := 0) : Below n w (w1.drewN k) := ⟨h.os, h.tape, h.output, h.size, h.block⟩
theorem in_start (w : World) (A : Option Addr) (c : Nat) (b : List Int) (hB : IntsAt w A .u8 b) (hA : AreB b) (hN : b.length ≤ 1048576) (hc : b.length ≤ c) :
    InBy w (w.heap.size + 1) A c b 0 ((w.alloc (.cells #[.string ⟨#[]⟩, .slice none 0 0, .int .i64 0, .slice none 0 0, .slice none 0 0, .slice none 0 0] 75)).alloc (.cells #[.slice A b.length c, .int .i64 0] 158)) := by
  refine ⟨?_, hB, lb_alloc (lb_alloc (Below.refl _ _) _) _, by omega, hA, hN, hc, Nat.zero_le _⟩
  have := heap_alloc_new (w.alloc (.cells #[.string ⟨#[]⟩, .slice none 0 0, .int .i64 0, .slice none 0 0, .slice none 0 0, .slice none 0 0] 75)) (.cells #[.slice A b.length c, .int .i64 0] 158)
  rw [show (w.alloc (.cells #[.string ⟨#[]⟩, .slice none 0 0, .int .i64 0, .slice none 0 0, .slice none 0 0, .slice none 0 0] 75)).heap.size = w.heap.size + 1 by simp] at this
  exact this
theorem but_below {w w1 w2 : World} (hb : Below w.heap.size w w1) (h : But (w.heap.size + 1) w1 w2) : Below w.heap.size w w2 :=
  ⟨h.1.trans hb.os, h.2.1.trans hb.tape, h.2.2.1.trans hb.output, Nat.le_trans hb.size h.2.2.2.1, fun k hk => (h.2.2.2.2 k (Nat.lt_of_lt_of_le hk hb.size) (by omega)).trans (hb.block k hk)⟩
set_option maxRecDepth 100000 in
set_option maxHeartbeats 2000000 in
theorem read_any (A : Option Addr) (c : Nat) (b : List Int) (w : World) (hB : IntsAt w A .u8 b) (hA : AreB b) (hN : b.length ≤ 1048576) (hc : b.length ≤ c) (hT : w.cell? ⟨0, 0, none⟩ = some errT) :
    Calls Tryz.prog 29 #[.slice A b.length c] w (ReadP b w) := by
  have C := robject_any w _ A c b _ (in_start w A c b hB hA hN hc)
  have hb1 : Hid (Below w.heap.size w ((w.alloc (.cells #[.string ⟨#[]⟩, .slice none 0 0, .int .i64 0, .slice none 0 0, .slice none 0 0, .slice none 0 0] 75)).alloc (.cells #[.slice A b.length c, .int .i64 0] 158))) := lb_alloc (lb_alloc (Below.refl _ _) _) _
  have hbx1 : Hid (((w.alloc (.cells #[.string ⟨#[]⟩, .slice none 0 0, .int .i64 0, .slice none 0 0, .slice none 0 0, .slice none 0 0] 75)).alloc (.cells #[.slice A b.length c, .int .i64 0] 158)).heap[w.heap.size]? = some (.cells #[.string ⟨#[]⟩, .slice none 0 0, .int .i64 0, .slice none 0 0, .slice none 0 0, .slice none 0 0] 75 (0, 0))) := by
    show _ = _
    rw [(lb_alloc (Below.refl _ (w.alloc (.cells #[.string ⟨#[]⟩, .slice none 0 0, .int .i64 0, .slice none 0 0, .slice none 0 0, .slice none 0 0] 75))) _).block w.heap.size (by simp)]
    exact heap_alloc_new _ _
  by_cases hg : (took b).t.bad = 0
  · have HG : Hid _ := hg
    clear hg
    go_enter Tryz.func29, Tryz.ntmps29
    go_wp2_with fail
    refine C.mono ?_
    intro r w2 hr
    obtain ⟨hb2, ⟨_, A1, A2, A3, A4, c1, c2, c3, c4, rfl, rows⟩ | ⟨h0, _⟩⟩ := hr
    case inr => exact absurd HG.out h0
    clear C
    have hKK : Hid _ := took_write hA HG.out
    have hbw : Hid (Below w.heap.size w w2) := but_below hb1.out hb2
    have hbx : Hid _ := but_box hb2 hbx1.out (by omega)
    have hz := (Array.getElem?_eq_some_iff.1 hbx.out).1
    generalize hTk : took b = T at *
    obtain ⟨nm, code, dA, data, ss, rs, tk⟩ := T
    obtain ⟨_, k1, k2, k3, k4, k5, k6, k7, k8, k9, k10⟩ := hKK.out
    have hgr : great = 2147483647 := rfl
    rw [hgr] at k4
    simp only at rows k1 k2 k3 k4 k5 k6 k7 k8 k9 k10 ⊢
    have hTk : Hid (took b = ⟨nm, code, dA, data, ss, rs, tk⟩) := hTk
    have hB4 : Hid (Below w2.heap.size w2 ((w2.alloc (.cells #[.string nm, .slice A1 code.length c1, .int .i64 dA, .slice A2 data.length c2, .slice A3 ss.length c3, .slice A4 rs.length c4] 75)).alloc (.cells #[.int .i64 0, .int .i64 0] 161))) := lb_alloc (lb_alloc (Below.refl _ _) _) _
    have hbw4 : Hid (Below w.heap.size w ((w2.alloc (.cells #[.string nm, .slice A1 code.length c1, .int .i64 dA, .slice A2 data.length c2, .slice A3 ss.length c3, .slice A4 rs.length c4] 75)).alloc (.cells #[.int .i64 0, .int .i64 0] 161))) := lb_alloc (lb_alloc hbw.out _) _
    have hbx3 : Hid (((w2.alloc (.cells #[.string nm, .slice A1 code.length c1, .int .i64 dA, .slice A2 data.length c2, .slice A3 ss.length c3, .slice A4 rs.length c4] 75)).alloc (.cells #[.int .i64 0, .int .i64 0] 161)).heap[w.heap.size]? = some (.cells #[.string ⟨#[]⟩, .slice none 0 0, .int .i64 0, .slice none 0 0, .slice none 0 0, .slice none 0 0] 75 (0, 0))) := by
      show _ = _
      rw [hB4.out.block w.heap.size hz]
      exact hbx.out
    have hbx4 : Hid (((w2.alloc (.cells #[.string nm, .slice A1 code.length c1, .int .i64 dA, .slice A2 data.length c2, .slice A3 ss.length c3, .slice A4 rs.length c4] 75)).alloc (.cells #[.int .i64 0, .int .i64 0] 161)).heap[w2.heap.size]? = some (.cells #[.string nm, .slice A1 code.length c1, .int .i64 dA, .slice A2 data.length c2, .slice A3 ss.length c3, .slice A4 rs.length c4] 75 (0, 0))) := by
      show _ = _
      rw [(lb_alloc (Below.refl _ (w2.alloc (.cells #[.string nm, .slice A1 code.length c1, .int .i64 dA, .slice A2 data.length c2, .slice A3 ss.length c3, .slice A4 rs.length c4] 75))) _).block w2.heap.size (by simp)]
      exact heap_alloc_new _ _
    have R4 : Hid (RowsO ((w2.alloc (.cells #[.string nm, .slice A1 code.length c1, .int .i64 dA, .slice A2 data.length c2, .slice A3 ss.length c3, .slice A4 rs.length c4] 75)).alloc (.cells #[.int .i64 0, .int .i64 0] 161)) (w.heap.size + 2) A1 A2 A3 A4 c1 c2 c3 c4 code data ss rs) := by
      have := rows.keep hB4.out
      exact RowsO.mono this (by simp)
    have D := objcheck_any nm dA A1 A2 A3 A4 c1 data.length c2 c3 c4 code ss rs _ (row_ints R4.out.r1) (row_syms R4.out.r3) (row_rels R4.out.r4) (fun i hi => k3 _ (by simp [nth, List.getD, hi])) (by omega) (by omega) (by omega) (by omega) (fun i => by
      by_cases hi : i < ss.length
      · have := (k8 (ss.getD i symD) (by simp [List.getD, hi])).1
        show (ss.getD i symD).1.size ≤ _
        omega
      · have e : sName ss i = ⟨#[]⟩ := by simp [sName, List.getD, hi, symD]
        rw [e]
        show (0 : Nat) ≤ _
        omega) ⟨by omega, by omega⟩
    clear hb2 rows k1 k2 k3 k4 k5 k6 k7 k8 k9 k10 hKK hgr
    by_cases hE : (checkC nm code dA data.length ss rs).1 = 0
    · have HE : Hid _ := hE
      rw [hE] at D
      go_wp2_with fail
      refine (as_nil _ _).mono ?_
      rintro e w3 ⟨rfl, rfl⟩
      go_wp2_with fail
      refine D.mono ?_
      rintro e w5 ⟨rfl, h5⟩
      have hx5 : Hid (w5.heap[w.heap.size]? = some (.cells #[.string ⟨#[]⟩, .slice none 0 0, .int .i64 0, .slice none 0 0, .slice none 0 0, .slice none 0 0] 75 (0, 0))) := (h5.block w.heap.size (by simp; omega)).trans hbx3.out
      have hy5 : Hid (w5.heap[w2.heap.size]? = some (.cells #[.string nm, .slice A1 code.length c1, .int .i64 dA, .slice A2 data.length c2, .slice A3 ss.length c3, .slice A4 rs.length c4] 75 (0, 0))) := (h5.block w2.heap.size (by simp; omega)).trans hbx4.out
      have hbw5 : Hid (Below w.heap.size w w5) := lb_trans hbw4.out h5
      have R5 : Hid (RowsO w5 (w.heap.size + 2) A1 A2 A3 A4 c1 c2 c3 c4 code data ss rs) := R4.out.keep h5
      obtain ⟨e0, e1, e2, e3, e4, e5⟩ := box6_cell hx5.out
      obtain ⟨f0, f1, f2, f3, f4, f5⟩ := box6_fro hx5.out
      obtain ⟨g0, g1, g2, g3, g4, g5⟩ := box6_cell hy5.out
      have hz5 : w.heap.size < w5.heap.size := (Array.getElem?_eq_some_iff.1 hx5.out).1
      clear h5 D hE
      go_wp2_with fail
      refine bodyPost_ret (v := .tuple #[.agg #[.string nm, .slice A1 code.length c1, .int .i64 dA, .slice A2 data.length c2, .slice A3 ss.length c3, .slice A4 rs.length c4], .int .i64 0, .int .i64 0]) (by simp [results, Tryz.results29, go_sem, e0, e1, e2, e3, e4, e5]) rfl ?_
      unfold ReadP
      rw [hTk.out]
      refine ⟨below_set6 hbw5.out (Nat.le_refl _) _ _ _ _ _ _, Or.inr (Or.inr ⟨HG.out, HE.out, A1, A2, A3, A4, c1, c2, c3, c4, rfl, (R5.out.set6 (by omega) _ _ _ _ _ _).mono (by omega)⟩)⟩
    · have HE : Hid _ := hE
      have hEb : ((checkC nm code dA data.length ss rs).1 != 0) = true := by simpa using hE
      generalize hcE : (checkC nm code dA data.length ss rs).1 = E at *
      generalize hcN : (checkC nm code dA data.length ss rs).2 = N at *
      have hcE : Hid _ := hcE
      have hcN : Hid _ := hcN
      go_wp2_with fail
      refine (as_nil _ _).mono ?_
      rintro e w3 ⟨rfl, rfl⟩
      go_wp2_with fail
      refine D.mono ?_
      rintro e w5 ⟨rfl, h5⟩
      have hx5 : Hid (w5.heap[w.heap.size]? = some (.cells #[.string ⟨#[]⟩, .slice none 0 0, .int .i64 0, .slice none 0 0, .slice none 0 0, .slice none 0 0] 75 (0, 0))) := (h5.block w.heap.size (by simp; omega)).trans hbx3.out
      have hbw5 : Hid (Below w.heap.size w w5) := lb_trans hbw4.out h5
      obtain ⟨e0, e1, e2, e3, e4, e5⟩ := box6_cell hx5.out
      obtain ⟨f0, f1, f2, f3, f4, f5⟩ := box6_fro hx5.out
      have hz5 : w.heap.size < w5.heap.size := (Array.getElem?_eq_some_iff.1 hx5.out).1
      clear h5 D hE
      go_wp2_with fail
      refine bodyPost_ret (v := .tuple #[.agg #[.string ⟨#[]⟩, .slice none 0 0, .int .i64 0, .slice none 0 0, .slice none 0 0, .slice none 0 0], .int .i64 E, .int .i64 N]) (by simp [results, Tryz.results29, go_sem, e0, e1, e2, e3, e4, e5]) rfl ?_
      unfold ReadP
      rw [hTk.out]
      refine ⟨below_set6 hbw5.out (Nat.le_refl _) _ _ _ _ _ _, Or.inr (Or.inl ⟨HG.out, ?_, ?_⟩)⟩
      · rw [hcE.out]; exact HE.out
      · rw [hcE.out, hcN.out]
  · go_enter Tryz.func29, Tryz.ntmps29
    go_wp2_with fail
    refine C.mono ?_
    intro r w2 hr
    obtain ⟨hb2, ⟨h0, _⟩ | ⟨_, u, hu, rfl⟩⟩ := hr
    · exact absurd h0 hg
    obtain ⟨x, B1, B2, B3, B4, n1, n2, n3, n4, d1, d2, d3, d4, y, rfl⟩ := hu
    have HG : Hid _ := hg
    clear hg C
    have hbw : Hid (Below w.heap.size w w2) := but_below hb1.out hb2
    have hbx : Hid _ := but_box hb2 hbx1.out (by omega)
    have hz := (Array.getElem?_eq_some_iff.1 hbx.out).1
    generalize hE : (took b).t.bad = E at *
    generalize hP : (took b).t.place = Q at *
    have hE : Hid _ := hE
    have hP : Hid _ := hP
    have hT2 : Hid (((w2.alloc (.cells #[.string x, .slice B1 n1 d1, .int .i64 y, .slice B2 n2 d2, .slice B3 n3 d3, .slice B4 n4 d4] 75)).alloc (.cells #[.int .i64 0, .int .i64 0] 161)).cell? ⟨0, 0, none⟩ = some errT) := lkeep (lb_alloc (lb_alloc hbw.out _) _) hT
    have hbx3 : Hid (((w2.alloc (.cells #[.string x, .slice B1 n1 d1, .int .i64 y, .slice B2 n2 d2, .slice B3 n3 d3, .slice B4 n4 d4] 75)).alloc (.cells #[.int .i64 0, .int .i64 0] 161)).heap[w.heap.size]? = some (.cells #[.string ⟨#[]⟩, .slice none 0 0, .int .i64 0, .slice none 0 0, .slice none 0 0, .slice none 0 0] 75 (0, 0))) := by
      show _ = _
      rw [(lb_alloc (lb_alloc (Below.refl _ w2) _) _).block w.heap.size hz]
      exact hbx.out
    have hbx4 : Hid (((w2.alloc (.cells #[.string x, .slice B1 n1 d1, .int .i64 y, .slice B2 n2 d2, .slice B3 n3 d3, .slice B4 n4 d4] 75)).alloc (.cells #[.int .i64 0, .int .i64 0] 161)).heap[w2.heap.size + 1]? = some (.cells #[.int .i64 0, .int .i64 0] 161 (0, 0))) := by
      have := heap_alloc_new (w2.alloc (.cells #[.string x, .slice B1 n1 d1, .int .i64 y, .slice B2 n2 d2, .slice B3 n3 d3, .slice B4 n4 d4] 75)) (.cells #[.int .i64 0, .int .i64 0] 161)
      rw [show (w2.alloc (.cells #[.string x, .slice B1 n1 d1, .int .i64 y, .slice B2 n2 d2, .slice B3 n3 d3, .slice B4 n4 d4] 75)).heap.size = w2.heap.size + 1 by simp] at this
      exact this
    have hbw4 : Hid (Below w.heap.size w ((w2.alloc (.cells #[.string x, .slice B1 n1 d1, .int .i64 y, .slice B2 n2 d2, .slice B3 n3 d3, .slice B4 n4 d4] 75)).alloc (.cells #[.int .i64 0, .int .i64 0] 161))) := lb_alloc (lb_alloc hbw.out _) _
    clear hb2
    go_wp2_with fail
    refine (as_hit2 (w2.heap.size + 1) E Q (.int .i64 0) (.int .i64 0) _ hT2.out (box2_cell hbx4.out).1 (box2_cell hbx4.out).2 (box_fro hbx4.out _) (box_fro hbx4.out _)).mono ?_
    rintro e w3 ⟨rfl, t0, t1, hb3⟩
    have hbx5 := but_box hb3 hbx3.out (by omega)
    have hbw5 : Hid (Below w.heap.size w w3) := ⟨hb3.1.trans hbw4.out.os, hb3.2.1.trans hbw4.out.tape, hb3.2.2.1.trans hbw4.out.output, Nat.le_trans hbw4.out.size hb3.2.2.2.1, fun k hk => (hb3.2.2.2.2 k (Nat.lt_of_lt_of_le hk hbw4.out.size) (by omega)).trans (hbw4.out.block k hk)⟩
    obtain ⟨e0, e1, e2, e3, e4, e5⟩ := box6_cell hbx5
    obtain ⟨f0, f1, f2, f3, f4, f5⟩ := box6_fro hbx5
    have hz3 : w.heap.size < w3.heap.size := (Array.getElem?_eq_some_iff.1 hbx5).1
    clear hb3 hbx5
    go_wp2_with fail
    go_region
    all_goals go_wp2_with fail
    all_goals
      refine bodyPost_ret (v := .tuple #[.agg #[.string ⟨#[]⟩, .slice none 0 0, .int .i64 0, .slice none 0 0, .slice none 0 0, .slice none 0 0], .int .i64 E, .int .i64 Q]) (by simp [results, Tryz.results29, go_sem, e0, e1, e2, e3, e4, e5]) rfl ⟨?_, Or.inl ⟨fun h => HG.out (hE.out ▸ h), by rw [hE.out, hP.out]⟩⟩
      have hbz := hbw5.out
      repeat' (first | with_reducible assumption | with_reducible refine Below.setCell ?_ ?_ _ | with_reducible refine Below.drew ?_ | exact Nat.le_refl _)


end Go.Proofs.YthpkekpojhmaaaaGreatDoor

namespace Go.Proofs.YthpkekpojhmaaaaGreatDoor
open Go.ChangeShapes Go.WideShapes Go.RowKit

theorem etVar : Tryz.prog.globalNamed "errors.errorType" = some 0 := by kernel_rfl
theorem rtType : (Tryz.prog.cutTypes.find? (·.1 == "internal/reflectlite.rtype")).map (·.2) = some 281 := by kernel_rfl
theorem oneRow : ((List.range 341).filter fun t => Tryz.prog.rowNamed t [101, 114, 114, 111, 114]) = [154] := by kernel_rfl
theorem typeCount : Tryz.prog.types.size = 341 := by kernel_rfl
/-- The handle's one cell. -/
theorem cell_of_handle {l : List (String × DataW Unit)} {W : World} (hm : ("errors.errorType", Rows.laid_errors_errorType) ∈ l) (h : handlesMet Tryz.prog l W) : W.cell? ⟨0, 0, none⟩ = some errT := by
  obtain ⟨name, u, ty, e1, e2, e3, e4, e5⟩ := h _ hm
  have en : name = [101, 114, 114, 111, 114] := (Option.some.inj e1).symm
  subst en
  obtain rfl := Option.some.inj (rtType.symm.trans e2)
  have hm : ty ∈ (List.range 341).filter fun t => Tryz.prog.rowNamed t [101, 114, 114, 111, 114] := List.mem_filter.2 ⟨List.mem_range.2 (by rw [← typeCount]; exact e3), e4⟩
  rw [oneRow] at hm
  obtain rfl := List.mem_singleton.1 hm
  have hh : typeHandle Tryz.prog 154 = .pointer (some ⟨4, 154, none⟩) := by kernel_rfl
  rw [hh] at e5
  simpa [errT] using World.var?_cell etVar e5 0
abbrev laidR : List (String × DataW Unit) := [("errors.errorType", Rows.laid_errors_errorType)]
theorem handR {W : World} (h : laidMetH Tryz.prog laidR W) : W.cell? ⟨0, 0, none⟩ = some errT := by
  have h' : laidMet Tryz.prog [] W ∧ handlesMet Tryz.prog laidR W := h
  exact cell_of_handle (List.mem_singleton.2 rfl) h'.2
/-- A world that meets it. -/
noncomputable def handW (os : Os) : World :=
  let w0 := World.holding Tryz.prog os ⟨#[], #[], []⟩
  { w0 with heap := w0.heap.modify 0 fun
      | .cells _ t frozen => .cells #[errT] t frozen
      | o => o }
theorem handW_met (os : Os) (args : Array Value) : laidMetH Tryz.prog laidR ((handW os).forCall (fun _ _ => 0) ⟨#[], args, []⟩).memory :=
  laidMetH_of_parts (laidMet_nil _ _) (by kernel_rfl)
end Go.Proofs.YthpkekpojhmaaaaGreatDoor

namespace Go.Proofs.YthpkekpojhmaaaaGreatDoor
open Go.RowKit

/-- May a word be the last one? -/
def lastOK (w : Int) : Bool := decide (dOp w = 0 ∨ dOp w = 15 ∨ dOp w = 19 ∨ dOp w = 21)
/-- Does the word at a place have a target behind the text? -/
def farT (text : List Int) (i : Nat) : Bool := isT (nth text i) && decide ((text.length : Int) ≤ tgV (nth text i))
/-- What Check tells. -/
def checkI (text : List Int) (ml : Nat) (ent : Int) : Int × Int :=
  if text.length = 0 then (50, 0) else if 16384 < text.length then (42, 16384) else if 4096 < ml then (25, 4096) else if ent < 0 ∨ (text.length : Int) ≤ ent then (41, 0) else
  match (List.range text.length).find? (farT text) with
  | some i => (22, i)
  | none => if lastOK (nth text (text.length - 1)) then (0, 0) else (50, ((text.length - 1 : Nat) : Int))
/-- What is past the first four looks. -/
structure Past (text : List Int) (ml : Nat) (ent : Int) : Prop where
  pos : 0 < text.length
  len : text.length ≤ 16384
  mem : ml ≤ 4096
  ent0 : 0 ≤ ent
  ent1 : ent < text.length
theorem chkI_far {text : List Int} {ml : Nat} {ent : Int} {k : Nat} (h : Past text ml ent) (hk : k < text.length) (h0 : ∀ j, j < k → farT text j = false) (e : farT text k = true) : checkI text ml ent = (22, (k : Int)) := by
  have hf : (List.range text.length).find? (farT text) = some k := by
    rw [List.find?_range_eq_some]
    exact ⟨e, by simpa using hk, fun j hj => by rw [h0 j hj]; rfl⟩
  unfold checkI
  rw [if_neg (by have := h.pos; omega), if_neg (by have := h.len; omega), if_neg (by have := h.mem; omega), if_neg (by have := h.ent0; have := h.ent1; omega), hf]
theorem chkI_end {text : List Int} {ml : Nat} {ent : Int} (h : Past text ml ent) (h0 : ∀ j, j < text.length → farT text j = false) : checkI text ml ent = if lastOK (nth text (text.length - 1)) then (0, 0) else (50, ((text.length - 1 : Nat) : Int)) := by
  have hf : (List.range text.length).find? (farT text) = none := by
    rw [List.find?_eq_none]
    intro j hj
    rw [h0 j (by simpa using hj)]; simp
  unfold checkI
  rw [if_neg (by have := h.pos; omega), if_neg (by have := h.len; omega), if_neg (by have := h.mem; omega), if_neg (by have := h.ent0; have := h.ent1; omega), hf]
theorem chkI0 {text : List Int} {ml : Nat} {ent : Int} (h : text.length = 0) : checkI text ml ent = (50, 0) := by unfold checkI; rw [if_pos h]
theorem chkI1 {text : List Int} {ml : Nat} {ent : Int} (h0 : ¬ text.length = 0) (h : 16384 < text.length) : checkI text ml ent = (42, 16384) := by unfold checkI; rw [if_neg h0, if_pos h]
theorem chkI2 {text : List Int} {ml : Nat} {ent : Int} (h0 : ¬ text.length = 0) (h1 : ¬ 16384 < text.length) (h : 4096 < ml) : checkI text ml ent = (25, 4096) := by unfold checkI; rw [if_neg h0, if_neg h1, if_pos h]
theorem chkI3 {text : List Int} {ml : Nat} {ent : Int} (h0 : ¬ text.length = 0) (h1 : ¬ 16384 < text.length) (h2 : ¬ 4096 < ml) (h : ent < 0 ∨ (text.length : Int) ≤ ent) : checkI text ml ent = (41, 0) := by unfold checkI; rw [if_neg h0, if_neg h1, if_neg h2, if_pos h]
/-- An image that may be. -/
structure MayI (text : List Int) (ml : Nat) (ent : Int) : Prop where
  past : Past text ml ent
  far : ∀ j, j < text.length → farT text j = false
  last : lastOK (nth text (text.length - 1)) = true
theorem check_mayI {text : List Int} {ml : Nat} {ent : Int} (h : (checkI text ml ent).1 = 0) : MayI text ml ent := by
  by_cases h0 : text.length = 0
  · rw [chkI0 h0] at h; cases h
  by_cases h1 : 16384 < text.length
  · rw [chkI1 h0 h1] at h; cases h
  by_cases h2 : 4096 < ml
  · rw [chkI2 h0 h1 h2] at h; cases h
  by_cases h3 : ent < 0 ∨ (text.length : Int) ≤ ent
  · rw [chkI3 h0 h1 h2 h3] at h; cases h
  have hp : Past text ml ent := ⟨by omega, by omega, by omega, by omega, by omega⟩
  have hall : ∀ j, j < text.length → farT text j = false := by
    intro j
    induction j using Nat.strongRecOn with
    | ind j ih =>
      intro hj
      cases e : farT text j
      · rfl
      · rw [chkI_far hp hj (fun i hi => ih i hi (by omega)) e] at h; cases h
  refine ⟨hp, hall, ?_⟩
  rw [chkI_end hp hall] at h
  cases e : lastOK (nth text (text.length - 1))
  · rw [e] at h; cases h
  · rfl
theorem may_zero {text : List Int} {ml : Nat} {ent : Int} (h : MayI text ml ent) : checkI text ml ent = (0, 0) := by
  rw [chkI_end h.past h.far, h.last]; rfl
theorem chkI_pair {text : List Int} {ml : Nat} {ent : Int} (h : (checkI text ml ent).1 = 0) : checkI text ml ent = (0, 0) := may_zero (check_mayI h)
theorem chkI_range (text : List Int) (ml : Nat) (ent : Int) (h : text.length ≤ 1048576) : 0 ≤ (checkI text ml ent).1 ∧ (checkI text ml ent).1 ≤ 50 ∧ 0 ≤ (checkI text ml ent).2 ∧ (checkI text ml ent).2 ≤ 1048576 := by
  unfold checkI
  repeat' split
  all_goals (simp only; try omega)
  rename_i i hi
  have := List.mem_of_find?_eq_some hi
  simp at this
  omega


end Go.Proofs.YthpkekpojhmaaaaGreatDoor
