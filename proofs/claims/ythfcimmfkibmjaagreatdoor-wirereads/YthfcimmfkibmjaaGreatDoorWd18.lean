/-
  errors.As at an error that is a refusal: what becomes of the world. Read of package wire: what it answers; bytes are at most 2^20. Where the handle of the type error lies as the program's text lays it, its cell holds it; a world that meets this. Where three tables and the handle of the type error lie as the program's text lays them, the handle's cell holds it; a world that meets this.
-/
import Derived.Test.YthfcimmfkibmjaaGreatDoorProg
import Derived.WalkKit
import Derived.WalkSpells
import Derived.WalkLawsBesides
import Derived.RowKit3
import Derived.Below
import Derived.Deep.QuietTactic
import Derived.BigQuiet
import Derived.WalkSmall
import Derived.Laws.Rows
import Derived.Test.YthfcimmfkibmjaaGreatDoorWd17
import Derived.Test.YthfcimmfkibmjaaGreatDoorWd15
import Derived.Test.YthfcimmfkibmjaaGreatDoorWd16
import Derived.Test.YthfcimmfkibmjaaGreatDoorWd03
import Derived.Test.YthfcimmfkibmjaaGreatDoorRows
import Derived.Test.YthfcimmfkibmjaaGreatDoorWd01
import Derived.ChangeSame
import Derived.ChangeVars
import Derived.JoinedOf
import Derived.RowKit
import Derived.RowKitTokens
import Derived.LaidLaws
import Derived.LaidHandle
import Derived.Stop.Joined
import Derived.LaidSub
import Derived.LaidMore
namespace Go.Proofs.YthfcimmfkibmjaaGreatDoor
open Go.RowKit


theorem two_set {W : World} {tb : Nat} {u v : Value} (x y : Value) (h0 : W.cell? ⟨tb, 0, none⟩ = some u) (h1 : W.cell? ⟨tb, 1, none⟩ = some v) : ((W.setCell ⟨tb, 0, none⟩ x).setCell ⟨tb, 1, none⟩ y).cell? ⟨tb, 0, none⟩ = some x ∧ ((W.setCell ⟨tb, 0, none⟩ x).setCell ⟨tb, 1, none⟩ y).cell? ⟨tb, 1, none⟩ = some y := by
  constructor <;> simp [go_sem, h0, h1]
theorem as_hit2 (tb : Nat) (x y : Int) (u v : Value) (w : World) (hg : w.cell? ⟨0, 0, none⟩ = some (.iface 218 (.agg #[.pointer (some ⟨4, 90, none⟩)]))) (h0 : w.cell? ⟨tb, 0, none⟩ = some u) (h1 : w.cell? ⟨tb, 1, none⟩ = some v) (f0 : w.frozen? ⟨tb, 0, none⟩ = false) (f1 : w.frozen? ⟨tb, 1, none⟩ = false) :
    Calls Tryz.prog 60 #[.iface 97 (.agg #[.int .i64 x, .int .i64 y]), .iface 99 (.pointer (some ⟨tb, 0, none⟩))] w fun ev w' => ev = .returned (.bool true) ∧ w'.cell? ⟨tb, 0, none⟩ = some (.int .i64 x) ∧ w'.cell? ⟨tb, 1, none⟩ = some (.int .i64 y) ∧ But tb w w' := by
  refine (as_hit tb x y u v w hg h0 h1 f0 f1).mono ?_
  rintro e w' ⟨rfl, rfl⟩
  have k0 := alloc_keep (alloc_keep (alloc_keep (alloc_keep h0 (.cells #[.pointer (some ⟨tb, 0, none⟩)] 99)) (.cells #[.pointer (some ⟨4, 99, none⟩), .pointer (some ⟨w.heap.size, 0, none⟩), .int .u64 150] 181)) (.cells #[.pointer (some ⟨4, 99, none⟩), .pointer (some ⟨w.heap.size, 0, none⟩), .int .u64 150] 181)) (.cells #[.int .i64 x, .int .i64 y] 97)
  have k1 := alloc_keep (alloc_keep (alloc_keep (alloc_keep h1 (.cells #[.pointer (some ⟨tb, 0, none⟩)] 99)) (.cells #[.pointer (some ⟨4, 99, none⟩), .pointer (some ⟨w.heap.size, 0, none⟩), .int .u64 150] 181)) (.cells #[.pointer (some ⟨4, 99, none⟩), .pointer (some ⟨w.heap.size, 0, none⟩), .int .u64 150] 181)) (.cells #[.int .i64 x, .int .i64 y] 97)
  obtain ⟨q0, q1⟩ := two_set (.int .i64 x) (.int .i64 y) k0 k1
  refine ⟨rfl, q0, q1, ?_⟩
  exact ((But.of (lb_alloc (lb_alloc (lb_alloc (lb_alloc (Below.refl _ _) _) _) _) _)).set 0 _).set 1 _

end Go.Proofs.YthfcimmfkibmjaaGreatDoor

namespace Go.Proofs.YthfcimmfkibmjaaGreatDoor
open Go.RowKit


/-- What Read answers. -/
def ReadP (b : List Int) (w : World) (r : Ending) (w' : World) : Prop :=
  Below w.heap.size w w' ∧ ((¬ (took b).t.bad = 0 ∧ r = .returned (.tuple #[.agg #[.string ⟨#[]⟩, .slice none 0 0, .int .i64 0, .slice none 0 0, .slice none 0 0, .slice none 0 0], .int .i64 (took b).t.bad, .int .i64 (took b).t.place])) ∨
    ((took b).t.bad = 0 ∧ ¬ (checkC (took b).nm (took b).code (took b).dA (took b).data.length (took b).ss (took b).rs).1 = 0 ∧ r = .returned (.tuple #[.agg #[.string ⟨#[]⟩, .slice none 0 0, .int .i64 0, .slice none 0 0, .slice none 0 0, .slice none 0 0], .int .i64 (checkC (took b).nm (took b).code (took b).dA (took b).data.length (took b).ss (took b).rs).1, .int .i64 (checkC (took b).nm (took b).code (took b).dA (took b).data.length (took b).ss (took b).rs).2])) ∨
    ((took b).t.bad = 0 ∧ (checkC (took b).nm (took b).code (took b).dA (took b).data.length (took b).ss (took b).rs).1 = 0 ∧ ∃ (A1 A2 A3 A4 : Option Addr) (c1 c2 c3 c4 : Nat), r = .returned (.tuple #[.agg #[.string (took b).nm, .slice A1 (took b).code.length c1, .int .i64 (took b).dA, .slice A2 (took b).data.length c2, .slice A3 (took b).ss.length c3, .slice A4 (took b).rs.length c4], .int .i64 0, .int .i64 0]) ∧ RowsO w' w.heap.size A1 A2 A3 A4 c1 c2 c3 c4 (took b).code (took b).data (took b).ss (took b).rs))
/-- The handle of the type error. -/
def errT : Value := .iface 218 (.agg #[.pointer (some ⟨4, 90, none⟩)])
theorem below_drew {n : Nat} {w w1 : World} (h : Below n w w1) (k : Nat := 0) : Below n w (w1.drewN k) := ⟨h.os, h.tape, h.output, h.size, h.block⟩
theorem in_start (w : World) (A : Option Addr) (c : Nat) (b : List Int) (hB : IntsAt w A .u8 b) (hA : AreB b) (hN : b.length ≤ 1048576) (hc : b.length ≤ c) :
    InBy w (w.heap.size + 1) A c b 0 ((w.alloc (.cells #[.string ⟨#[]⟩, .slice none 0 0, .int .i64 0, .slice none 0 0, .slice none 0 0, .slice none 0 0] 27)).alloc (.cells #[.slice A b.length c, .int .i64 0] 94)) := by
  refine ⟨?_, hB, lb_alloc (lb_alloc (Below.refl _ _) _) _, by omega, hA, hN, hc, Nat.zero_le _⟩
  have := heap_alloc_new (w.alloc (.cells #[.string ⟨#[]⟩, .slice none 0 0, .int .i64 0, .slice none 0 0, .slice none 0 0, .slice none 0 0] 27)) (.cells #[.slice A b.length c, .int .i64 0] 94)
  rw [show (w.alloc (.cells #[.string ⟨#[]⟩, .slice none 0 0, .int .i64 0, .slice none 0 0, .slice none 0 0, .slice none 0 0] 27)).heap.size = w.heap.size + 1 by simp] at this
  exact this
theorem but_below {w w1 w2 : World} (hb : Below w.heap.size w w1) (h : But (w.heap.size + 1) w1 w2) : Below w.heap.size w w2 :=
  ⟨h.1.trans hb.os, h.2.1.trans hb.tape, h.2.2.1.trans hb.output, Nat.le_trans hb.size h.2.2.2.1, fun k hk => (h.2.2.2.2 k (Nat.lt_of_lt_of_le hk hb.size) (by omega)).trans (hb.block k hk)⟩
set_option maxRecDepth 100000 in
set_option maxHeartbeats 2000000 in
theorem read_any (A : Option Addr) (c : Nat) (b : List Int) (w : World) (hB : IntsAt w A .u8 b) (hA : AreB b) (hN : b.length ≤ 1048576) (hc : b.length ≤ c) (hT : w.cell? ⟨0, 0, none⟩ = some errT) :
    Calls Tryz.prog 17 #[.slice A b.length c] w (ReadP b w) := by
  have C := robject_any w _ A c b _ (in_start w A c b hB hA hN hc)
  have hb1 : Hid (Below w.heap.size w ((w.alloc (.cells #[.string ⟨#[]⟩, .slice none 0 0, .int .i64 0, .slice none 0 0, .slice none 0 0, .slice none 0 0] 27)).alloc (.cells #[.slice A b.length c, .int .i64 0] 94))) := lb_alloc (lb_alloc (Below.refl _ _) _) _
  have hbx1 : Hid (((w.alloc (.cells #[.string ⟨#[]⟩, .slice none 0 0, .int .i64 0, .slice none 0 0, .slice none 0 0, .slice none 0 0] 27)).alloc (.cells #[.slice A b.length c, .int .i64 0] 94)).heap[w.heap.size]? = some (.cells #[.string ⟨#[]⟩, .slice none 0 0, .int .i64 0, .slice none 0 0, .slice none 0 0, .slice none 0 0] 27 (0, 0))) := by
    show _ = _
    rw [(lb_alloc (Below.refl _ (w.alloc (.cells #[.string ⟨#[]⟩, .slice none 0 0, .int .i64 0, .slice none 0 0, .slice none 0 0, .slice none 0 0] 27))) _).block w.heap.size (by simp)]
    exact heap_alloc_new _ _
  by_cases hg : (took b).t.bad = 0
  · have HG : Hid _ := hg
    clear hg
    go_enter Tryz.func17, Tryz.ntmps17
    go_wp2_with fail
    refine C.mono ?_
    intro r w2 hr
    obtain ⟨hb2, ⟨_, A1, A2, A3, A4, c1, c2, c3, c4, rfl, rows⟩ | ⟨h0, _⟩⟩ := hr
    case inr => exact absurd HG.out h0
    clear C
    have hKK : Hid _ := took_write hA HG.out
    have hbw : Hid (Below w.heap.size w w2) := but_below hb1.out hb2
    have hbx : Hid _ := but_box hb2 hbx1.out (by omega)
    have hz := (Array.getElem?_eq_some_iff.1 hbx.out).1
    generalize hTk : took b = T at *
    obtain ⟨nm, code, dA, data, ss, rs, tk⟩ := T
    obtain ⟨_, k1, k2, k3, k4, k5, k6, k7, k8, k9, k10⟩ := hKK.out
    have hgr : great = 2147483647 := rfl
    rw [hgr] at k4
    simp only at rows k1 k2 k3 k4 k5 k6 k7 k8 k9 k10 ⊢
    have hTk : Hid (took b = ⟨nm, code, dA, data, ss, rs, tk⟩) := hTk
    have hB4 : Hid (Below w2.heap.size w2 ((w2.alloc (.cells #[.string nm, .slice A1 code.length c1, .int .i64 dA, .slice A2 data.length c2, .slice A3 ss.length c3, .slice A4 rs.length c4] 27)).alloc (.cells #[.int .i64 0, .int .i64 0] 97))) := lb_alloc (lb_alloc (Below.refl _ _) _) _
    have hbw4 : Hid (Below w.heap.size w ((w2.alloc (.cells #[.string nm, .slice A1 code.length c1, .int .i64 dA, .slice A2 data.length c2, .slice A3 ss.length c3, .slice A4 rs.length c4] 27)).alloc (.cells #[.int .i64 0, .int .i64 0] 97))) := lb_alloc (lb_alloc hbw.out _) _
    have hbx3 : Hid (((w2.alloc (.cells #[.string nm, .slice A1 code.length c1, .int .i64 dA, .slice A2 data.length c2, .slice A3 ss.length c3, .slice A4 rs.length c4] 27)).alloc (.cells #[.int .i64 0, .int .i64 0] 97)).heap[w.heap.size]? = some (.cells #[.string ⟨#[]⟩, .slice none 0 0, .int .i64 0, .slice none 0 0, .slice none 0 0, .slice none 0 0] 27 (0, 0))) := by
      show _ = _
      rw [hB4.out.block w.heap.size hz]
      exact hbx.out
    have hbx4 : Hid (((w2.alloc (.cells #[.string nm, .slice A1 code.length c1, .int .i64 dA, .slice A2 data.length c2, .slice A3 ss.length c3, .slice A4 rs.length c4] 27)).alloc (.cells #[.int .i64 0, .int .i64 0] 97)).heap[w2.heap.size]? = some (.cells #[.string nm, .slice A1 code.length c1, .int .i64 dA, .slice A2 data.length c2, .slice A3 ss.length c3, .slice A4 rs.length c4] 27 (0, 0))) := by
      show _ = _
      rw [(lb_alloc (Below.refl _ (w2.alloc (.cells #[.string nm, .slice A1 code.length c1, .int .i64 dA, .slice A2 data.length c2, .slice A3 ss.length c3, .slice A4 rs.length c4] 27))) _).block w2.heap.size (by simp)]
      exact heap_alloc_new _ _
    have R4 : Hid (RowsO ((w2.alloc (.cells #[.string nm, .slice A1 code.length c1, .int .i64 dA, .slice A2 data.length c2, .slice A3 ss.length c3, .slice A4 rs.length c4] 27)).alloc (.cells #[.int .i64 0, .int .i64 0] 97)) (w.heap.size + 2) A1 A2 A3 A4 c1 c2 c3 c4 code data ss rs) := by
      have := rows.keep hB4.out
      exact RowsO.mono this (by simp)
    have D := objcheck_any nm dA A1 A2 A3 A4 c1 data.length c2 c3 c4 code ss rs _ (row_ints R4.out.r1) (row_syms R4.out.r3) (row_rels R4.out.r4) (fun i hi => k3 _ (by simp [nth, List.getD, hi])) (by omega) (by omega) (by omega) (by omega) (fun i => by
      by_cases hi : i < ss.length
      · have := (k8 (ss.getD i symD) (by simp [List.getD, hi])).1
        show (ss.getD i symD).1.size ≤ _
        omega
      · have e : sName ss i = ⟨#[]⟩ := by simp [sName, List.getD, hi, symD]
        rw [e]
        show (0 : Nat) ≤ _
        omega) ⟨by omega, by omega⟩
    clear hb2 rows k1 k2 k3 k4 k5 k6 k7 k8 k9 k10 hKK hgr
    by_cases hE : (checkC nm code dA data.length ss rs).1 = 0
    · have HE : Hid _ := hE
      rw [hE] at D
      go_wp2_with fail
      refine (as_nil _ _).mono ?_
      rintro e w3 ⟨rfl, rfl⟩
      go_wp2_with fail
      refine D.mono ?_
      rintro e w5 ⟨rfl, h5⟩
      have hx5 : Hid (w5.heap[w.heap.size]? = some (.cells #[.string ⟨#[]⟩, .slice none 0 0, .int .i64 0, .slice none 0 0, .slice none 0 0, .slice none 0 0] 27 (0, 0))) := (h5.block w.heap.size (by simp; omega)).trans hbx3.out
      have hy5 : Hid (w5.heap[w2.heap.size]? = some (.cells #[.string nm, .slice A1 code.length c1, .int .i64 dA, .slice A2 data.length c2, .slice A3 ss.length c3, .slice A4 rs.length c4] 27 (0, 0))) := (h5.block w2.heap.size (by simp; omega)).trans hbx4.out
      have hbw5 : Hid (Below w.heap.size w w5) := lb_trans hbw4.out h5
      have R5 : Hid (RowsO w5 (w.heap.size + 2) A1 A2 A3 A4 c1 c2 c3 c4 code data ss rs) := R4.out.keep h5
      obtain ⟨e0, e1, e2, e3, e4, e5⟩ := box6_cell hx5.out
      obtain ⟨f0, f1, f2, f3, f4, f5⟩ := box6_fro hx5.out
      obtain ⟨g0, g1, g2, g3, g4, g5⟩ := box6_cell hy5.out
      have hz5 : w.heap.size < w5.heap.size := (Array.getElem?_eq_some_iff.1 hx5.out).1
      clear h5 D hE
      go_wp2_with fail
      refine bodyPost_ret (v := .tuple #[.agg #[.string nm, .slice A1 code.length c1, .int .i64 dA, .slice A2 data.length c2, .slice A3 ss.length c3, .slice A4 rs.length c4], .int .i64 0, .int .i64 0]) (by simp [results, Tryz.results17, go_sem, e0, e1, e2, e3, e4, e5]) rfl ?_
      unfold ReadP
      rw [hTk.out]
      refine ⟨below_set6 hbw5.out (Nat.le_refl _) _ _ _ _ _ _, Or.inr (Or.inr ⟨HG.out, HE.out, A1, A2, A3, A4, c1, c2, c3, c4, rfl, (R5.out.set6 (by omega) _ _ _ _ _ _).mono (by omega)⟩)⟩
    · have HE : Hid _ := hE
      have hEb : ((checkC nm code dA data.length ss rs).1 != 0) = true := by simpa using hE
      generalize hcE : (checkC nm code dA data.length ss rs).1 = E at *
      generalize hcN : (checkC nm code dA data.length ss rs).2 = N at *
      have hcE : Hid _ := hcE
      have hcN : Hid _ := hcN
      go_wp2_with fail
      refine (as_nil _ _).mono ?_
      rintro e w3 ⟨rfl, rfl⟩
      go_wp2_with fail
      refine D.mono ?_
      rintro e w5 ⟨rfl, h5⟩
      have hx5 : Hid (w5.heap[w.heap.size]? = some (.cells #[.string ⟨#[]⟩, .slice none 0 0, .int .i64 0, .slice none 0 0, .slice none 0 0, .slice none 0 0] 27 (0, 0))) := (h5.block w.heap.size (by simp; omega)).trans hbx3.out
      have hbw5 : Hid (Below w.heap.size w w5) := lb_trans hbw4.out h5
      obtain ⟨e0, e1, e2, e3, e4, e5⟩ := box6_cell hx5.out
      obtain ⟨f0, f1, f2, f3, f4, f5⟩ := box6_fro hx5.out
      have hz5 : w.heap.size < w5.heap.size := (Array.getElem?_eq_some_iff.1 hx5.out).1
      clear h5 D hE
      go_wp2_with fail
      refine bodyPost_ret (v := .tuple #[.agg #[.string ⟨#[]⟩, .slice none 0 0, .int .i64 0, .slice none 0 0, .slice none 0 0, .slice none 0 0], .int .i64 E, .int .i64 N]) (by simp [results, Tryz.results17, go_sem, e0, e1, e2, e3, e4, e5]) rfl ?_
      unfold ReadP
      rw [hTk.out]
      refine ⟨below_set6 hbw5.out (Nat.le_refl _) _ _ _ _ _ _, Or.inr (Or.inl ⟨HG.out, ?_, ?_⟩)⟩
      · rw [hcE.out]; exact HE.out
      · rw [hcE.out, hcN.out]
  · go_enter Tryz.func17, Tryz.ntmps17
    go_wp2_with fail
    refine C.mono ?_
    intro r w2 hr
    obtain ⟨hb2, ⟨h0, _⟩ | ⟨_, u, hu, rfl⟩⟩ := hr
    · exact absurd h0 hg
    obtain ⟨x, B1, B2, B3, B4, n1, n2, n3, n4, d1, d2, d3, d4, y, rfl⟩ := hu
    have HG : Hid _ := hg
    clear hg C
    have hbw : Hid (Below w.heap.size w w2) := but_below hb1.out hb2
    have hbx : Hid _ := but_box hb2 hbx1.out (by omega)
    have hz := (Array.getElem?_eq_some_iff.1 hbx.out).1
    generalize hE : (took b).t.bad = E at *
    generalize hP : (took b).t.place = Q at *
    have hE : Hid _ := hE
    have hP : Hid _ := hP
    have hT2 : Hid (((w2.alloc (.cells #[.string x, .slice B1 n1 d1, .int .i64 y, .slice B2 n2 d2, .slice B3 n3 d3, .slice B4 n4 d4] 27)).alloc (.cells #[.int .i64 0, .int .i64 0] 97)).cell? ⟨0, 0, none⟩ = some errT) := lkeep (lb_alloc (lb_alloc hbw.out _) _) hT
    have hbx3 : Hid (((w2.alloc (.cells #[.string x, .slice B1 n1 d1, .int .i64 y, .slice B2 n2 d2, .slice B3 n3 d3, .slice B4 n4 d4] 27)).alloc (.cells #[.int .i64 0, .int .i64 0] 97)).heap[w.heap.size]? = some (.cells #[.string ⟨#[]⟩, .slice none 0 0, .int .i64 0, .slice none 0 0, .slice none 0 0, .slice none 0 0] 27 (0, 0))) := by
      show _ = _
      rw [(lb_alloc (lb_alloc (Below.refl _ w2) _) _).block w.heap.size hz]
      exact hbx.out
    have hbx4 : Hid (((w2.alloc (.cells #[.string x, .slice B1 n1 d1, .int .i64 y, .slice B2 n2 d2, .slice B3 n3 d3, .slice B4 n4 d4] 27)).alloc (.cells #[.int .i64 0, .int .i64 0] 97)).heap[w2.heap.size + 1]? = some (.cells #[.int .i64 0, .int .i64 0] 97 (0, 0))) := by
      have := heap_alloc_new (w2.alloc (.cells #[.string x, .slice B1 n1 d1, .int .i64 y, .slice B2 n2 d2, .slice B3 n3 d3, .slice B4 n4 d4] 27)) (.cells #[.int .i64 0, .int .i64 0] 97)
      rw [show (w2.alloc (.cells #[.string x, .slice B1 n1 d1, .int .i64 y, .slice B2 n2 d2, .slice B3 n3 d3, .slice B4 n4 d4] 27)).heap.size = w2.heap.size + 1 by simp] at this
      exact this
    have hbw4 : Hid (Below w.heap.size w ((w2.alloc (.cells #[.string x, .slice B1 n1 d1, .int .i64 y, .slice B2 n2 d2, .slice B3 n3 d3, .slice B4 n4 d4] 27)).alloc (.cells #[.int .i64 0, .int .i64 0] 97))) := lb_alloc (lb_alloc hbw.out _) _
    clear hb2
    go_wp2_with fail
    refine (as_hit2 (w2.heap.size + 1) E Q (.int .i64 0) (.int .i64 0) _ hT2.out (box2_cell hbx4.out).1 (box2_cell hbx4.out).2 (box_fro hbx4.out _) (box_fro hbx4.out _)).mono ?_
    rintro e w3 ⟨rfl, t0, t1, hb3⟩
    have hbx5 := but_box hb3 hbx3.out (by omega)
    have hbw5 : Hid (Below w.heap.size w w3) := ⟨hb3.1.trans hbw4.out.os, hb3.2.1.trans hbw4.out.tape, hb3.2.2.1.trans hbw4.out.output, Nat.le_trans hbw4.out.size hb3.2.2.2.1, fun k hk => (hb3.2.2.2.2 k (Nat.lt_of_lt_of_le hk hbw4.out.size) (by omega)).trans (hbw4.out.block k hk)⟩
    obtain ⟨e0, e1, e2, e3, e4, e5⟩ := box6_cell hbx5
    obtain ⟨f0, f1, f2, f3, f4, f5⟩ := box6_fro hbx5
    have hz3 : w.heap.size < w3.heap.size := (Array.getElem?_eq_some_iff.1 hbx5).1
    clear hb3 hbx5
    go_wp2_with fail
    go_region
    all_goals go_wp2_with fail
    all_goals
      refine bodyPost_ret (v := .tuple #[.agg #[.string ⟨#[]⟩, .slice none 0 0, .int .i64 0, .slice none 0 0, .slice none 0 0, .slice none 0 0], .int .i64 E, .int .i64 Q]) (by simp [results, Tryz.results17, go_sem, e0, e1, e2, e3, e4, e5]) rfl ⟨?_, Or.inl ⟨fun h => HG.out (hE.out ▸ h), by rw [hE.out, hP.out]⟩⟩
      have hbz := hbw5.out
      repeat' (first | with_reducible assumption | with_reducible refine Below.setCell ?_ ?_ _ | with_reducible refine Below.drew ?_ | exact Nat.le_refl _)

end Go.Proofs.YthfcimmfkibmjaaGreatDoor

namespace Go.Proofs.YthfcimmfkibmjaaGreatDoor
open Go.ChangeShapes Go.WideShapes Go.RowKit

theorem etVar : Tryz.prog.globalNamed "errors.errorType" = some 0 := by kernel_rfl
theorem rtType : (Tryz.prog.cutTypes.find? (·.1 == "internal/reflectlite.rtype")).map (·.2) = some 218 := by kernel_rfl
theorem oneRow : ((List.range 291).filter fun t => Tryz.prog.rowNamed t [101, 114, 114, 111, 114]) = [90] := by kernel_rfl
theorem typeCount : Tryz.prog.types.size = 291 := by kernel_rfl
/-- The handle's one cell. -/
theorem cell_of_handle {l : List (String × DataW Unit)} {W : World} (hm : ("errors.errorType", Rows.laid_errors_errorType) ∈ l) (h : handlesMet Tryz.prog l W) : W.cell? ⟨0, 0, none⟩ = some errT := by
  obtain ⟨name, u, ty, e1, e2, e3, e4, e5⟩ := h _ hm
  have en : name = [101, 114, 114, 111, 114] := (Option.some.inj e1).symm
  subst en
  obtain rfl := Option.some.inj (rtType.symm.trans e2)
  have hm : ty ∈ (List.range 291).filter fun t => Tryz.prog.rowNamed t [101, 114, 114, 111, 114] := List.mem_filter.2 ⟨List.mem_range.2 (by rw [← typeCount]; exact e3), e4⟩
  rw [oneRow] at hm
  obtain rfl := List.mem_singleton.1 hm
  have hh : typeHandle Tryz.prog 90 = .pointer (some ⟨4, 90, none⟩) := by kernel_rfl
  rw [hh] at e5
  simpa [errT] using World.var?_cell etVar e5 0
abbrev laidR : List (String × DataW Unit) := [("errors.errorType", Rows.laid_errors_errorType)]
theorem handR {W : World} (h : laidMetH Tryz.prog laidR W) : W.cell? ⟨0, 0, none⟩ = some errT := by
  have h' : laidMet Tryz.prog [] W ∧ handlesMet Tryz.prog laidR W := h
  exact cell_of_handle (List.mem_singleton.2 rfl) h'.2
/-- A world that meets it. -/
noncomputable def handW (os : Os) : World :=
  let w0 := World.holding Tryz.prog os ⟨#[], #[], []⟩
  { w0 with heap := w0.heap.modify 0 fun
      | .cells _ t frozen => .cells #[errT] t frozen
      | o => o }
theorem handW_met (os : Os) (args : Array Value) : laidMetH Tryz.prog laidR ((handW os).forCall (fun _ _ => 0) ⟨#[], args, []⟩).memory :=
  laidMetH_of_parts (laidMet_nil _ _) (by kernel_rfl)
end Go.Proofs.YthfcimmfkibmjaaGreatDoor

namespace Go.Proofs.YthfcimmfkibmjaaGreatDoor
open Go.ChangeShapes Go.WideShapes Go.RowKit

/-- What is listed. -/
abbrev laid4 : List (String × DataW Unit) := Rows.wireWritesRow.laid
theorem hand4 {W : World} (h : laidMetH Tryz.prog laid4 W) : W.cell? ⟨0, 0, none⟩ = some errT :=
  cell_of_handle (List.mem_filter.2 ⟨List.mem_cons_of_mem _ (List.mem_cons_of_mem _ (List.mem_cons_of_mem _ (List.mem_singleton.2 rfl))), rfl⟩) (laidMetH_iff.1 h).2
/-- The heap that the door's own run leaves meets the condition. -/
theorem door4_met (os : Os) (args : Array Value) : laidMetH Tryz.prog laid4 ((World.doorLaid Tryz.prog 31 os).forCall (fun _ _ => 0) ⟨#[], args, []⟩).memory :=
  laidMetH_of_parts3 (fuel := 8) (laidMet_of_run' 8 (by kernel_rfl) (by kernel_rfl)) (by kernel_rfl) (by kernel_rfl)
end Go.Proofs.YthfcimmfkibmjaaGreatDoor
