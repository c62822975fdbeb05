/-
  The lists of an object, put into a bag. The law on bytes as an object, whatever they are. An object that came in, opened: its name, its lists, where they lie; no condition.
-/
import Derived.Test.YthfcimmfkibmjaaGreatDoorProg
import Derived.WalkKit
import Derived.WalkSpells
import Derived.WalkLawsBesides
import Derived.RowKit3
import Derived.Below
import Derived.Deep.QuietTactic
import Derived.BigQuiet
import Derived.WalkSmall
import Derived.Laws.Rows
import Derived.Test.YthfcimmfkibmjaaGreatDoorWd28
import Derived.Test.YthfcimmfkibmjaaGreatDoorWd24
import Derived.Test.YthfcimmfkibmjaaGreatDoorWd26
import Derived.Test.YthfcimmfkibmjaaGreatDoorWd27
import Derived.Test.YthfcimmfkibmjaaGreatDoorWd29
import Derived.Test.YthfcimmfkibmjaaGreatDoorWd19
import Derived.Test.YthfcimmfkibmjaaGreatDoorWd20
import Derived.Test.YthfcimmfkibmjaaGreatDoorWd23
import Derived.Test.YthfcimmfkibmjaaGreatDoorWd01
import Derived.Test.YthfcimmfkibmjaaGreatDoorRows
import Derived.ProofKit
import Derived.OpenShut
import Derived.Stop.Joined
import Derived.Carry
import Derived.Lib.SmallJoins
import Derived.Deep.SlicePairs
import Derived.Deep.Strs
import Derived.SizedLaws
namespace Go.Proofs.YthfcimmfkibmjaaGreatDoor
open Go.RowKit


/-- What an added list leaves of a row of another kind. -/
theorem added_row {n B K : Nat} {TS : TypeId} {f : Nat → Value} {l : List Value} {v : Value} {w w' : World} {r : Ending} (h : Added n B K TS f l v w r w') (hb : BagIs w B f) (hK : w.ownsRow n TS 1 (f K) l.length l) {base : Nat} {e : TypeId} {size : Nat} {u : Value} {m : Nat} {xs : List Value} (hu : w.ownsRow base e size u m xs) (he : e ≠ TS) (h56 : e ≠ 56) : w'.ownsRow base e size u m xs := by
  obtain ⟨-, V, -, -, -, h4⟩ := h
  refine own_same hu fun b hub => h4 b (own_lt hu hub) (fun e2 => hb.off hu h56 (e2 ▸ hub)) fun e2 => ?_
  obtain ⟨c1, q1⟩ := own_block hu hub
  obtain ⟨c2, q2⟩ := own_block hK e2
  rw [q1] at q2
  simp only [Option.some.injEq, Obj.cells.injEq] at q2
  exact he q2.2.1
theorem added_box {n B K : Nat} {TS : TypeId} {f : Nat → Value} {l : List Value} {v : Value} {w w' : World} {r : Ending} (h : Added n B K TS f l v w r w') (hb : BagIs w B f) (hK : w.ownsRow n TS 1 (f K) l.length l) {p : Nat} {cs : Array Value} {t : TypeId} (hp : w.heap[p]? = some (.cells cs t (0, 0))) (he : t ≠ TS) (h56 : t ≠ 56) : w'.heap[p]? = some (.cells cs t (0, 0)) := by
  obtain ⟨-, V, -, -, -, h4⟩ := h
  rw [h4 p (Array.getElem?_eq_some_iff.1 hp).1 (fun e2 => ?_) (fun e2 => ?_)]
  · exact hp
  · obtain ⟨c, q, -⟩ := hb
    subst e2
    rw [hp] at q
    simp only [Option.some.injEq, Obj.cells.injEq] at q
    exact h56 q.2.1
  · obtain ⟨c2, q2⟩ := own_block hK e2
    rw [hp] at q2
    simp only [Option.some.injEq, Obj.cells.injEq] at q2
    exact he q2.2.1
/-- A bag with lists of four kinds. -/
structure Bag4 (n B : Nat) (f : Nat → Value) (w : World) (l4 l5 l8 l9 : List Value) : Prop where
  bag : BagIs w B f
  r4 : w.ownsRow n 23 1 (f 4) l4.length l4
  r5 : w.ownsRow n 22 1 (f 5) l5.length l5
  r8 : w.ownsRow n 24 1 (f 8) l8.length l8
  r9 : w.ownsRow n 25 1 (f 9) l9.length l9
theorem Bag4.alloc {n B : Nat} {f : Nat → Value} {w : World} {l4 l5 l8 l9 : List Value} (h : Bag4 n B f w l4 l5 l8 l9) (o : Obj) : Bag4 n B f (w.alloc o) l4 l5 l8 l9 :=
  ⟨h.bag.keep (Below.heap_alloc w o B h.bag.lt), h.r4.alloc o, h.r5.alloc o, h.r8.alloc o, h.r9.alloc o⟩
theorem Bag4.words {n B : Nat} {f : Nat → Value} {w w' : World} {l4 l5 l8 l9 : List Value} {v : Value} {r : Ending} (h : Bag4 n B f w l4 l5 l8 l9) (hr : Added n B 5 22 f l5 v w r w') : ∃ V, r = .returned (.tuple #[]) ∧ Bag4 n B (upd f 5 V) w' l4 (l5 ++ [v]) l8 l9 ∧ Below n w w' := by
  obtain ⟨rfl, V, hg, ho, hbl, hbo⟩ := hr
  exact ⟨V, rfl, ⟨hg, added_row ⟨rfl, V, hg, ho, hbl, hbo⟩ h.bag h.r5 h.r4 (by decide) (by decide), by rw [List.length_append]; exact ho, added_row ⟨rfl, V, hg, ho, hbl, hbo⟩ h.bag h.r5 h.r8 (by decide) (by decide), added_row ⟨rfl, V, hg, ho, hbl, hbo⟩ h.bag h.r5 h.r9 (by decide) (by decide)⟩, hbl⟩
theorem Bag4.longs {n B : Nat} {f : Nat → Value} {w w' : World} {l4 l5 l8 l9 : List Value} {v : Value} {r : Ending} (h : Bag4 n B f w l4 l5 l8 l9) (hr : Added n B 4 23 f l4 v w r w') : ∃ V, r = .returned (.tuple #[]) ∧ Bag4 n B (upd f 4 V) w' (l4 ++ [v]) l5 l8 l9 ∧ Below n w w' := by
  obtain ⟨rfl, V, hg, ho, hbl, hbo⟩ := hr
  exact ⟨V, rfl, ⟨hg, by rw [List.length_append]; exact ho, added_row ⟨rfl, V, hg, ho, hbl, hbo⟩ h.bag h.r4 h.r5 (by decide) (by decide), added_row ⟨rfl, V, hg, ho, hbl, hbo⟩ h.bag h.r4 h.r8 (by decide) (by decide), added_row ⟨rfl, V, hg, ho, hbl, hbo⟩ h.bag h.r4 h.r9 (by decide) (by decide)⟩, hbl⟩
theorem Bag4.syms {n B : Nat} {f : Nat → Value} {w w' : World} {l4 l5 l8 l9 : List Value} {v : Value} {r : Ending} (h : Bag4 n B f w l4 l5 l8 l9) (hr : Added n B 8 24 f l8 v w r w') : ∃ V, r = .returned (.tuple #[]) ∧ Bag4 n B (upd f 8 V) w' l4 l5 (l8 ++ [v]) l9 ∧ Below n w w' := by
  obtain ⟨rfl, V, hg, ho, hbl, hbo⟩ := hr
  exact ⟨V, rfl, ⟨hg, added_row ⟨rfl, V, hg, ho, hbl, hbo⟩ h.bag h.r8 h.r4 (by decide) (by decide), added_row ⟨rfl, V, hg, ho, hbl, hbo⟩ h.bag h.r8 h.r5 (by decide) (by decide), by rw [List.length_append]; exact ho, added_row ⟨rfl, V, hg, ho, hbl, hbo⟩ h.bag h.r8 h.r9 (by decide) (by decide)⟩, hbl⟩
theorem Bag4.rels {n B : Nat} {f : Nat → Value} {w w' : World} {l4 l5 l8 l9 : List Value} {v : Value} {r : Ending} (h : Bag4 n B f w l4 l5 l8 l9) (hr : Added n B 9 25 f l9 v w r w') : ∃ V, r = .returned (.tuple #[]) ∧ Bag4 n B (upd f 9 V) w' l4 l5 l8 (l9 ++ [v]) ∧ Below n w w' := by
  obtain ⟨rfl, V, hg, ho, hbl, hbo⟩ := hr
  exact ⟨V, rfl, ⟨hg, added_row ⟨rfl, V, hg, ho, hbl, hbo⟩ h.bag h.r9 h.r4 (by decide) (by decide), added_row ⟨rfl, V, hg, ho, hbl, hbo⟩ h.bag h.r9 h.r5 (by decide) (by decide), added_row ⟨rfl, V, hg, ho, hbl, hbo⟩ h.bag h.r9 h.r8 (by decide) (by decide), by rw [List.length_append]; exact ho⟩, hbl⟩
/-- The lists of an object were put into a bag. -/
def AddedO (n B : Nat) (f : Nat → Value) (l4 l5 l8 l9 : List Value) (v4 v5 v8 v9 : Value) (w : World) (r : Ending) (w' : World) : Prop :=
  r = .returned (.tuple #[]) ∧ ∃ f', Bag4 n B f' w' (l4 ++ [v4]) (l5 ++ [v5]) (l8 ++ [v8]) (l9 ++ [v9]) ∧ (∀ k, k ≠ 4 → k ≠ 5 → k ≠ 8 → k ≠ 9 → f' k = f k) ∧ Below n w w'
set_option maxRecDepth 100000 in
set_option maxHeartbeats 1000000 in
theorem addobj_any (n B : Nat) (f : Nat → Value) (l4 l5 l8 l9 : List Value) (nm : ByteArray) (dA : Int) (A1 A2 A3 A4 : Option Addr) (n1 n2 n3 n4 c1 c2 c3 c4 : Nat) (w : World) (hn : n ≤ B) (hb : Bag4 n B f w l4 l5 l8 l9) (e4 : l4.length < 300) (e5 : l5.length < 300) (e8 : l8.length < 300) (e9 : l9.length < 300) :
    Calls Tryz.prog 20 #[.pointer (some ⟨B, 0, none⟩), .agg #[.string nm, .slice A1 n1 c1, .int .i64 dA, .slice A2 n2 c2, .slice A3 n3 c3, .slice A4 n4 c4]] w (AddedO n B f l4 l5 l8 l9 (.slice A2 n2 c2) (.slice A1 n1 c1) (.slice A3 n3 c3) (.slice A4 n4 c4) w) := by
  have hlt := hb.bag.lt
  have hba : Hid _ := hb.alloc (.cells #[.string nm, .slice A1 n1 c1, .int .i64 dA, .slice A2 n2 c2, .slice A3 n3 c3, .slice A4 n4 c4] 27)
  have hbx : Hid ((w.alloc (.cells #[.string nm, .slice A1 n1 c1, .int .i64 dA, .slice A2 n2 c2, .slice A3 n3 c3, .slice A4 n4 c4] 27)).heap[w.heap.size]? = some (.cells #[.string nm, .slice A1 n1 c1, .int .i64 dA, .slice A2 n2 c2, .slice A3 n3 c3, .slice A4 n4 c4] 27 (0, 0))) := heap_alloc_new _ _
  have hB0 : Hid (Below n w (w.alloc (.cells #[.string nm, .slice A1 n1 c1, .int .i64 dA, .slice A2 n2 c2, .slice A3 n3 c3, .slice A4 n4 c4] 27))) := (Below.refl n w).alloc (by omega) _
  clear hb hlt
  go_enter Tryz.func20, Tryz.ntmps20
  go_wp2_with fail
  refine (addwords_any n B _ l5 A1 n1 c1 _ hn hba.out.bag hba.out.r5 e5).mono ?_
  intro r w1 hr
  have hbx1 : Hid _ := added_box hr hba.out.bag hba.out.r5 hbx.out (by decide) (by decide)
  obtain ⟨V5, rfl, hg, hbl⟩ := hba.out.words hr
  have hb1 : Hid _ := hg
  have hB1 : Hid (Below n w w1) := Below.trans hB0.out hbl
  clear hg hbl hr hba hbx hB0
  obtain ⟨d0, d1, d2, d3, d4, d5⟩ := box6_cell hbx1.out
  go_wp2_with fail
  refine (addlongs_any n B _ l4 A2 n2 c2 _ hn hb1.out.bag hb1.out.r4 e4).mono ?_
  intro r w2 hr
  have hbx2 : Hid _ := added_box hr hb1.out.bag hb1.out.r4 hbx1.out (by decide) (by decide)
  obtain ⟨V4, rfl, hg, hbl⟩ := hb1.out.longs hr
  have hb2 : Hid _ := hg
  have hB2 : Hid (Below n w w2) := Below.trans hB1.out hbl
  clear hg hbl hr d0 d1 d2 d3 d4 d5 hb1 hbx1 hB1
  obtain ⟨d0, d1, d2, d3, d4, d5⟩ := box6_cell hbx2.out
  go_wp2_with fail
  refine (addsyms_any n B _ l8 A3 n3 c3 _ hn hb2.out.bag hb2.out.r8 e8).mono ?_
  intro r w3 hr
  have hbx3 : Hid _ := added_box hr hb2.out.bag hb2.out.r8 hbx2.out (by decide) (by decide)
  obtain ⟨V8, rfl, hg, hbl⟩ := hb2.out.syms hr
  have hb3 : Hid _ := hg
  have hB3 : Hid (Below n w w3) := Below.trans hB2.out hbl
  clear hg hbl hr d0 d1 d2 d3 d4 d5 hb2 hbx2 hB2
  obtain ⟨d0, d1, d2, d3, d4, d5⟩ := box6_cell hbx3.out
  go_wp2_with fail
  refine (addrels_any n B _ l9 A4 n4 c4 _ hn hb3.out.bag hb3.out.r9 e9).mono ?_
  intro r w4 hr
  have hbx4 : Hid _ := added_box hr hb3.out.bag hb3.out.r9 hbx3.out (by decide) (by decide)
  obtain ⟨V9, rfl, hg, hbl⟩ := hb3.out.rels hr
  have hb4 : Hid _ := hg
  have hB4 : Hid (Below n w w4) := Below.trans hB3.out hbl
  clear hg hbl hr d0 d1 d2 d3 d4 d5 hb3 hbx3 hB3
  go_wp2
  go_end0
  exact ⟨rfl, _, hb4.out, fun k k4 k5 k8 k9 => by simp [upd, k4, k5, k8, k9], hB4.out⟩

end Go.Proofs.YthfcimmfkibmjaaGreatDoor

namespace Go.Proofs.YthfcimmfkibmjaaGreatDoor
open Go.RowKit


set_option maxRecDepth 100000 in
set_option maxHeartbeats 8000000 in
theorem lawReads (O : Option Addr) (cap : Nat) (zs : List Int) (w : World) (hT : w.cell? ⟨0, 0, none⟩ = some errT) (hZ : IntsAt w O .u8 zs) (hAz : AreB zs) (hcap : zs.length ≤ cap) (hml : zs.length ≤ maxLen) :
    Calls Tryz.prog 4 #[.slice O zs.length cap] w fun e w' => e = .returned (.bool true) ∧ Below w.heap.size w w' := by
  unfold maxLen at hml
  have LV := fun wx (hx : Below w.heap.size w wx) => lives_any wx (lkeep hx hT)
  by_cases hbig : 262144 < zs.length
  · go_enter Tryz.func4, Tryz.ntmps4
    go_wp2_with (go_at_call 7; refine (LV _ (Below.refl _ _)).mono ?_; rintro e w2 ⟨rfl, hb2⟩)
    go_ret
    exact ⟨rfl, hb2⟩
  have hz : zs.length ≤ 262144 := by omega
  obtain ⟨nm, code, dA, data, ss, rs, E, N, hc, hd, hs, hl, GV⟩ := gave_all hAz
  have HGV : Hid _ := GV
  clear GV
  have hEE : (E == E) = true := by simp
  have hNN : (N == N) = true := by simp
  have hE2 : (E != E) = false := by simp
  have hN2 : (N != N) = false := by simp
  have hE3 : Hid _ := hEE
  clear hbig
  go_enter Tryz.func4, Tryz.ntmps4
  go_wp2_with fail
  refine (widebytes_lies O cap zs _ hZ (by omega)).mono ?_
  rintro r w1 ⟨g, rfl, hb1, kI, kM⟩
  have HB1 : Hid (Below w.heap.size w w1) := hb1
  have HKI : Hid (IntsAt w1 (some ⟨g, 0, none⟩) .u8 zs) := kI
  have HKM : Hid (MarkB w1 g zs.length) := kM
  clear hb1 kI kM
  have RD : Hid (∀ wx, Below w1.heap.size w1 wx → Calls Tryz.prog 17 #[.slice (some ⟨g, 0, none⟩) zs.length (zs.length + 64)] wx (Gave nm code dA data ss rs E N wx)) := fun wx h => (read_any (some ⟨g, 0, none⟩) (zs.length + 64) zs wx (HKI.out.keep h) hAz (by omega) (by omega) (lkeep (lb_trans HB1.out h) hT)).mono fun r w' h => HGV.out _ _ _ h
  have RR : Hid (∀ wx, Below w.heap.size w wx → Calls Tryz.prog 18 #[.slice O zs.length cap] wx (Gave nm code dA data ss rs E N wx)) := fun wx h => (refread_any O cap zs wx (hZ.keep h) hAz (by omega) hcap).mono fun r w' h => HGV.out _ _ _ h
  go_wp2_with fail
  refine (RD.out _ (Below.refl _ _)).mono ?_
  rintro r w2 ⟨X1, X2, X3, X4, x1, x2, x3, x4, rfl, rowsX, hb2⟩
  have HB2 : Hid (Below w.heap.size w (w2.alloc (.cells #[.string nm, .slice X1 code.length x1, .int .i64 dA, .slice X2 data.length x2, .slice X3 ss.length x3, .slice X4 rs.length x4] 27))) := lb_alloc (lb_trans HB1.out hb2) _
  have HC2 : Hid (Below w1.heap.size w1 (w2.alloc (.cells #[.string nm, .slice X1 code.length x1, .int .i64 dA, .slice X2 data.length x2, .slice X3 ss.length x3, .slice X4 rs.length x4] 27))) := lb_alloc hb2 _
  have HX2 : Hid (RowsO w2 w.heap.size X1 X2 X3 X4 x1 x2 x3 x4 code data ss rs) := rowsX.mono HB1.out.size
  have HX2' : Hid (RowsO (w2.alloc (.cells #[.string nm, .slice X1 code.length x1, .int .i64 dA, .slice X2 data.length x2, .slice X3 ss.length x3, .slice X4 rs.length x4] 27)) w.heap.size X1 X2 X3 X4 x1 x2 x3 x4 code data ss rs) := HX2.out.keep (lb_alloc (Below.refl _ _) _)
  have hbx2 : Hid ((w2.alloc (.cells #[.string nm, .slice X1 code.length x1, .int .i64 dA, .slice X2 data.length x2, .slice X3 ss.length x3, .slice X4 rs.length x4] 27)).heap[w2.heap.size]? = some (.cells #[.string nm, .slice X1 code.length x1, .int .i64 dA, .slice X2 data.length x2, .slice X3 ss.length x3, .slice X4 rs.length x4] 27 (0, 0))) := heap_alloc_new _ _
  clear rowsX hb2
  go_wp2_with fail
  refine (RD.out _ HC2.out).mono ?_
  rintro r w3 ⟨Y1, Y2, Y3, Y4, y1, y2, y3, y4, rfl, rowsY, hb3⟩
  have HB3 : Hid (Below w.heap.size w (w3.alloc (.cells #[.string nm, .slice Y1 code.length y1, .int .i64 dA, .slice Y2 data.length y2, .slice Y3 ss.length y3, .slice Y4 rs.length y4] 27))) := lb_alloc (lb_trans HB2.out hb3) _
  have HC3 : Hid (Below w1.heap.size w1 (w3.alloc (.cells #[.string nm, .slice Y1 code.length y1, .int .i64 dA, .slice Y2 data.length y2, .slice Y3 ss.length y3, .slice Y4 rs.length y4] 27))) := lb_alloc (lb_trans HC2.out hb3) _
  have HF3 : Hid _ := RowsO.off HX2.out rowsY (by simp)
  have HX3 : Hid (RowsO (w3.alloc (.cells #[.string nm, .slice Y1 code.length y1, .int .i64 dA, .slice Y2 data.length y2, .slice Y3 ss.length y3, .slice Y4 rs.length y4] 27)) w.heap.size X1 X2 X3 X4 x1 x2 x3 x4 code data ss rs) := HX2'.out.keep (lb_alloc hb3 _)
  have HY3 : Hid (RowsO (w3.alloc (.cells #[.string nm, .slice Y1 code.length y1, .int .i64 dA, .slice Y2 data.length y2, .slice Y3 ss.length y3, .slice Y4 rs.length y4] 27)) w.heap.size Y1 Y2 Y3 Y4 y1 y2 y3 y4 code data ss rs) := (RowsO.mono rowsY (by have := HB2.out.size; omega)).keep (lb_alloc (Below.refl _ _) _)
  have hbx3 : Hid _ := lb_box hbx2.out (lb_alloc hb3 (.cells #[.string nm, .slice Y1 code.length y1, .int .i64 dA, .slice Y2 data.length y2, .slice Y3 ss.length y3, .slice Y4 rs.length y4] 27))
  have hby3 : Hid ((w3.alloc (.cells #[.string nm, .slice Y1 code.length y1, .int .i64 dA, .slice Y2 data.length y2, .slice Y3 ss.length y3, .slice Y4 rs.length y4] 27)).heap[w3.heap.size]? = some (.cells #[.string nm, .slice Y1 code.length y1, .int .i64 dA, .slice Y2 data.length y2, .slice Y3 ss.length y3, .slice Y4 rs.length y4] 27 (0, 0))) := heap_alloc_new _ _
  clear rowsY hb3 HX2 HX2' hbx2 HB2 HC2
  go_wp2_with fail
  refine (RR.out _ HB3.out).mono ?_
  rintro r w4 ⟨Z1, Z2, Z3, Z4, z1, z2, z3, z4, rfl, rowsZ, hb4⟩
  have HB4 : Hid (Below w.heap.size w (w4.alloc (.cells #[.string nm, .slice Z1 code.length z1, .int .i64 dA, .slice Z2 data.length z2, .slice Z3 ss.length z3, .slice Z4 rs.length z4] 27))) := lb_alloc (lb_trans HB3.out hb4) _
  have HC4 : Hid (Below w1.heap.size w1 (w4.alloc (.cells #[.string nm, .slice Z1 code.length z1, .int .i64 dA, .slice Z2 data.length z2, .slice Z3 ss.length z3, .slice Z4 rs.length z4] 27))) := lb_alloc (lb_trans HC3.out hb4) _
  have HX4 : Hid (RowsO (w4.alloc (.cells #[.string nm, .slice Z1 code.length z1, .int .i64 dA, .slice Z2 data.length z2, .slice Z3 ss.length z3, .slice Z4 rs.length z4] 27)) w.heap.size X1 X2 X3 X4 x1 x2 x3 x4 code data ss rs) := HX3.out.keep (lb_alloc hb4 _)
  have HY4 : Hid (RowsO (w4.alloc (.cells #[.string nm, .slice Z1 code.length z1, .int .i64 dA, .slice Z2 data.length z2, .slice Z3 ss.length z3, .slice Z4 rs.length z4] 27)) w.heap.size Y1 Y2 Y3 Y4 y1 y2 y3 y4 code data ss rs) := HY3.out.keep (lb_alloc hb4 _)
  have HZ4 : Hid (RowsO (w4.alloc (.cells #[.string nm, .slice Z1 code.length z1, .int .i64 dA, .slice Z2 data.length z2, .slice Z3 ss.length z3, .slice Z4 rs.length z4] 27)) w.heap.size Z1 Z2 Z3 Z4 z1 z2 z3 z4 code data ss rs) := (RowsO.mono rowsZ (by have := HB3.out.size; omega)).keep (lb_alloc (Below.refl _ _) _)
  have hbx4 : Hid _ := lb_box hbx3.out (lb_alloc hb4 (.cells #[.string nm, .slice Z1 code.length z1, .int .i64 dA, .slice Z2 data.length z2, .slice Z3 ss.length z3, .slice Z4 rs.length z4] 27))
  have hby4 : Hid _ := lb_box hby3.out (lb_alloc hb4 (.cells #[.string nm, .slice Z1 code.length z1, .int .i64 dA, .slice Z2 data.length z2, .slice Z3 ss.length z3, .slice Z4 rs.length z4] 27))
  have hbz4 : Hid ((w4.alloc (.cells #[.string nm, .slice Z1 code.length z1, .int .i64 dA, .slice Z2 data.length z2, .slice Z3 ss.length z3, .slice Z4 rs.length z4] 27)).heap[w4.heap.size]? = some (.cells #[.string nm, .slice Z1 code.length z1, .int .i64 dA, .slice Z2 data.length z2, .slice Z3 ss.length z3, .slice Z4 rs.length z4] 27 (0, 0))) := heap_alloc_new _ _
  clear rowsZ hb4 HX3 HY3 hbx3 hby3 HB3 HC3 RD RR HGV
  obtain ⟨d0, d1, d2, d3, d4, d5⟩ := box6_cell hbx4.out
  go_wp2_with fail
  refine (eqobj_same nm dA X1 X2 X3 X4 x1 x2 x3 x4 code data ss rs _ Z1 Z2 Z3 Z4 z1 z2 z3 z4 (row_ints HX4.out.r1) (row_ints HX4.out.r2) (row_syms HX4.out.r3) (row_rels HX4.out.r4) (by omega) (by omega) (by omega) (by omega) (row_ints HZ4.out.r1) (row_ints HZ4.out.r2) (row_syms HZ4.out.r3) (row_rels HZ4.out.r4)).mono ?_
  rintro r w5 ⟨rfl, hb5⟩
  have HD5 : Hid (Below (w4.alloc (.cells #[.string nm, .slice Z1 code.length z1, .int .i64 dA, .slice Z2 data.length z2, .slice Z3 ss.length z3, .slice Z4 rs.length z4] 27)).heap.size (w4.alloc (.cells #[.string nm, .slice Z1 code.length z1, .int .i64 dA, .slice Z2 data.length z2, .slice Z3 ss.length z3, .slice Z4 rs.length z4] 27)) w5) := hb5
  have hby5 : Hid _ := lb_box hby4.out hb5
  have hbz5 : Hid _ := lb_box hbz4.out hb5
  have HY5 : Hid _ := HY4.out.keep hb5
  have HZ5 : Hid _ := HZ4.out.keep hb5
  clear hb5 d0 d1 d2 d3 d4 d5
  obtain ⟨d0, d1, d2, d3, d4, d5⟩ := box6_cell hby5.out
  obtain ⟨e0, e1, e2, e3, e4, e5⟩ := box6_cell hbz5.out
  go_wp2_with fail
  refine (eqobj_same nm dA Y1 Y2 Y3 Y4 y1 y2 y3 y4 code data ss rs _ Z1 Z2 Z3 Z4 z1 z2 z3 z4 (row_ints HY5.out.r1) (row_ints HY5.out.r2) (row_syms HY5.out.r3) (row_rels HY5.out.r4) (by omega) (by omega) (by omega) (by omega) (row_ints HZ5.out.r1) (row_ints HZ5.out.r2) (row_syms HZ5.out.r3) (row_rels HZ5.out.r4)).mono ?_
  rintro r w6 ⟨rfl, hb6⟩
  have HD6 : Hid (Below (w4.alloc (.cells #[.string nm, .slice Z1 code.length z1, .int .i64 dA, .slice Z2 data.length z2, .slice Z3 ss.length z3, .slice Z4 rs.length z4] 27)).heap.size (w4.alloc (.cells #[.string nm, .slice Z1 code.length z1, .int .i64 dA, .slice Z2 data.length z2, .slice Z3 ss.length z3, .slice Z4 rs.length z4] 27)) w6) := lb_trans HD5.out hb6
  have EB := eqbytes_any (some ⟨g, 0, none⟩) O (zs.length + 64) cap zs zs w6 (HKI.out.keep (lb_trans HC4.out HD6.out)) (hZ.keep (lb_trans HB4.out HD6.out)) (by omega)
  rw [decide_eq_true rfl] at EB
  clear hb6 d0 d1 d2 d3 d4 d5 e0 e1 e2 e3 e4 e5 hby5 hbz5 HY5 HZ5 HD5 hbz4 HZ4
  go_wp2_with fail
  refine EB.mono ?_
  rintro r w7 ⟨rfl, hb7⟩
  have HD7 : Hid (Below (w4.alloc (.cells #[.string nm, .slice Z1 code.length z1, .int .i64 dA, .slice Z2 data.length z2, .slice Z3 ss.length z3, .slice Z4 rs.length z4] 27)).heap.size (w4.alloc (.cells #[.string nm, .slice Z1 code.length z1, .int .i64 dA, .slice Z2 data.length z2, .slice Z3 ss.length z3, .slice Z4 rs.length z4] 27)) w7) := lb_trans HD6.out hb7
  clear hb7 EB HD6
  go_wp2_with fail
  refine (sparebytes_any g zs.length w7 (HKM.out.keep (lb_trans HC4.out HD7.out)) (by omega)).mono ?_
  rintro r w8 ⟨rfl, rfl⟩
  have HB8 : Hid (Below w.heap.size w w8) := lb_trans HB4.out HD7.out
  have hbx8 : Hid _ := lb_box hbx4.out HD7.out
  have hby8 : Hid _ := lb_box hby4.out HD7.out
  have HX8 : Hid _ := HX4.out.keep HD7.out
  have HY8 : Hid _ := HY4.out.keep HD7.out
  clear hbx4 hby4 HX4 HY4 HD7 HC4 HB4 HKI HKM
  have HG8 : Hid (Bag4 w8.heap.size w8.heap.size (fun _ => .slice none 0 0) (w8.alloc (.cells #[.slice none 0 0, .slice none 0 0, .slice none 0 0, .slice none 0 0, .slice none 0 0, .slice none 0 0, .slice none 0 0, .slice none 0 0, .slice none 0 0, .slice none 0 0, .slice none 0 0, .slice none 0 0, .slice none 0 0, .slice none 0 0, .slice none 0 0, .slice none 0 0, .slice none 0 0] 56)) [] [] [] []) := ⟨bag_new w8, World.ownsRow_nil _ _ _ _, World.ownsRow_nil _ _ _ _, World.ownsRow_nil _ _ _ _, World.ownsRow_nil _ _ _ _⟩
  have HN8 : Hid (Below w8.heap.size w8 (w8.alloc (.cells #[.slice none 0 0, .slice none 0 0, .slice none 0 0, .slice none 0 0, .slice none 0 0, .slice none 0 0, .slice none 0 0, .slice none 0 0, .slice none 0 0, .slice none 0 0, .slice none 0 0, .slice none 0 0, .slice none 0 0, .slice none 0 0, .slice none 0 0, .slice none 0 0, .slice none 0 0] 56))) := lb_alloc (Below.refl _ _) _
  have hbx9 : Hid _ := lb_box hbx8.out HN8.out
  obtain ⟨d0, d1, d2, d3, d4, d5⟩ := box6_cell hbx9.out
  go_wp2_with fail
  refine (addobj_any w8.heap.size w8.heap.size _ [] [] [] [] nm dA X1 X2 X3 X4 code.length data.length ss.length rs.length x1 x2 x3 x4 _ (Nat.le_refl _) HG8.out (by simp) (by simp) (by simp) (by simp)).mono ?_
  rintro r wa ⟨rfl, f1, hg1, hf1, hb1⟩
  have HGa : Hid _ := hg1
  have HNa : Hid (Below w8.heap.size w8 wa) := Below.trans HN8.out hb1
  have hf1' : Hid _ := hf1
  have hbya : Hid _ := lb_box hby8.out HNa.out
  clear hg1 hb1 hf1 HG8 HN8 d0 d1 d2 d3 d4 d5 hbx8 hbx9
  obtain ⟨d0, d1, d2, d3, d4, d5⟩ := box6_cell hbya.out
  go_wp2_with fail
  refine (addobj_any w8.heap.size w8.heap.size _ _ _ _ _ nm dA Y1 Y2 Y3 Y4 code.length data.length ss.length rs.length y1 y2 y3 y4 _ (Nat.le_refl _) HGa.out (by simp) (by simp) (by simp) (by simp)).mono ?_
  rintro r wb ⟨rfl, f2, hg2, hf2, hb2⟩
  have HNb : Hid (Below w8.heap.size w8 wb) := Below.trans HNa.out hb2
  have HBb : Hid (Below w.heap.size w wb) := lb_trans HB8.out HNb.out
  have HXb : Hid _ := HX8.out.keep HNb.out
  have HYb : Hid _ := HY8.out.keep HNb.out
  obtain ⟨F1, F2, F3, F4⟩ := HF3.out
  have AP : Hid _ := apartO w8.heap.size f2 [(.slice X2 data.length x2, data.length), (.slice Y2 data.length y2, data.length)] [(.slice X1 code.length x1, code.length), (.slice Y1 code.length y1, code.length)] [(.slice X3 ss.length x3, ss.length), (.slice Y3 ss.length y3, ss.length)] [(.slice X4 rs.length x4, rs.length), (.slice Y4 rs.length y4, rs.length)] wb hg2.bag (ownsRow_mono hg2.r4 (Nat.zero_le _)) (ownsRow_mono hg2.r5 (Nat.zero_le _)) (ownsRow_mono hg2.r8 (Nat.zero_le _)) (ownsRow_mono hg2.r9 (Nat.zero_le _))
    (fun k h0 h1 h2 h3 h4 => (hf2 k h1 h2 h3 h4).trans (hf1'.out k h1 h2 h3 h4))
    ⟨two_all ⟨_, ownsRow_mono HXb.out.r2 (Nat.zero_le _)⟩ ⟨_, ownsRow_mono HYb.out.r2 (Nat.zero_le _)⟩, two_all ⟨_, ownsRow_mono HXb.out.r1 (Nat.zero_le _)⟩ ⟨_, ownsRow_mono HYb.out.r1 (Nat.zero_le _)⟩, two_all ⟨_, ownsRow_mono HXb.out.r3 (Nat.zero_le _)⟩ ⟨_, ownsRow_mono HYb.out.r3 (Nat.zero_le _)⟩, two_all ⟨_, ownsRow_mono HXb.out.r4 (Nat.zero_le _)⟩ ⟨_, ownsRow_mono HYb.out.r4 (Nat.zero_le _)⟩⟩
    (sep_two F2) (sep_two F1) (sep_two F3) (sep_two F4) (by simp) (by simp) (by simp) (by simp) (rl_two (by omega) (by omega)) (rl_two (by omega) (by omega)) (rl_two (by omega) (by omega)) (rl_two (by omega) (by omega))
  have HQ : Hid (∀ b, Pk [(.slice X2 data.length x2, data.length), (.slice Y2 data.length y2, data.length)] [(.slice X1 code.length x1, code.length), (.slice Y1 code.length y1, code.length)] [(.slice X3 ss.length x3, ss.length), (.slice Y3 ss.length y3, ss.length)] [(.slice X4 rs.length x4, rs.length), (.slice Y4 rs.length y4, rs.length)] 17 b → w.heap.size ≤ b) := fun b hb => by
    rcases hb with ⟨-, h⟩ | ⟨-, h⟩ | ⟨-, h⟩ | ⟨-, h⟩
    · exact off_two (fun k e => (HXb.out.r2.lt k e).1) (fun k e => (HYb.out.r2.lt k e).1) b h
    · exact off_two (fun k e => (HXb.out.r1.lt k e).1) (fun k e => (HYb.out.r1.lt k e).1) b h
    · exact off_two (fun k e => (HXb.out.r3.lt k e).1) (fun k e => (HYb.out.r3.lt k e).1) b h
    · exact off_two (fun k e => (HXb.out.r4.lt k e).1) (fun k e => (HYb.out.r4.lt k e).1) b h
  clear hg2 hb2 hf2 HGa HNa hf1' d0 d1 d2 d3 d4 d5 hbya hby8 HX8 HY8 HXb HYb F1 F2 F3 F4 HF3
  go_wp2_with fail
  refine (Calls.mono AP.out ?_)
  rintro r wc ⟨rfl, hfr⟩
  have HBc : Hid (Below w.heap.size w wc) := hfr.below HBb.out HBb.out.size HQ.out
  clear hfr AP HQ
  go_wp2_with fail
  refine (LV _ HBc.out).mono ?_
  rintro r wd ⟨rfl, hbd⟩
  have HBd : Hid (Below w.heap.size w wd) := lb_trans HBc.out hbd
  clear hbd
  go_wp2
  go_ret
  exact ⟨rfl, HBd.out⟩

end Go.Proofs.YthfcimmfkibmjaaGreatDoor

namespace Go.Proofs.YthfcimmfkibmjaaGreatDoor
open Go.ChangeShapes Go.WideShapes Go.ChangeAt Go.RowKit Go.Joins

theorem open_i {H : Type} {enc : TypeId × Value → H} {W : World} {base : Nat} {sp : Nat → Bool} {held : Bool} {fuel : Nat} {cs : List Value} {x : DataW H × List MemPlace} {t e : TypeId} {k : IntKind} (ht : Tryz.prog.underlying t = some (.slice e)) (he : Tryz.prog.underlying e = some (.int k)) (hc : Tryz.prog.cellsOf e = 1) (h : DataW.trod enc Tryz.prog W base sp held fuel t cs = some x) :
    ∃ (O : Option Addr) (cap : Nat) (zs : List Int), cs = [.slice O zs.length cap] ∧ IntsAt W O k zs ∧ zs.length ≤ maxLen ∧ (∀ i, i < zs.length → (Lit.int k (nth zs i)).wf = true) ∧ (O = none → cap = 0) := by
  rcases open_ints ht he hc h with ⟨rfl, _⟩ | ⟨a, len, cap, zs, rfl, _, hl, hm, hz, _, hcell, hwf⟩
  · exact ⟨none, 0, [], rfl, fun i hi => by simp at hi, by simp, fun i hi => by simp at hi, fun _ => rfl⟩
  · have hlen : len ≤ zs.length := by rw [hz]; split <;> omega
    have hn : ∀ i, i < len → nth (zs.take len) i = zs.getD i 0 := fun i hi => by simp [nth, List.getD, hi]
    have hl2 : (zs.take len).length = len := by rw [List.length_take, Nat.min_eq_left hlen]
    refine ⟨some a, cap, zs.take len, by rw [hl2], ?_, by omega, ?_, fun h => by cases h⟩
    · intro i hi
      rw [hl2] at hi
      exact ⟨a, rfl, by rw [hn i hi]; exact hcell i (by omega)⟩
    · intro i hi
      rw [hl2] at hi
      rw [hn i hi]
      refine hwf _ ?_
      simp [List.getD, show i < zs.length by omega]
theorem open_b {H : Type} {enc : TypeId × Value → H} {W : World} {base : Nat} {sp : Nat → Bool} {held : Bool} {v : Value} {d : DataW H} {p : List MemPlace} (h : DataW.Trod enc Tryz.prog W base sp held 31 v d p) (hv : v.cells = #[v]) :
    ∃ (O : Option Addr) (cap : Nat) (zs : List Int), v = .slice O zs.length cap ∧ IntsAt W O .u8 zs ∧ zs.length ≤ maxLen ∧ (∀ i, i < zs.length → 0 ≤ nth zs i ∧ nth zs i < 256) ∧ (O = none → cap = 0) := by
  obtain ⟨fuel, hf⟩ := h
  rw [hv] at hf
  obtain ⟨O, cap, zs, e, k, hl, hwf, u⟩ := open_i Tryz.underlying31 Tryz.underlying5 (by kernel_rfl) hf
  refine ⟨O, cap, zs, by simpa using e, k, hl, fun i hi => ?_, u⟩
  have := hwf i hi
  simp [Lit.wf, IntKind.min, IntKind.max, IntKind.signed, IntKind.bits] at this
  omega
set_option maxRecDepth 100000 in
theorem open_bs {H : Type} {enc : TypeId × Value → H} {W : World} {b0 base : Nat} {sp : Nat → Bool} {held : Bool} {v : Value} {d : DataW H} {p : List MemPlace} (hv : Value.okWide Tryz.prog W .any b0 31 v) (h : DataW.Trod enc Tryz.prog W base sp held 31 v d p) :
    ∃ (O : Option Addr) (cap : Nat) (zs : List Int), v = .slice O zs.length cap ∧ IntsAt W O .u8 zs ∧ zs.length ≤ maxLen ∧ (∀ i, i < zs.length → 0 ≤ nth zs i ∧ nth zs i < 256) ∧ (O = none → cap = 0) := by
  obtain ⟨a, len, c, rfl⟩ := okWide_slice Tryz.underlying31 hv
  obtain ⟨fuel, hf⟩ := h
  obtain ⟨O, cap, zs, e, k, hl, hwf, u⟩ := open_i Tryz.underlying31 Tryz.underlying5 (by kernel_rfl) hf
  refine ⟨O, cap, zs, ?_, k, hl, fun i hi => ?_, u⟩
  · simpa [Value.cells] using e
  · have := hwf i hi
    simp [Lit.wf, IntKind.min, IntKind.max, IntKind.signed, IntKind.bits] at this
    omega
theorem mk_at {α : Type} (f : Nat → α) (n : Nat) (z : α) (i : Nat) (h : i < n) : ((List.range n).map f).getD i z = f i := by simp [List.getD, h]
theorem open_rels {H : Type} {enc : TypeId × Value → H} {W : World} {base : Nat} {sp : Nat → Bool} {held : Bool} {fuel : Nat} {cs : List Value} {x : DataW H × List MemPlace} (h : DataW.trod enc Tryz.prog W base sp held fuel 25 cs = some x) :
    ∃ (O : Option Addr) (cap : Nat) (zs : List Rel), cs = [.slice O zs.length cap] ∧ RelsAt W O zs ∧ zs.length ≤ maxLen ∧ (O = none → cap = 0) := by
  rcases Deep.open_slice_pairs Tryz.underlying25 Tryz.underlying119 (by kernel_rfl) rfl rfl (by kernel_rfl) (by kernel_rfl) h with ⟨rfl, _⟩ | ⟨a, len, cap, m, n, V0, V1, D0, D1, P0, P1, rfl, _, hl, hm, hmm, _, hx⟩
  · exact ⟨none, 0, [], rfl, fun i hi => by simp at hi, by simp, fun _ => rfl⟩
  · have hlm : len ≤ m := by rw [hmm]; split <;> omega
    have each : ∀ i, ∃ q : Rel, i < len → W.cell? (a.add (i * 2)) = some (.int .i64 q.1) ∧ W.cell? (a.add (i * 2 + 1)) = some (.int .i64 q.2) := by
      intro i
      by_cases hi : i < len
      · obtain ⟨h0, h1, t0, t1⟩ := hx i (by omega)
        obtain ⟨u, e0, _, _⟩ := DataW.trod_int Tryz.underlying3 t0
        obtain ⟨v, e1, _, _⟩ := DataW.trod_int Tryz.underlying3 t1
        simp at e0 e1
        exact ⟨(u, v), fun _ => ⟨by rw [h0, e0], by rw [h1, e1]⟩⟩
      · exact ⟨(0, 0), fun h => absurd h hi⟩
    obtain ⟨f, hf⟩ := Classical.axiomOfChoice each
    refine ⟨some a, cap, (List.range len).map f, by simp, ?_, by simp; omega, fun h => by cases h⟩
    intro i hi
    have hi' : i < len := by simpa using hi
    refine ⟨a, rfl, ?_, ?_⟩
    · unfold rAt; rw [mk_at _ _ _ _ hi']; exact (hf i hi').1
    · unfold rSym; rw [mk_at _ _ _ _ hi', Deep.add_add]; exact (hf i hi').2
theorem mem_all {H : Type} {P : Program} {e : TypeId} {d : DataW H} {n : Nat} : ∀ {l : List (DataW H)}, d ∈ l → n ∈ d.weights P e → n ∈ DataW.weightsAll P e l
  | [], h, _ => by cases h
  | x :: l, h, hn => by
    rw [DataW.weightsAll, List.mem_append]
    rcases List.mem_cons.1 h with rfl | h
    · exact Or.inl hn
    · exact Or.inr (mem_all h hn)
set_option maxRecDepth 100000 in
theorem open_syms {H : Type} {enc : TypeId × Value → H} {W : World} {base : Nat} {sp : Nat → Bool} {held : Bool} {fuel : Nat} {cs : List Value} {x : DataW H × List MemPlace} (h : DataW.trod enc Tryz.prog W base sp held fuel 24 cs = some x) :
    ∃ (O : Option Addr) (cap : Nat) (zs : List Sym), cs = [.slice O zs.length cap] ∧ SymsAt W O zs ∧ ((∀ n ∈ x.1.weights Tryz.prog 24, n ≤ reachBytes) → zs.length ≤ reachBytes ∧ ∀ i, (sName zs i).size ≤ reachBytes) ∧ (∀ i, i < zs.length → (Lit.int .i8 (sKind zs i)).wf = true ∧ (Lit.int .i64 (sAt zs i)).wf = true) ∧ (O = none → cap = 0) := by
  rcases Deep.open_slice Tryz.underlying24 h with ⟨rfl, _⟩ | ⟨a, len, cap, m, n, D, Pl, rfl, _, hl, hm, hmm, hxx, hx⟩
  · exact ⟨none, 0, [], rfl, fun i hi => by simp at hi, fun _ => ⟨Nat.zero_le _, fun i => Nat.zero_le _⟩, fun i hi => by simp at hi, fun _ => rfl⟩
  · have hlm : len ≤ m := by rw [hmm]; split <;> omega
    have each : ∀ i, ∃ q : Sym, (i < len → (∃ y1 y2, D i = .agg [.lit (.string q.1.data.toList), y1, y2]) ∧ W.cell? (a.add (i * 3)) = some (.string q.1) ∧ W.cell? (a.add (i * 3 + 1)) = some (.int .i8 q.2.1) ∧ W.cell? (a.add (i * 3 + 2)) = some (.int .i64 q.2.2) ∧ (Lit.int .i8 q.2.1).wf = true ∧ (Lit.int .i64 q.2.2).wf = true) := by
      intro i
      by_cases hi : i < len
      · obtain ⟨cs', h1, h2⟩ := hx i (by omega)
        rw [show Tryz.prog.cellsOf 68 = 3 by kernel_rfl] at h1
        obtain ⟨_, hlen, hcell⟩ := World.cells?_some h1
        obtain ⟨y0, y1, y2, k, hD, _, g0, g1, g2⟩ := Deep.trod_struct3 Tryz.underlying68 h2
        match cs', hlen with
        | [v0, v1, v2], _ =>
          simp [show Tryz.prog.cellsOf 9 = 1 by kernel_rfl, show Tryz.prog.cellsOf 66 = 1 by kernel_rfl, show Tryz.prog.cellsOf 3 = 1 by kernel_rfl] at g0 g1 g2
          obtain ⟨s, e0, ey, hs⟩ := DataW.trod_string Tryz.underlying9 g0
          obtain ⟨u, e1, _, hu⟩ := DataW.trod_int Tryz.underlying66 g1
          obtain ⟨v, e2, _, hv⟩ := DataW.trod_int Tryz.underlying3 g2
          simp at e0 e1 e2
          subst e0 e1 e2
          have q0 := hcell 0 (by omega)
          have q1 := hcell 1 (by omega)
          have q2 := hcell 2 (by omega)
          rw [Deep.add_add] at q0 q1 q2
          exact ⟨(s, u, v), fun _ => ⟨⟨y1.1, y2.1, by have := congrArg Prod.fst hD; rw [ey] at this; exact this⟩, by simpa using q0, by simpa using q1, by simpa using q2, hu, hv⟩⟩
      · exact ⟨symD, fun h => absurd h hi⟩
    obtain ⟨f, hf⟩ := Classical.axiomOfChoice each
    refine ⟨some a, cap, (List.range len).map f, by simp, ?_, ?_, ?_, fun h => by cases h⟩
    · intro i hi
      have hi' : i < len := by simpa using hi
      obtain ⟨_, h0, h1, h2, _, _⟩ := hf i hi'
      refine ⟨a, rfl, ?_, ?_, ?_⟩
      · unfold sName; rw [mk_at _ _ _ _ hi']; exact h0
      · unfold sKind; rw [mk_at _ _ _ _ hi', Deep.add_add]; exact h1
      · unfold sAt; rw [mk_at _ _ _ _ hi', Deep.add_add]; exact h2
    · intro hw
      subst hxx
      have hu : DataW.weights Tryz.prog 24 (.slice ((List.range len).map D) ((List.range (m - len)).map fun j => D (len + j))) = (((List.range len).map D).length + ((List.range (m - len)).map fun j => D (len + j)).length) * Tryz.prog.bytesOf 68 :: (DataW.weightsAll Tryz.prog 68 ((List.range len).map D) ++ DataW.weightsAll Tryz.prog 68 ((List.range (m - len)).map fun j => D (len + j))) := by
        simp only [DataW.weights, Tryz.underlying24]
      simp only [hu] at hw
      constructor
      · have h := hw _ (List.mem_cons_self ..)
        rw [show Tryz.prog.bytesOf 68 = 32 by kernel_rfl] at h
        simp at h ⊢
        omega
      · intro i
        by_cases hi : i < len
        · obtain ⟨⟨y1, y2, hD⟩, _⟩ := hf i hi
          unfold sName; rw [mk_at _ _ _ _ hi]
          have hm2 : (f i).1.data.toList.length ∈ DataW.weightsAll Tryz.prog 68 ((List.range len).map D) := by
            refine mem_all (d := D i) (List.mem_map.2 ⟨i, by simpa using hi, rfl⟩) ?_
            rw [hD]
            simp only [DataW.weights, Tryz.underlying68]
            exact DataW.weights_mem_each (j := 0) (t := 9) rfl rfl _ (by simp [DataW.weights])
          have h := hw _ (List.mem_cons_of_mem _ (List.mem_append_left _ hm2))
          simpa using h
        · have : ((List.range len).map f).getD i symD = symD := by simp [List.getD, hi]
          unfold sName; rw [this]; exact Nat.zero_le _
    · intro i hi
      have hi' : i < len := by simpa using hi
      obtain ⟨_, _, _, _, h3, h4⟩ := hf i hi'
      unfold sKind sAt
      rw [mk_at _ _ _ _ hi']
      exact ⟨h3, h4⟩
theorem six {cs : Array Value} (h : cs.size = 6) : ∃ a b c d e f, cs = #[a, b, c, d, e, f] := by
  obtain ⟨l⟩ := cs
  match l, h with
  | [a, b, c, d, e, f], _ => exact ⟨a, b, c, d, e, f, rfl⟩
set_option maxRecDepth 100000 in
theorem openObj {H : Type} {enc : TypeId × Value → H} {W : World} {b0 base : Nat} {spare : Nat → Bool} {held : Bool} {v : Value} {d : DataW H} {p : List MemPlace}
    (hv : Value.okWide Tryz.prog W .any b0 27 v) (h : DataW.Trod enc Tryz.prog W base spare held 27 v d p) (hw : ∀ n ∈ d.weights Tryz.prog 27, n ≤ reachBytes) :
    ∃ (nm : ByteArray) (dA : Int) (A1 A2 A3 A4 : Option Addr) (c1 c2 c3 c4 : Nat) (code data : List Int) (ss : List Sym) (rs : List Rel),
      v = .agg #[.string nm, .slice A1 code.length c1, .int .i64 dA, .slice A2 data.length c2, .slice A3 ss.length c3, .slice A4 rs.length c4] ∧
      IntsAt W A1 .u32 code ∧ IntsAt W A2 .i64 data ∧ SymsAt W A3 ss ∧ RelsAt W A4 rs ∧ (∀ i, i < code.length → 0 ≤ nth code i ∧ nth code i < 4294967296) ∧ (∀ i, (sName ss i).size ≤ 140737488355328) ∧ ss.length ≤ 140737488355328 ∧ nm.size ≤ maxLen ∧ (-9223372036854775808 ≤ dA ∧ dA ≤ 9223372036854775807) ∧ (A1 = none → c1 = 0) ∧ (A2 = none → c2 = 0) ∧ (A3 = none → c3 = 0) ∧ (A4 = none → c4 = 0) ∧ (∀ i, i < data.length → -9223372036854775808 ≤ nth data i ∧ nth data i < 9223372036854775808) := by
  obtain ⟨cs, rfl, hsz⟩ := okWide_struct Tryz.underlying27 hv
  obtain ⟨v0, v1, v2, v3, v4, v5, rfl⟩ := six (hsz.trans (by kernel_rfl))
  obtain ⟨fuel, hf⟩ := h
  obtain ⟨xs, n, _, hdd, _, hlen, hf⟩ := DataW.trod_struct Tryz.underlying27 hf
  match xs, hlen with
  | [y0, y1, y2, y3, y4, y5], _ =>
    have h0 := hf 0 _ rfl
    have h1 := hf 1 _ rfl
    have h2 := hf 2 _ rfl
    have h3 := hf 3 _ rfl
    have h4 := hf 4 _ rfl
    have h5 := hf 5 _ rfl
    simp [Value.cells, show Tryz.prog.cellsOf 9 = 1 by kernel_rfl, show Tryz.prog.cellsOf 22 = 1 by kernel_rfl, show Tryz.prog.cellsOf 3 = 1 by kernel_rfl, show Tryz.prog.cellsOf 23 = 1 by kernel_rfl, show Tryz.prog.cellsOf 24 = 1 by kernel_rfl, show Tryz.prog.cellsOf 25 = 1 by kernel_rfl] at h0 h1 h2 h3 h4 h5
    obtain ⟨nm, e0, _, hnm⟩ := DataW.trod_string Tryz.underlying9 h0
    obtain ⟨A1, c1, code, e1, k1, _, r1, u1⟩ := open_i Tryz.underlying22 Tryz.underlying78 (by kernel_rfl) h1
    obtain ⟨dA, e2, _, w2⟩ := DataW.trod_int Tryz.underlying3 h2
    obtain ⟨A2, c2, data, e3, k3, _, r3, u2⟩ := open_i Tryz.underlying23 Tryz.underlying2 (by kernel_rfl) h3
    obtain ⟨A3, c3, ss, e4, k4, n4, _, u3⟩ := open_syms h4
    obtain ⟨A4, c4, rs, e5, k5, _, u4⟩ := open_rels h5
    have hw4 : ∀ n ∈ y4.1.weights Tryz.prog 24, n ≤ reachBytes := fun n hn => by
      refine hw n ?_
      have hd : d = .agg [y0.1, y1.1, y2.1, y3.1, y4.1, y5.1] := congrArg Prod.fst hdd
      rw [hd]
      simp only [DataW.weights, Tryz.underlying27]
      exact DataW.weights_mem_each (j := 4) (t := 24) rfl rfl n hn
    simp at e0 e1 e2 e3 e4 e5
    subst e0 e1 e2 e3 e4 e5
    refine ⟨nm, dA, A1, A2, A3, A4, c1, c2, c3, c4, code, data, ss, rs, rfl, k1, k3, k4, k5, fun i hi => ?_, ?_, ?_, hnm, ?_, u1, u2, u3, u4, fun i hi => ?_⟩
    · have := r1 i hi
      simp [Lit.wf, IntKind.min, IntKind.max, IntKind.signed, IntKind.bits] at this
      omega
    · intro i
      have := (n4 hw4).2 i
      simp [reachBytes] at this; omega
    · have := (n4 hw4).1
      simp [reachBytes] at this; omega
    · simp [Lit.wf, IntKind.min, IntKind.max, IntKind.signed, IntKind.bits] at w2
      omega
    · have := r3 i hi
      simp [Lit.wf, IntKind.min, IntKind.max, IntKind.signed, IntKind.bits] at this
      omega



end Go.Proofs.YthfcimmfkibmjaaGreatDoor
