/-
  The statement on there and back returns true, and makes new memory alone.
-/
import Derived.Test.YthfcimmfkibmjaaGreatDoorProg
import Derived.WalkKit
import Derived.WalkSpells
import Derived.WalkLawsBesides
import Derived.RowKit3
import Derived.Below
import Derived.Deep.QuietTactic
import Derived.BigQuiet
import Derived.WalkSmall
import Derived.Laws.Rows
import Derived.Test.YthfcimmfkibmjaaGreatDoorP31
import Derived.Test.YthfcimmfkibmjaaGreatDoorP32
import Derived.Deep.AppendLies
namespace Go.Proofs.YthfcimmfkibmjaaGreatDoor
open Go.RowKit


theorem or_three {X Z : Prop} {a b c d : Int} {r : Ending} {u : Value} (h : (¬ a = 0 ∧ r = .returned (.tuple #[u, .int .i64 a, .int .i64 b])) ∨ (X ∧ ¬ c = 0 ∧ r = .returned (.tuple #[u, .int .i64 c, .int .i64 d])) ∨ Z) : (∃ E N : Int, ¬ E = 0 ∧ r = .returned (.tuple #[u, .int .i64 E, .int .i64 N])) ∨ Z := by
  rcases h with ⟨h0, h1⟩ | ⟨_, h0, h1⟩ | h
  · exact Or.inl ⟨_, _, h0, h1⟩
  · exact Or.inl ⟨_, _, h0, h1⟩
  · exact Or.inr h
theorem wrote_nil {nm : ByteArray} {code : List Int} {dA : Int} {data : List Int} {ss : List Sym} {rs : List Rel} {w w' : World} {A : Option Addr} {n c : Nat} {x : Value} (h : WroteP nm code dA data ss rs w (.returned (.tuple #[.slice A n c, x])) w') (hk : (checkC nm code dA data.length ss rs).1 = 0) : A = none → c = 0 := by
  unfold WroteP at h
  rw [if_pos hk] at h
  obtain ⟨v, h1, h2, _⟩ := h
  cases h1
  intro e
  rcases h2.2 with ⟨hv, _⟩ | ⟨g, cap, cur, hv, _⟩
  · cases hv; rfl
  · cases hv; cases e
theorem lb_box {w w1 : World} {B : Nat} {cs : Array Value} {t : TypeId} (h : w.heap[B]? = some (.cells cs t (0, 0))) (hb : Below w.heap.size w w1) : w1.heap[B]? = some (.cells cs t (0, 0)) := by
  rw [hb.block B (Array.getElem?_eq_some_iff.1 h).1]; exact h

set_option maxRecDepth 100000 in
set_option maxHeartbeats 8000000 in
theorem lawRound (nm : ByteArray) (dA : Int) (A1 A2 A3 A4 : Option Addr) (c1 c2 c3 c4 : Nat) (code data : List Int) (ss : List Sym) (rs : List Rel) (pl tb : Int) (O : Option Addr) (cap : Nat) (zs : List Int) (w : World) (hT : w.cell? ⟨0, 0, none⟩ = some errT)
    (hC : IntsAt w A1 .u32 code) (hD : IntsAt w A2 .i64 data) (hS : SymsAt w A3 ss) (hL : RelsAt w A4 rs) (u1 : A1 = none → c1 = 0) (u2 : A2 = none → c2 = 0) (u3 : A3 = none → c3 = 0) (u4 : A4 = none → c4 = 0) (hR : ∀ i, i < code.length → 0 ≤ nth code i ∧ nth code i < 4294967296) (hR2 : ∀ i, i < data.length → -9223372036854775808 ≤ nth data i ∧ nth data i < 9223372036854775808)
    (hN : ∀ i, (sName ss i).size ≤ 140737488355328) (hn : ss.length ≤ 140737488355328) (hA : -9223372036854775808 ≤ dA ∧ dA ≤ 9223372036854775807) (hp : -9223372036854775808 ≤ pl ∧ pl ≤ 9223372036854775807) (ht : 0 ≤ tb ∧ tb < 256) (hZ : IntsAt w O .u8 zs) (hZ2 : ∀ i, i < zs.length → 0 ≤ nth zs i ∧ nth zs i < 256) (u5 : O = none → cap = 0) (hml : zs.length ≤ maxLen) :
    Calls Tryz.prog 5 #[.agg #[.string nm, .slice A1 code.length c1, .int .i64 dA, .slice A2 data.length c2, .slice A3 ss.length c3, .slice A4 rs.length c4], .int .i64 pl, .int .u8 tb, .slice O zs.length cap] w fun e w' => e = .returned (.bool true) ∧ Below w.heap.size w w' := by
  unfold maxLen at hml
  have LV := fun wx (hx : Below w.heap.size w wx) => lives_any wx (lkeep hx hT)
  have hB0 := lb_alloc (Below.refl w.heap.size w) (.cells #[.string nm, .slice A1 code.length c1, .int .i64 dA, .slice A2 data.length c2, .slice A3 ss.length c3, .slice A4 rs.length c4] 27)
  have hbx0 : Hid ((w.alloc (.cells #[.string nm, .slice A1 code.length c1, .int .i64 dA, .slice A2 data.length c2, .slice A3 ss.length c3, .slice A4 rs.length c4] 27)).heap[w.heap.size]? = some (.cells #[.string nm, .slice A1 code.length c1, .int .i64 dA, .slice A2 data.length c2, .slice A3 ss.length c3, .slice A4 rs.length c4] 27 (0, 0))) := heap_alloc_new _ _
  have HB0 : Hid _ := hB0
  go_enter Tryz.func5, Tryz.ntmps5
  go_wp2_with fail
  refine (heavy_any nm dA A1 A2 A3 A4 code.length c1 data.length c2 c3 rs.length c4 ss _ (hS.keep HB0.out) hN hn).mono ?_
  rintro e w1 ⟨B, rfl, hv, hb1⟩
  have HB1 : Hid (Below w.heap.size w w1) := lb_trans HB0.out hb1
  have hbx1 : Hid _ := lb_box hbx0.out hb1
  clear hb1 hB0
  cases B with
  | true =>
    clear hv
    go_wp2_with (go_at_call 7; refine (LV _ HB1.out).mono ?_; rintro e w2 ⟨rfl, hb2⟩)
    go_ret
    exact ⟨rfl, lb_trans HB1.out hb2⟩
  | false =>
    obtain ⟨b3, _, bc, bd, bl⟩ := hv rfl
    clear hv
    by_cases hz : 65536 < zs.length
    · go_wp2_with (go_at_call 7; refine (LV _ HB1.out).mono ?_; rintro e w2 ⟨rfl, hb2⟩)
      go_ret
      exact ⟨rfl, lb_trans HB1.out hb2⟩
    have hAz : AreB zs := fun x hx => by
      obtain ⟨i, hi, e⟩ := List.getElem_of_mem hx
      have := hZ2 i hi
      simpa [nth, List.getD, hi, e] using this
    go_wp2_with fail
    refine (copybytes_any O cap zs _ (hZ.keep HB1.out) u5 (by omega)).mono ?_
    intro r w2 hr
    obtain ⟨Az, cz, rfl, _, hIz, hcz, hb2⟩ := bcopied hr
    have HB2 : Hid (Below w.heap.size w w2) := lb_trans HB1.out hb2
    have hbx2 : Hid _ := lb_box hbx1.out hb2
    have HIz : Hid (IntsAt w2 Az .u8 zs) := hIz
    clear hr hb2 hIz
    go_wp2_with fail
    refine (read_any Az cz zs _ HIz.out hAz (by omega) hcz (lkeep HB2.out hT)).mono ?_
    intro r w3 hr
    obtain ⟨hb3, hr⟩ := hr
    have HB3 : Hid (Below w.heap.size w w3) := lb_trans HB2.out hb3
    have hbx3 : Hid _ := lb_box hbx2.out hb3
    clear hb3
    rcases or_three hr with ⟨E, Nn, h0, rfl⟩ | ⟨h0, h1, X1, X2, X3, X4, x1, x2, x3, x4, rfl, rows⟩
    · have h0e : (E == 0) = false := by simpa using h0
      have HB4 : Hid (Below w.heap.size w (w3.alloc (.cells #[.string ⟨#[]⟩, .slice none 0 0, .int .i64 0, .slice none 0 0, .slice none 0 0, .slice none 0 0] 27))) := lb_alloc HB3.out _
      have hbx4 : Hid _ := lb_box hbx3.out (lb_alloc (Below.refl _ w3) (.cells #[.string ⟨#[]⟩, .slice none 0 0, .int .i64 0, .slice none 0 0, .slice none 0 0, .slice none 0 0] 27))
      clear h0
      obtain ⟨d0, d1, d2, d3, d4, d5⟩ := box6_cell hbx4.out
      go_wp2_with fail
      refine (copyobj_any nm dA A1 A2 A3 A4 c1 c2 c3 c4 code data ss rs _ (hC.keep HB4.out) (hD.keep HB4.out) (hS.keep HB4.out) (hL.keep HB4.out) u1 u2 u3 u4 (by omega) (by omega) (by omega) (by omega)).mono ?_
      intro r w5 hr
      obtain ⟨Y1, Y2, Y3, Y4, y1, y2, y3, y4, rfl, hb5, kC, kD, kS, kL⟩ := copied hr
      have HB5 : Hid (Below w.heap.size w w5) := lb_trans HB4.out hb5
      have hbx5 : Hid _ := lb_box hbx4.out hb5
      have KC : Hid _ := objcheck_any nm dA Y1 Y2 Y3 Y4 y1 data.length y2 y3 y4 code ss rs w5 kC kS kL hR (by omega) (by omega) (by omega) (by omega) hN hA
      clear hr hb5 kC kD kS kL
      go_wp2_with fail
      refine (Calls.mono KC.out ?_)
      rintro e w6 ⟨rfl, hb6⟩
      have HB6 : Hid (Below w.heap.size w w6) := lb_trans HB5.out hb6
      have hbx6 : Hid _ := lb_box hbx5.out hb6
      obtain ⟨d0, d1, d2, d3, d4, d5⟩ := box6_cell hbx6.out
      clear hb6 KC
      go_wp2_with fail
      refine (copyobj_any nm dA A1 A2 A3 A4 c1 c2 c3 c4 code data ss rs _ (hC.keep HB6.out) (hD.keep HB6.out) (hS.keep HB6.out) (hL.keep HB6.out) u1 u2 u3 u4 (by omega) (by omega) (by omega) (by omega)).mono ?_
      intro r w7 hr
      obtain ⟨Y1, Y2, Y3, Y4, y1, y2, y3, y4, rfl, hb7, kC, kD, kS, kL⟩ := copied hr
      have HB7 : Hid (Below w.heap.size w w7) := lb_trans HB6.out hb7
      have hbx7 : Hid _ := lb_box hbx6.out hb7
      have KC : Hid _ := write_any nm dA Y1 Y2 Y3 Y4 y1 y2 y3 y4 code data ss rs w7 kC kD kS kL hR (by omega) (by omega) (by omega) (by omega) hN hA
      clear hr hb7 kC kD kS kL
      go_wp2_with fail
      refine (Calls.mono KC.out ?_)
      intro r w8 hr
      by_cases hk : (checkC nm code dA data.length ss rs).1 = 0
      · obtain ⟨Ab, cb, rfl, _, hIb, hcb, hb8⟩ := wrote_ok hr hk
        have hlen := may_len hk
        have HK : Hid _ := hk
        rw [hk]
        have HB8 : Hid (Below w.heap.size w w8) := lb_trans HB7.out hb8
        have hbx8 : Hid _ := lb_box hbx7.out hb8
        have HIb : Hid (IntsAt w8 Ab .u8 (bytesB nm code dA data ss rs)) := hIb
        have hub : Hid (Ab = none → cb = 0) := wrote_nil hr hk
        clear hr hb8 hIb KC hk
        go_wp2_with fail
        refine (copybytes_any Ab cb (bytesB nm code dA data ss rs) _ HIb.out hub.out (by omega)).mono ?_
        intro r w9 hr
        obtain ⟨Ac, cc, rfl, _, hIc, hcc, hb9⟩ := bcopied hr
        have HB9 : Hid (Below w.heap.size w w9) := lb_trans HB8.out hb9
        have hbx9 : Hid _ := lb_box hbx8.out hb9
        have HIb : Hid (IntsAt w9 Ab .u8 (bytesB nm code dA data ss rs)) := HIb.out.keep hb9
        have HIc : Hid (IntsAt w9 Ac .u8 (bytesB nm code dA data ss rs)) := hIc
        clear hr hb9 hIc
        go_wp2_with fail
        refine (read_any Ac cc (bytesB nm code dA data ss rs) _ HIc.out (bytes_areB _ _ _ _ _ _) (by omega) hcc (lkeep HB9.out hT)).mono ?_
        intro r w10 hr
        obtain ⟨Z1, Z2, Z3, Z4, z1, z2, z3, z4, rfl, rows, hb10⟩ := read_ok hr HK.out hR hR2
        have HB10 : Hid (Below w.heap.size w (w10.alloc (.cells #[.string nm, .slice Z1 code.length z1, .int .i64 dA, .slice Z2 data.length z2, .slice Z3 ss.length z3, .slice Z4 rs.length z4] 27))) := lb_alloc (lb_trans HB9.out hb10) _
        have hbx10 : Hid _ := lb_box hbx9.out (lb_alloc hb10 (.cells #[.string nm, .slice Z1 code.length z1, .int .i64 dA, .slice Z2 data.length z2, .slice Z3 ss.length z3, .slice Z4 rs.length z4] 27))
        have hby10 : Hid ((w10.alloc (.cells #[.string nm, .slice Z1 code.length z1, .int .i64 dA, .slice Z2 data.length z2, .slice Z3 ss.length z3, .slice Z4 rs.length z4] 27)).heap[w10.heap.size]? = some (.cells #[.string nm, .slice Z1 code.length z1, .int .i64 dA, .slice Z2 data.length z2, .slice Z3 ss.length z3, .slice Z4 rs.length z4] 27 (0, 0))) := heap_alloc_new _ _
        have HIb : Hid (IntsAt (w10.alloc (.cells #[.string nm, .slice Z1 code.length z1, .int .i64 dA, .slice Z2 data.length z2, .slice Z3 ss.length z3, .slice Z4 rs.length z4] 27)) Ab .u8 (bytesB nm code dA data ss rs)) := HIb.out.keep (lb_alloc hb10 _)
        have R10 : Hid _ := rows.keep (lb_alloc (Below.refl _ w10) (.cells #[.string nm, .slice Z1 code.length z1, .int .i64 dA, .slice Z2 data.length z2, .slice Z3 ss.length z3, .slice Z4 rs.length z4] 27))
        obtain ⟨d0, d1, d2, d3, d4, d5⟩ := box6_cell hbx10.out
        obtain ⟨q0, q1, q2, q3, q4, q5⟩ := box6_cell hby10.out
        clear hr hb10 rows
        go_wp2_with fail
        refine (eqobj_same nm dA Z1 Z2 Z3 Z4 z1 z2 z3 z4 code data ss rs _ A1 A2 A3 A4 c1 c2 c3 c4 (row_ints R10.out.r1) (row_ints R10.out.r2) (row_syms R10.out.r3) (row_rels R10.out.r4) (by omega) (by omega) (by omega) (by omega) (hC.keep HB10.out) (hD.keep HB10.out) (hS.keep HB10.out) (hL.keep HB10.out)).mono ?_
        rintro e w11 ⟨rfl, hb11⟩
        have HB11 : Hid (Below w.heap.size w w11) := lb_trans HB10.out hb11
        have HIb : Hid (IntsAt w11 Ab .u8 (bytesB nm code dA data ss rs)) := HIb.out.keep hb11
        clear hb11
        by_cases hp0 : pl < 0
        · go_wp2_with (go_at_call 7; refine (LV _ HB11.out).mono ?_; rintro e w12 ⟨rfl, hb12⟩)
          go_ret
          exact ⟨rfl, lb_trans HB11.out hb12⟩
        by_cases hp1 : ((bytesB nm code dA data ss rs).length : Int) ≤ pl
        · go_wp2_with (go_at_call 7; refine (LV _ HB11.out).mono ?_; rintro e w12 ⟨rfl, hb12⟩)
          go_ret
          exact ⟨rfl, lb_trans HB11.out hb12⟩
        obtain ⟨i, rfl⟩ := Int.eq_ofNat_of_zero_le (show 0 ≤ pl by omega)
        have hi : i < (bytesB nm code dA data ss rs).length := by omega
        obtain ⟨a, rfl, q⟩ := HIb.out i hi
        by_cases hq : nth (bytesB nm code dA data ss rs) i = tb
        · have hqe : (nth (bytesB nm code dA data ss rs) i == tb) = true := by simpa using hq
          clear hq
          go_wp2_with (go_at_call 7; refine (LV _ HB11.out).mono ?_; rintro e w12 ⟨rfl, hb12⟩)
          go_ret
          exact ⟨rfl, lb_trans HB11.out hb12⟩
        have HQ : Hid _ := hq
        have hqe : (nth (bytesB nm code dA data ss rs) i == tb) = false := by simpa using hq
        have hm := may_len HK.out
        clear hq
        go_wp2_with fail
        refine (copybytes_any (some a) cb (bytesB nm code dA data ss rs) _ HIb.out hub.out (by omega)).mono ?_
        intro r w12 hr
        obtain ⟨Ad, cd, rfl, ho, _, hcd, hb12⟩ := bcopied hr
        obtain ⟨gd, capd, hAd, _, hgd⟩ := ho.form (by omega)
        cases hAd
        have HB12 : Hid (Below w.heap.size w w12) := lb_trans HB11.out hb12
        have hcl : w12.cell? ⟨gd, i, none⟩ = some (.int .u8 (nth (bytesB nm code dA data ss rs) i)) := by
          have := ho.cells rfl i _ (iVals_get hi)
          rwa [add0] at this
        have hfr := ho.frozenAt i
        obtain ⟨hst, hsg⟩ := ho.stored i (.int .u8 tb)
        rw [← iVals_set] at hst
        have HI13 : Hid (IntsAt (w12.setCell ⟨gd, i, none⟩ (.int .u8 tb)) (some ⟨gd, 0, none⟩) .u8 ((bytesB nm code dA data ss rs).set i tb)) := row_ints (by rw [List.length_set]; exact hst)
        have hlt12 := ho.lt gd rfl
        have HB13 : Hid (Below w.heap.size w (w12.setCell ⟨gd, i, none⟩ (.int .u8 tb))) := HB12.out.setCell (by have := HB11.out.size; show w.heap.size ≤ gd; omega) _
        have had : (⟨gd, 0, none⟩ : Addr).add i = ⟨gd, i, none⟩ := add0 gd i
        have RD := read_any (some ⟨gd, 0, none⟩) cd ((bytesB nm code dA data ss rs).set i tb) _ HI13.out (set_areB (bytes_areB _ _ _ _ _ _) ht) (by rw [List.length_set]; omega) (by rw [List.length_set]; exact hcd) (lkeep HB13.out hT)
        rw [List.length_set] at RD
        clear hr ho hb12 hst hsg q HIb
        go_wp2_with fail
        refine RD.mono ?_
        intro r w13 hr
        obtain ⟨E2, N2, hE2, rfl, hb13⟩ := changed hi ht HQ.out hr
        have hEb : (E2 != 0) = true := by simpa using hE2
        have HB14 : Hid (Below w.heap.size w (w13.alloc (.cells #[.string ⟨#[]⟩, .slice none 0 0, .int .i64 0, .slice none 0 0, .slice none 0 0, .slice none 0 0] 27))) := lb_alloc (lb_trans HB13.out hb13) _
        clear hr hE2 hb13 RD
        go_wp2_with (go_at_call 7; refine (LV _ HB14.out).mono ?_; rintro e w14 ⟨rfl, hb14⟩)
        go_ret
        exact ⟨rfl, lb_trans HB14.out hb14⟩
      · obtain ⟨rfl, hb8⟩ := wrote_no hr hk
        have HB8 : Hid (Below w.heap.size w w8) := lb_trans HB7.out hb8
        have hkb : ((checkC nm code dA data.length ss rs).1 != 0) = true := by simpa using hk
        have hkc : ((checkC nm code dA data.length ss rs).1 == (checkC nm code dA data.length ss rs).1) = true := by simp
        clear hr hb8 KC hk
        generalize (checkC nm code dA data.length ss rs).1 = E at *
        go_wp2_with (go_at_call 7; refine (LV _ HB8.out).mono ?_; rintro e w9 ⟨rfl, hb9⟩)
        go_ret
        exact ⟨rfl, lb_trans HB8.out hb9⟩
    · obtain ⟨hw, k1, k2, k3, k4, k5, k6, k7, k8, k9, k10⟩ := took_write hAz h0
      generalize took zs = T at *
      obtain ⟨nm0, code0, dA0, data0, ss0, rs0, tk0⟩ := T
      simp only at rows h1 k1 k2 k3 k4 k5 k6 k7 k8 k9 k10 ⊢
      have hgr : great = 2147483647 := rfl
      rw [hgr] at k4
      have hbxx : Hid ((w3.alloc (.cells #[.string nm0, .slice X1 code0.length x1, .int .i64 dA0, .slice X2 data0.length x2, .slice X3 ss0.length x3, .slice X4 rs0.length x4] 27)).heap[w3.heap.size]? = some (.cells #[.string nm0, .slice X1 code0.length x1, .int .i64 dA0, .slice X2 data0.length x2, .slice X3 ss0.length x3, .slice X4 rs0.length x4] 27 (0, 0))) := heap_alloc_new _ _
      have R4 : Hid _ := rows.keep (lb_alloc (Below.refl _ w3) (.cells #[.string nm0, .slice X1 code0.length x1, .int .i64 dA0, .slice X2 data0.length x2, .slice X3 ss0.length x3, .slice X4 rs0.length x4] 27))
      have HB4 : Hid (Below w.heap.size w (w3.alloc (.cells #[.string nm0, .slice X1 code0.length x1, .int .i64 dA0, .slice X2 data0.length x2, .slice X3 ss0.length x3, .slice X4 rs0.length x4] 27))) := lb_alloc HB3.out _
      have hbx4 : Hid _ := lb_box hbx3.out (lb_alloc (Below.refl _ w3) (.cells #[.string nm0, .slice X1 code0.length x1, .int .i64 dA0, .slice X2 data0.length x2, .slice X3 ss0.length x3, .slice X4 rs0.length x4] 27))
      have KW : Hid _ := write_any nm0 dA0 X1 X2 X3 X4 x1 x2 x3 x4 code0 data0 ss0 rs0 _ (row_ints R4.out.r1) (row_ints R4.out.r2) (row_syms R4.out.r3) (row_rels R4.out.r4) (fun i hi => k3 _ (by simp [nth, List.getD, hi])) (by omega) (by omega) (by omega) (by omega) (fun i => by
        by_cases hi : i < ss0.length
        · have := (k8 (ss0.getD i symD) (by simp [List.getD, hi])).1
          show (ss0.getD i symD).1.size ≤ _
          omega
        · have e : sName ss0 i = ⟨#[]⟩ := by simp [sName, List.getD, hi, symD]
          rw [e]
          show (0 : Nat) ≤ _
          omega) ⟨by omega, by omega⟩
      have Hw : Hid (zs = bytesB nm0 code0 dA0 data0 ss0 rs0) := hw
      have H1 : Hid _ := h1
      obtain ⟨q0, q1, q2, q3, q4, q5⟩ := box6_cell hbxx.out
      clear rows h0 h1 hw k1 k2 k3 k4 k5 k6 k7 k8 k9 k10 hgr
      go_wp2_with fail
      refine (Calls.mono KW.out ?_)
      intro r w4 hr
      obtain ⟨Aq, cq, rfl, _, hIq, _, hb4⟩ := wrote_ok hr H1.out
      have HB4 : Hid (Below w.heap.size w w4) := lb_trans HB4.out hb4
      have hbx4 : Hid _ := lb_box hbx4.out hb4
      have EQ := eqbytes_any Aq O cq cap (bytesB nm0 code0 dA0 data0 ss0 rs0) zs w4 hIq (hZ.keep HB4.out) (by rw [← Hw.out]; omega)
      rw [decide_eq_true Hw.out.symm] at EQ
      clear hr hb4 hIq KW
      go_wp2_with fail
      refine EQ.mono ?_
      rintro e w4 ⟨rfl, hb4⟩
      have HB4 : Hid (Below w.heap.size w w4) := lb_trans HB4.out hb4
      have hbx4 : Hid _ := lb_box hbx4.out hb4
      clear hb4 EQ
      obtain ⟨d0, d1, d2, d3, d4, d5⟩ := box6_cell hbx4.out
      go_wp2_with fail
      refine (copyobj_any nm dA A1 A2 A3 A4 c1 c2 c3 c4 code data ss rs _ (hC.keep HB4.out) (hD.keep HB4.out) (hS.keep HB4.out) (hL.keep HB4.out) u1 u2 u3 u4 (by omega) (by omega) (by omega) (by omega)).mono ?_
      intro r w5 hr
      obtain ⟨Y1, Y2, Y3, Y4, y1, y2, y3, y4, rfl, hb5, kC, kD, kS, kL⟩ := copied hr
      have HB5 : Hid (Below w.heap.size w w5) := lb_trans HB4.out hb5
      have hbx5 : Hid _ := lb_box hbx4.out hb5
      have KC : Hid _ := objcheck_any nm dA Y1 Y2 Y3 Y4 y1 data.length y2 y3 y4 code ss rs w5 kC kS kL hR (by omega) (by omega) (by omega) (by omega) hN hA
      clear hr hb5 kC kD kS kL
      go_wp2_with fail
      refine (Calls.mono KC.out ?_)
      rintro e w6 ⟨rfl, hb6⟩
      have HB6 : Hid (Below w.heap.size w w6) := lb_trans HB5.out hb6
      have hbx6 : Hid _ := lb_box hbx5.out hb6
      obtain ⟨d0, d1, d2, d3, d4, d5⟩ := box6_cell hbx6.out
      clear hb6 KC
      go_wp2_with fail
      refine (copyobj_any nm dA A1 A2 A3 A4 c1 c2 c3 c4 code data ss rs _ (hC.keep HB6.out) (hD.keep HB6.out) (hS.keep HB6.out) (hL.keep HB6.out) u1 u2 u3 u4 (by omega) (by omega) (by omega) (by omega)).mono ?_
      intro r w7 hr
      obtain ⟨Y1, Y2, Y3, Y4, y1, y2, y3, y4, rfl, hb7, kC, kD, kS, kL⟩ := copied hr
      have HB7 : Hid (Below w.heap.size w w7) := lb_trans HB6.out hb7
      have hbx7 : Hid _ := lb_box hbx6.out hb7
      have KC : Hid _ := write_any nm dA Y1 Y2 Y3 Y4 y1 y2 y3 y4 code data ss rs w7 kC kD kS kL hR (by omega) (by omega) (by omega) (by omega) hN hA
      clear hr hb7 kC kD kS kL
      go_wp2_with fail
      refine (Calls.mono KC.out ?_)
      intro r w8 hr
      by_cases hk : (checkC nm code dA data.length ss rs).1 = 0
      · obtain ⟨Ab, cb, rfl, _, hIb, hcb, hb8⟩ := wrote_ok hr hk
        have hlen := may_len hk
        have HK : Hid _ := hk
        rw [hk]
        have HB8 : Hid (Below w.heap.size w w8) := lb_trans HB7.out hb8
        have hbx8 : Hid _ := lb_box hbx7.out hb8
        have HIb : Hid (IntsAt w8 Ab .u8 (bytesB nm code dA data ss rs)) := hIb
        have hub : Hid (Ab = none → cb = 0) := wrote_nil hr hk
        clear hr hb8 hIb KC hk
        go_wp2_with fail
        refine (copybytes_any Ab cb (bytesB nm code dA data ss rs) _ HIb.out hub.out (by omega)).mono ?_
        intro r w9 hr
        obtain ⟨Ac, cc, rfl, _, hIc, hcc, hb9⟩ := bcopied hr
        have HB9 : Hid (Below w.heap.size w w9) := lb_trans HB8.out hb9
        have hbx9 : Hid _ := lb_box hbx8.out hb9
        have HIb : Hid (IntsAt w9 Ab .u8 (bytesB nm code dA data ss rs)) := HIb.out.keep hb9
        have HIc : Hid (IntsAt w9 Ac .u8 (bytesB nm code dA data ss rs)) := hIc
        clear hr hb9 hIc
        go_wp2_with fail
        refine (read_any Ac cc (bytesB nm code dA data ss rs) _ HIc.out (bytes_areB _ _ _ _ _ _) (by omega) hcc (lkeep HB9.out hT)).mono ?_
        intro r w10 hr
        obtain ⟨Z1, Z2, Z3, Z4, z1, z2, z3, z4, rfl, rows, hb10⟩ := read_ok hr HK.out hR hR2
        have HB10 : Hid (Below w.heap.size w (w10.alloc (.cells #[.string nm, .slice Z1 code.length z1, .int .i64 dA, .slice Z2 data.length z2, .slice Z3 ss.length z3, .slice Z4 rs.length z4] 27))) := lb_alloc (lb_trans HB9.out hb10) _
        have hbx10 : Hid _ := lb_box hbx9.out (lb_alloc hb10 (.cells #[.string nm, .slice Z1 code.length z1, .int .i64 dA, .slice Z2 data.length z2, .slice Z3 ss.length z3, .slice Z4 rs.length z4] 27))
        have hby10 : Hid ((w10.alloc (.cells #[.string nm, .slice Z1 code.length z1, .int .i64 dA, .slice Z2 data.length z2, .slice Z3 ss.length z3, .slice Z4 rs.length z4] 27)).heap[w10.heap.size]? = some (.cells #[.string nm, .slice Z1 code.length z1, .int .i64 dA, .slice Z2 data.length z2, .slice Z3 ss.length z3, .slice Z4 rs.length z4] 27 (0, 0))) := heap_alloc_new _ _
        have HIb : Hid (IntsAt (w10.alloc (.cells #[.string nm, .slice Z1 code.length z1, .int .i64 dA, .slice Z2 data.length z2, .slice Z3 ss.length z3, .slice Z4 rs.length z4] 27)) Ab .u8 (bytesB nm code dA data ss rs)) := HIb.out.keep (lb_alloc hb10 _)
        have R10 : Hid _ := rows.keep (lb_alloc (Below.refl _ w10) (.cells #[.string nm, .slice Z1 code.length z1, .int .i64 dA, .slice Z2 data.length z2, .slice Z3 ss.length z3, .slice Z4 rs.length z4] 27))
        obtain ⟨d0, d1, d2, d3, d4, d5⟩ := box6_cell hbx10.out
        obtain ⟨q0, q1, q2, q3, q4, q5⟩ := box6_cell hby10.out
        clear hr hb10 rows
        go_wp2_with fail
        refine (eqobj_same nm dA Z1 Z2 Z3 Z4 z1 z2 z3 z4 code data ss rs _ A1 A2 A3 A4 c1 c2 c3 c4 (row_ints R10.out.r1) (row_ints R10.out.r2) (row_syms R10.out.r3) (row_rels R10.out.r4) (by omega) (by omega) (by omega) (by omega) (hC.keep HB10.out) (hD.keep HB10.out) (hS.keep HB10.out) (hL.keep HB10.out)).mono ?_
        rintro e w11 ⟨rfl, hb11⟩
        have HB11 : Hid (Below w.heap.size w w11) := lb_trans HB10.out hb11
        have HIb : Hid (IntsAt w11 Ab .u8 (bytesB nm code dA data ss rs)) := HIb.out.keep hb11
        clear hb11
        by_cases hp0 : pl < 0
        · go_wp2_with (go_at_call 7; refine (LV _ HB11.out).mono ?_; rintro e w12 ⟨rfl, hb12⟩)
          go_ret
          exact ⟨rfl, lb_trans HB11.out hb12⟩
        by_cases hp1 : ((bytesB nm code dA data ss rs).length : Int) ≤ pl
        · go_wp2_with (go_at_call 7; refine (LV _ HB11.out).mono ?_; rintro e w12 ⟨rfl, hb12⟩)
          go_ret
          exact ⟨rfl, lb_trans HB11.out hb12⟩
        obtain ⟨i, rfl⟩ := Int.eq_ofNat_of_zero_le (show 0 ≤ pl by omega)
        have hi : i < (bytesB nm code dA data ss rs).length := by omega
        obtain ⟨a, rfl, q⟩ := HIb.out i hi
        by_cases hq : nth (bytesB nm code dA data ss rs) i = tb
        · have hqe : (nth (bytesB nm code dA data ss rs) i == tb) = true := by simpa using hq
          clear hq
          go_wp2_with (go_at_call 7; refine (LV _ HB11.out).mono ?_; rintro e w12 ⟨rfl, hb12⟩)
          go_ret
          exact ⟨rfl, lb_trans HB11.out hb12⟩
        have HQ : Hid _ := hq
        have hqe : (nth (bytesB nm code dA data ss rs) i == tb) = false := by simpa using hq
        have hm := may_len HK.out
        clear hq
        go_wp2_with fail
        refine (copybytes_any (some a) cb (bytesB nm code dA data ss rs) _ HIb.out hub.out (by omega)).mono ?_
        intro r w12 hr
        obtain ⟨Ad, cd, rfl, ho, _, hcd, hb12⟩ := bcopied hr
        obtain ⟨gd, capd, hAd, _, hgd⟩ := ho.form (by omega)
        cases hAd
        have HB12 : Hid (Below w.heap.size w w12) := lb_trans HB11.out hb12
        have hcl : w12.cell? ⟨gd, i, none⟩ = some (.int .u8 (nth (bytesB nm code dA data ss rs) i)) := by
          have := ho.cells rfl i _ (iVals_get hi)
          rwa [add0] at this
        have hfr := ho.frozenAt i
        obtain ⟨hst, hsg⟩ := ho.stored i (.int .u8 tb)
        rw [← iVals_set] at hst
        have HI13 : Hid (IntsAt (w12.setCell ⟨gd, i, none⟩ (.int .u8 tb)) (some ⟨gd, 0, none⟩) .u8 ((bytesB nm code dA data ss rs).set i tb)) := row_ints (by rw [List.length_set]; exact hst)
        have hlt12 := ho.lt gd rfl
        have HB13 : Hid (Below w.heap.size w (w12.setCell ⟨gd, i, none⟩ (.int .u8 tb))) := HB12.out.setCell (by have := HB11.out.size; show w.heap.size ≤ gd; omega) _
        have had : (⟨gd, 0, none⟩ : Addr).add i = ⟨gd, i, none⟩ := add0 gd i
        have RD := read_any (some ⟨gd, 0, none⟩) cd ((bytesB nm code dA data ss rs).set i tb) _ HI13.out (set_areB (bytes_areB _ _ _ _ _ _) ht) (by rw [List.length_set]; omega) (by rw [List.length_set]; exact hcd) (lkeep HB13.out hT)
        rw [List.length_set] at RD
        clear hr ho hb12 hst hsg q HIb
        go_wp2_with fail
        refine RD.mono ?_
        intro r w13 hr
        obtain ⟨E2, N2, hE2, rfl, hb13⟩ := changed hi ht HQ.out hr
        have hEb : (E2 != 0) = true := by simpa using hE2
        have HB14 : Hid (Below w.heap.size w (w13.alloc (.cells #[.string ⟨#[]⟩, .slice none 0 0, .int .i64 0, .slice none 0 0, .slice none 0 0, .slice none 0 0] 27))) := lb_alloc (lb_trans HB13.out hb13) _
        clear hr hE2 hb13 RD
        go_wp2_with (go_at_call 7; refine (LV _ HB14.out).mono ?_; rintro e w14 ⟨rfl, hb14⟩)
        go_ret
        exact ⟨rfl, lb_trans HB14.out hb14⟩
      · obtain ⟨rfl, hb8⟩ := wrote_no hr hk
        have HB8 : Hid (Below w.heap.size w w8) := lb_trans HB7.out hb8
        have hkb : ((checkC nm code dA data.length ss rs).1 != 0) = true := by simpa using hk
        have hkc : ((checkC nm code dA data.length ss rs).1 == (checkC nm code dA data.length ss rs).1) = true := by simp
        clear hr hb8 KC hk
        generalize (checkC nm code dA data.length ss rs).1 = E at *
        go_wp2_with (go_at_call 7; refine (LV _ HB8.out).mono ?_; rintro e w9 ⟨rfl, hb9⟩)
        go_ret
        exact ⟨rfl, lb_trans HB8.out hb9⟩

end Go.Proofs.YthfcimmfkibmjaaGreatDoor
