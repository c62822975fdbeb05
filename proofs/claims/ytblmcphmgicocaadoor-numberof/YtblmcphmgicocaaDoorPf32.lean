/-
  THE LAW NumberOf.
-/
import Derived.Test.YtblmcphmgicocaaDoorProg
import Derived.WalkKit
import Derived.WalkSpells
import Derived.WalkLawsBesides
import Derived.RowKit3
import Derived.Below
import Derived.Deep.QuietTactic
import Derived.BigQuiet
import Derived.WalkSmall
import Derived.Laws.Rows
import Derived.Test.YtblmcphmgicocaaDoorPf23
import Derived.Test.YtblmcphmgicocaaDoorPf30
import Derived.Test.YtblmcphmgicocaaDoorPf31
namespace Go.Proofs.YtblmcphmgicocaaDoor
open Go.RowKit

theorem Fr.below {qs : List (Value × Nat)} {w w1 w2 : World} {n : Nat} (h : Fr qs w1 w2) (hb : Below n w w1) (hn : n ≤ w1.heap.size) (hq : ∀ m, m < qs.length → ∀ b, (rv qs m).ownBlock = some b → n ≤ b) : Below n w w2 :=
  ⟨h.os.trans hb.os, h.tape.trans hb.tape, h.output.trans hb.output, Nat.le_trans hb.size h.size, fun b hlt => (h.block b (by omega) (fun m hm e => by have := hq m hm b e; omega)).trans (hb.block b hlt)⟩
/-- Two lists in a bag. -/
theorem sep_two {a b : Value} {la lb : Nat} (h : Off a.ownBlock b.ownBlock) : Sep [(a, la), (b, lb)] := fun m m' h1 h2 => by
  have hm : m = 0 ∧ m' = 1 := by simp at h2; omega
  obtain ⟨rfl, rfl⟩ := hm
  exact h
theorem two_all {P : Nat → Prop} (h0 : P 0) (h1 : P 1) (m : Nat) (hm : m < 2) : P m := by
  have hq : m = 0 ∨ m = 1 := by omega
  rcases hq with rfl | rfl
  · exact h0
  · exact h1
theorem rl_two {a b : Value} {la lb M : Nat} (ha : la ≤ M) (hb : lb ≤ M) (m : Nat) : rl [(a, la), (b, lb)] m ≤ M := by
  have hq : m = 0 ∨ m = 1 ∨ 2 ≤ m := by omega
  rcases hq with rfl | rfl | h
  · exact ha
  · exact hb
  · unfold rl
    rw [List.getD_eq_getElem?_getD, List.getElem?_eq_none (by simp; omega)]
    exact Nat.zero_le _
theorem bag_new (w : World) : BagIs (w.alloc (.cells #[.slice none 0 0, .slice none 0 0, .slice none 0 0, .slice none 0 0, .slice none 0 0, .slice none 0 0, .slice none 0 0, .slice none 0 0, .slice none 0 0, .slice none 0 0, .slice none 0 0, .slice none 0 0, .slice none 0 0, .slice none 0 0, .slice none 0 0, .slice none 0 0, .slice none 0 0] 59)) w.heap.size (fun _ => .slice none 0 0) := by
  refine ⟨_, heap_alloc_new _ _, fun k hk => ?_⟩
  have hq : k = 0 ∨ k = 1 ∨ k = 2 ∨ k = 3 ∨ k = 4 ∨ k = 5 ∨ k = 6 ∨ k = 7 ∨ k = 8 ∨ k = 9 ∨ k = 10 ∨ k = 11 ∨ k = 12 ∨ k = 13 ∨ k = 14 ∨ k = 15 ∨ k = 16 := by omega
  rcases hq with rfl | rfl | rfl | rfl | rfl | rfl | rfl | rfl | rfl | rfl | rfl | rfl | rfl | rfl | rfl | rfl | rfl <;> rfl


theorem box3_cell {w : World} {B : Nat} {x y z : Value} {t : TypeId} (h : w.heap[B]? = some (.cells #[x, y, z] t (0, 0))) : w.cell? ⟨B, 0, none⟩ = some x ∧ w.cell? ⟨B, 1, none⟩ = some y ∧ w.cell? ⟨B, 2, none⟩ = some z := by
  refine ⟨?_, ?_, ?_⟩ <;> simp [World.cell?, h]

theorem wideints_lies (A : Option Addr) (c : Nat) (l : List Int) (w : World) (hA : IntsAt w A .i64 l) (hl : l.length ≤ 1048576) : Calls Tryd.prog 6 #[.slice A l.length c] w fun e w' => ∃ g : Nat, e = .returned (.slice (some ⟨g, 0, none⟩) l.length (l.length + 64)) ∧ Below w.heap.size w w' ∧ IntsAt w' (some ⟨g, 0, none⟩) .i64 l ∧ MarkI w' .i64 g l.length := by
  refine (wideints_any A c l w hA hl).mono ?_
  rintro e w' ⟨rfl, rfl⟩
  exact ⟨w.heap.size, rfl, lb_alloc (Below.refl _ _) _, wide_ints _ _ _ _ _, wide_marki _ _ _ _ _⟩
set_option maxRecDepth 100000 in
set_option maxHeartbeats 8000000 in
theorem lawOf (A1 A2 A3 : Option Addr) (c1 c2 c3 : Nat) (ent v u : Int) (text mem any : List Int) (w : World) (hT : IntsAt w A1 .u32 text) (hM : IntsAt w A2 .i64 mem) (hA : IntsAt w A3 .i64 any) (hR : ∀ i, i < text.length → 0 ≤ nth text i ∧ nth text i < 4294967296) (hR3 : ∀ i, i < any.length → -9223372036854775808 ≤ nth any i ∧ nth any i ≤ 9223372036854775807) (v0 : 0 ≤ v) (v1 : v < 4294967296) (u0 : 0 ≤ u) (u1 : u < 4294967296) :
    Calls Tryd.prog 3 #[.agg #[.slice A1 text.length c1, .int .i64 ent, .slice A2 mem.length c2], .int .u32 v, .int .u32 u, .slice A3 any.length c3] w fun e w' => e = .returned (.bool true) ∧ Below w.heap.size w w' := by
  have LV := fun wx => lives_any ofOK sameOK countOK wx
  obtain ⟨W0, HW⟩ : ∃ W0, Hid (w.alloc (.cells #[.slice A1 text.length c1, .int .i64 ent, .slice A2 mem.length c2] 25) = W0) := ⟨_, rfl⟩
  have HB0 : Hid (Below w.heap.size w W0) := by unfold Hid; rw [← HW.out]; exact lb_alloc (Below.refl _ _) _
  have hbx0 : Hid (W0.heap[w.heap.size]? = some (.cells #[.slice A1 text.length c1, .int .i64 ent, .slice A2 mem.length c2] 25 (0, 0))) := by unfold Hid; rw [← HW.out]; exact heap_alloc_new _ _
  obtain ⟨i0, i1, i2⟩ := box3_cell hbx0.out
  go_enter Tryd.func3, Tryd.ntmps3
  go_upto_region 1 with fail
  rw [HW.out]
  clear HW
  by_cases s1 : 2048 < text.length ∧ text.length ≤ 16384
  · have a1 : (2048 : Int) < (text.length : Int) := by omega
    have a2 : (text.length : Int) ≤ 16384 := by omega
    go_wp2_with (go_at_call 4; refine (LV _).mono ?_; rintro e W2 ⟨rfl, hb2⟩)
    go_ret
    exact ⟨rfl, lb_trans HB0.out hb2⟩
  by_cases s2 : 32768 < text.length
  · have a1 : (2048 : Int) < (text.length : Int) := by omega
    have a2 : ¬ (text.length : Int) ≤ 16384 := by omega
    have a3 : (32768 : Int) < (text.length : Int) := by omega
    go_wp2_with (go_at_call 4; refine (LV _).mono ?_; rintro e W2 ⟨rfl, hb2⟩)
    go_ret
    exact ⟨rfl, lb_trans HB0.out hb2⟩
  have hc : text.length ≤ 1048576 := by omega
  have a3 : ¬ (32768 : Int) < (text.length : Int) := by omega
  rcases (show text.length ≤ 2048 ∨ 16384 < text.length by omega) with s3 | s3
  have a1 : ¬ (2048 : Int) < (text.length : Int) := by omega
  rotate_left
  have a0 : (2048 : Int) < (text.length : Int) := by omega
  have a1 : ¬ (text.length : Int) ≤ 16384 := by omega
  rotate_left
  all_goals (
    clear s1 s2 s3
    by_cases s4 : 8192 < mem.length
    · have a4 : (8192 : Int) < (mem.length : Int) := by omega
      go_wp2_with (go_at_call 4; refine (LV _).mono ?_; rintro e W2 ⟨rfl, hb2⟩)
      go_ret
      exact ⟨rfl, lb_trans HB0.out hb2⟩
    have a4 : ¬ (8192 : Int) < (mem.length : Int) := by omega
    have hd : mem.length ≤ 1048576 := by omega
    by_cases s5 : 2048 < any.length
    · have a5 : (2048 : Int) < (any.length : Int) := by omega
      go_wp2_with (go_at_call 4; refine (LV _).mono ?_; rintro e W2 ⟨rfl, hb2⟩)
      go_ret
      exact ⟨rfl, lb_trans HB0.out hb2⟩
    have a5 : ¬ (2048 : Int) < (any.length : Int) := by omega
    have he : any.length ≤ 1048576 := by omega
    clear s4 s5
    go_wp2_with fail
    refine (wideimg_lies A1 A2 c1 c2 text mem ent _ (hT.keep HB0.out) (hM.keep HB0.out) hc hd).mono ?_
    rintro e w2 ⟨g1, g2, rfl, hb2, kT, m1, kM, m2⟩
    have HB2 : Hid (Below w.heap.size w w2) := lb_trans HB0.out hb2
    have hbx2 : Hid _ := lb_box hbx0.out hb2
    have HKT : Hid (IntsAt w2 (some ⟨g1, 0, none⟩) .u32 text) := kT
    have HKM : Hid (IntsAt w2 (some ⟨g2, 0, none⟩) .i64 mem) := kM
    have HM1 : Hid (MarkI w2 .u32 g1 text.length) := m1
    have HM2 : Hid (MarkI w2 .i64 g2 mem.length) := m2
    have hD3 : Hid (Below w2.heap.size w2 (w2.alloc (.cells #[.slice (some ⟨g1, 0, none⟩) text.length (text.length + 64), .int .i64 ent, .slice (some ⟨g2, 0, none⟩) mem.length (mem.length + 64)] 25))) := lb_alloc (Below.refl _ _) _
    have hin3 : Hid ((w2.alloc (.cells #[.slice (some ⟨g1, 0, none⟩) text.length (text.length + 64), .int .i64 ent, .slice (some ⟨g2, 0, none⟩) mem.length (mem.length + 64)] 25)).heap[w2.heap.size]? = some (.cells #[.slice (some ⟨g1, 0, none⟩) text.length (text.length + 64), .int .i64 ent, .slice (some ⟨g2, 0, none⟩) mem.length (mem.length + 64)] 25 (0, 0))) := heap_alloc_new _ _
    have K1 : Hid (∀ wx, Below w2.heap.size w2 wx → Calls Tryd.prog 7 #[.agg #[.slice (some ⟨g1, 0, none⟩) text.length (text.length + 64), .int .i64 ent, .slice (some ⟨g2, 0, none⟩) mem.length (mem.length + 64)]] wx (OfA (ansL (checkI text mem.length ent).1 text) (checkI text mem.length ent).1 wx)) := fun wx h => of_all (some ⟨g1, 0, none⟩) (some ⟨g2, 0, none⟩) (text.length + 64) mem.length (mem.length + 64) ent text wx (HKT.out.keep h) hR hc hd
    have K2 : Hid (∀ wx, Below w.heap.size w wx → Calls Tryd.prog 8 #[.agg #[.slice A1 text.length c1, .int .i64 ent, .slice A2 mem.length c2]] wx (OfA (ansL (checkI text mem.length ent).1 text) (checkI text mem.length ent).1 wx)) := fun wx h => refof_any A1 A2 c1 mem.length c2 ent text wx (hT.keep h) hR hc hd
    have hwl := ansL_len (E := (checkI text mem.length ent).1) hc
    generalize ansL (checkI text mem.length ent).1 text = l at hwl K1 K2
    generalize (checkI text mem.length ent).1 = E at K1 K2
    have hE2 : (E != E) = false := by simp
    clear hb2 kT kM m1 m2 i0 i1 i2 hbx0
    go_wp2_with fail
    refine (wideints_lies A3 c3 any _ (hA.keep (lb_trans HB2.out hD3.out)) he).mono ?_
    rintro r w3 ⟨g3, rfl, hb3, kA, m3⟩
    have HD3 : Hid (Below w2.heap.size w2 w3) := lb_trans hD3.out hb3
    have HKA : Hid (IntsAt w3 (some ⟨g3, 0, none⟩) .i64 any) := kA
    have HM3 : Hid (MarkI w3 .i64 g3 any.length) := m3
    have hin4 : Hid _ := lb_box hin3.out hb3
    have hbx3 : Hid _ := lb_box hbx2.out HD3.out
    obtain ⟨d0, d1, d2⟩ := box3_cell hin4.out
    clear hb3 kA m3 hin3 hbx2 hD3
    go_wp2_with fail
    refine (K1.out _ HD3.out).mono ?_
    rintro r w5 ⟨Aa, ca, rfl, roa, hb5⟩
    have HD5 : Hid (Below w2.heap.size w2 w5) := lb_trans HD3.out hb5
    have H35 : Hid (Below w3.heap.size w3 w5) := hb5
    have HRa : Hid (w5.ownsRow w.heap.size 3 1 (.slice Aa l.length ca) l.length (iVals .i64 l)) := ownsRow_mono roa (Nat.le_trans HB2.out.size HD3.out.size)
    have hin6 : Hid _ := lb_box hin4.out hb5
    have hbx5 : Hid _ := lb_box hbx3.out hb5
    clear hb5 roa hin4 hbx3 d0 d1 d2
    obtain ⟨d0, d1, d2⟩ := box3_cell hin6.out
    go_wp2_with fail
    refine (K1.out _ HD5.out).mono ?_
    rintro r w6 ⟨Ab, cb, rfl, rob, hb6⟩
    have HD6 : Hid (Below w2.heap.size w2 w6) := lb_trans HD5.out hb6
    have H36 : Hid (Below w3.heap.size w3 w6) := lb_trans H35.out hb6
    have HB6 : Hid (Below w.heap.size w w6) := lb_trans HB2.out HD6.out
    have HOf : Hid (Off (Value.slice Aa l.length ca).ownBlock (Value.slice Ab l.length cb).ownBlock) := fun b h1 h2 => by
      have := own_lt HRa.out h1
      have := (rob.lt b h2).1
      omega
    have HRa6 : Hid (w6.ownsRow w.heap.size 3 1 (.slice Aa l.length ca) l.length (iVals .i64 l)) := row_keep HRa.out hb6
    have HRb6 : Hid (w6.ownsRow w.heap.size 3 1 (.slice Ab l.length cb) l.length (iVals .i64 l)) := ownsRow_mono rob (Nat.le_trans HB2.out.size HD5.out.size)
    have hin7 : Hid _ := lb_box hin6.out hb6
    have hbx6 : Hid _ := lb_box hbx5.out hb6
    clear hb6 rob hin6 hbx5 HRa d0 d1 d2
    obtain ⟨d0, d1, d2⟩ := box3_cell hbx6.out
    go_wp2_with fail
    refine (K2.out _ HB6.out).mono ?_
    rintro r w7 ⟨Ac, cc, rfl, roc, hb7⟩
    have HD7 : Hid (Below w2.heap.size w2 w7) := lb_trans HD6.out hb7
    have H37 : Hid (Below w3.heap.size w3 w7) := lb_trans H36.out hb7
    have HB7 : Hid (Below w.heap.size w w7) := lb_trans HB6.out hb7
    have HRa7 : Hid (w7.ownsRow w.heap.size 3 1 (.slice Aa l.length ca) l.length (iVals .i64 l)) := row_keep HRa6.out hb7
    have HRb7 : Hid (w7.ownsRow w.heap.size 3 1 (.slice Ab l.length cb) l.length (iVals .i64 l)) := row_keep HRb6.out hb7
    have HIa7 : Hid (IntsAt w7 Aa .i64 l) := row_ints HRa7.out
    have HIb7 : Hid (IntsAt w7 Ab .i64 l) := row_ints HRb7.out
    have HIc7 : Hid (IntsAt w7 Ac .i64 l) := row_ints roc
    have hin8 : Hid _ := lb_box hin7.out hb7
    have hbx7 : Hid _ := lb_box hbx6.out hb7
    have E1 := fun wx (h : Below w7.heap.size w7 wx) => eqints_any Aa Ac ca cc l l wx (HIa7.out.keep h) (HIc7.out.keep h) hwl
    have E2 := fun wx (h : Below w7.heap.size w7 wx) => eqints_any Ab Ac cb cc l l wx (HIb7.out.keep h) (HIc7.out.keep h) hwl
    have E3 := fun wx (h : Below w7.heap.size w7 wx) => eqints_any (some ⟨g3, 0, none⟩) A3 (any.length + 64) c3 any any wx (HKA.out.keep (lb_trans H37.out h)) (hA.keep (lb_trans HB7.out h)) he
    simp only [decide_true] at E1 E2 E3
    have S1 := fun wx => sameOK v u wx v0 v1 u0 u1
    have S2 := fun wx => refsame_any v u v0 v1 wx
    have S3 := fun wx => sameOK v v wx v0 v1 v0 v1
    have S4 := fun wx => refsame_any v v v0 v1 wx
    generalize smB v u = b1 at S1 S2
    generalize smB v v = b2 at S3 S4
    have hb1' : (b1 != b1) = false := by simp
    have hb2' : (b2 != b2) = false := by simp
    have N1 := fun wx (h : Below w7.heap.size w7 wx) => countOK (some ⟨g3, 0, none⟩) (any.length + 64) any wx (HKA.out.keep (lb_trans H37.out h)) hR3 he
    have N2 := fun wx (h : Below w7.heap.size w7 wx) => refcount_any A3 c3 any wx (hA.keep (lb_trans HB7.out h)) he
    generalize cntN any any.length = cn at N1 N2
    have hcn : (((cn : Nat) : Int) != ((cn : Nat) : Int)) = false := by simp
    clear hb7 roc hin7 hbx6 HRa6 HRb6 d0 d1 d2 K1 K2
    go_wp2_with fail
    refine (E1 _ (Below.refl _ _)).mono ?_
    rintro r x1 ⟨rfl, hy⟩
    have X1 : Hid (Below w7.heap.size w7 x1) := hy
    clear hy E1
    go_wp2_with fail
    refine (E2 _ X1.out).mono ?_
    rintro r x2 ⟨rfl, hy⟩
    have X2 : Hid (Below w7.heap.size w7 x2) := lb_trans X1.out hy
    clear hy E2 X1
    go_wp2_with fail
    refine (S1 _).mono ?_
    rintro r x3 ⟨rfl, hy⟩
    have X3 : Hid (Below w7.heap.size w7 x3) := lb_trans X2.out hy
    clear hy S1 X2
    go_wp2_with fail
    refine (S2 _).mono ?_
    rintro r x4 ⟨rfl, hy⟩
    have X4 : Hid (Below w7.heap.size w7 x4) := lb_trans X3.out hy
    clear hy S2 X3
    go_wp2_with fail
    refine (S3 _).mono ?_
    rintro r x5 ⟨rfl, hy⟩
    have X5 : Hid (Below w7.heap.size w7 x5) := lb_trans X4.out hy
    clear hy S3 X4
    go_wp2_with fail
    refine (S4 _).mono ?_
    rintro r x6 ⟨rfl, hy⟩
    have X6 : Hid (Below w7.heap.size w7 x6) := lb_trans X5.out hy
    clear hy S4 X5
    go_wp2_with fail
    refine (N1 _ X6.out).mono ?_
    rintro r x7 ⟨rfl, hy⟩
    have X7 : Hid (Below w7.heap.size w7 x7) := lb_trans X6.out hy
    clear hy N1 X6
    go_wp2_with fail
    refine (N2 _ X7.out).mono ?_
    rintro r w9 ⟨rfl, hy⟩
    have H79 : Hid (Below w7.heap.size w7 w9) := lb_trans X7.out hy
    have HD9 : Hid (Below w2.heap.size w2 w9) := lb_trans HD7.out H79.out
    have HB9 : Hid (Below w.heap.size w w9) := lb_trans HB7.out H79.out
    have hin9 : Hid _ := lb_box hin8.out H79.out
    have hbx9 : Hid _ := lb_box hbx7.out H79.out
    obtain ⟨d0, d1, d2⟩ := box3_cell hin9.out
    obtain ⟨e0, e1, e2⟩ := box3_cell hbx9.out
    clear hy N2 X7 hin8 hbx7
    go_wp2_with fail
    refine (eqimg_same (some ⟨g1, 0, none⟩) (some ⟨g2, 0, none⟩) A1 A2 (text.length + 64) (mem.length + 64) c1 c2 text mem ent _ (HKT.out.keep HD9.out) (HKM.out.keep HD9.out) (hT.keep HB9.out) (hM.keep HB9.out) hc hd).mono ?_
    rintro r wa ⟨rfl, hba⟩
    have HDa : Hid (Below w2.heap.size w2 wa) := lb_trans HD9.out hba
    have H7a : Hid (Below w7.heap.size w7 wa) := lb_trans H79.out hba
    have hina : Hid _ := lb_box hin9.out hba
    clear d0 d1 d2 e0 e1 e2
    obtain ⟨d0, d1, d2⟩ := box3_cell hina.out
    clear hba hin9 hbx9 H79
    go_wp2_with fail
    refine (spareimg_any ent g1 text.length g2 mem.length _ (HM1.out.keep HDa.out) (HM2.out.keep HDa.out) hc hd).mono ?_
    rintro r y1 ⟨rfl, hy⟩
    have Y1 : Hid (Below w7.heap.size w7 y1) := lb_trans H7a.out hy
    clear hy H7a HDa d0 d1 d2 hina
    go_wp2_with fail
    refine (E3 _ Y1.out).mono ?_
    rintro r y2 ⟨rfl, hy⟩
    have Y2 : Hid (Below w7.heap.size w7 y2) := lb_trans Y1.out hy
    clear hy Y1 E3
    go_wp2_with fail
    refine (spareints_any g3 any.length _ (HM3.out.keep (lb_trans H37.out Y2.out)) he).mono ?_
    rintro r wb ⟨rfl, rfl⟩
    have HBb : Hid (Below w.heap.size w wb) := lb_trans HB7.out Y2.out
    have HRab : Hid (wb.ownsRow w.heap.size 3 1 (.slice Aa l.length ca) l.length (iVals .i64 l)) := row_keep HRa7.out Y2.out
    have HRbb : Hid (wb.ownsRow w.heap.size 3 1 (.slice Ab l.length cb) l.length (iVals .i64 l)) := row_keep HRb7.out Y2.out
    have HGb : Hid (BagIs (wb.alloc (.cells #[.slice none 0 0, .slice none 0 0, .slice none 0 0, .slice none 0 0, .slice none 0 0, .slice none 0 0, .slice none 0 0, .slice none 0 0, .slice none 0 0, .slice none 0 0, .slice none 0 0, .slice none 0 0, .slice none 0 0, .slice none 0 0, .slice none 0 0, .slice none 0 0, .slice none 0 0] 59)) wb.heap.size (fun _ => .slice none 0 0)) := bag_new wb
    have HNb : Hid (Below wb.heap.size wb (wb.alloc (.cells #[.slice none 0 0, .slice none 0 0, .slice none 0 0, .slice none 0 0, .slice none 0 0, .slice none 0 0, .slice none 0 0, .slice none 0 0, .slice none 0 0, .slice none 0 0, .slice none 0 0, .slice none 0 0, .slice none 0 0, .slice none 0 0, .slice none 0 0, .slice none 0 0, .slice none 0 0] 59))) := lb_alloc (Below.refl _ _) _
    clear HRa7 HRb7 HIa7 HIb7 HIc7 HKT HKM HM1 HM2 HM3 HKA HD3 HD5 HD6 HD7 HD9 Y2 H35 H36 H37
    go_wp2_with fail
    refine (addints_any wb.heap.size wb.heap.size _ [] Aa l.length ca _ (Nat.le_refl _) HGb.out (World.ownsRow_nil _ _ _ _) (by simp)).mono ?_
    rintro r wc ⟨rfl, V1, hg1, ho1, hb1, -⟩
    have HGc : Hid (BagIs wc wb.heap.size (upd (fun _ => .slice none 0 0) 1 V1)) := hg1
    have HOc : Hid (wc.ownsRow wb.heap.size 27 1 V1 1 [.slice Aa l.length ca]) := ho1
    have HNc : Hid (Below wb.heap.size wb wc) := Below.trans HNb.out hb1
    clear hg1 ho1 hb1 HGb HNb
    go_wp2_with fail
    refine (addints_any wb.heap.size wb.heap.size _ [.slice Aa l.length ca] Ab l.length cb _ (Nat.le_refl _) HGc.out HOc.out (by simp)).mono ?_
    rintro r wd ⟨rfl, V2, hg2, ho2, hb2, -⟩
    have HGd : Hid (BagIs wd wb.heap.size (upd (upd (fun _ => .slice none 0 0) 1 V1) 1 V2)) := hg2
    have HOd : Hid (wd.ownsRow wb.heap.size 27 1 V2 2 [.slice Aa l.length ca, .slice Ab l.length cb]) := ho2
    have HNd : Hid (Below wb.heap.size wb wd) := Below.trans HNc.out hb2
    have HBd : Hid (Below w.heap.size w wd) := lb_trans HBb.out HNd.out
    have HRad : Hid (wd.ownsRow w.heap.size 3 1 (.slice Aa l.length ca) l.length (iVals .i64 l)) := row_keep HRab.out HNd.out
    have HRbd : Hid (wd.ownsRow w.heap.size 3 1 (.slice Ab l.length cb) l.length (iVals .i64 l)) := row_keep HRbb.out HNd.out
    have AP : Hid _ := apartN wb.heap.size _ [(.slice Aa l.length ca, l.length), (.slice Ab l.length cb, l.length)] wd HGd.out (ownsRow_mono HOd.out (Nat.zero_le _)) (fun k h1 h2 => by unfold upd; rw [if_neg (by omega), if_neg (by omega)])
      (two_all ⟨_, ownsRow_mono HRad.out (Nat.zero_le _)⟩ ⟨_, ownsRow_mono HRbd.out (Nat.zero_le _)⟩) (sep_two HOf.out) (by simp) (rl_two hwl hwl)
    have HQ : Hid (∀ m, m < 2 → ∀ b, (rv [(.slice Aa l.length ca, l.length), (.slice Ab l.length cb, l.length)] m).ownBlock = some b → w.heap.size ≤ b) := two_all (fun b hb => (HRad.out.lt b hb).1) (fun b hb => (HRbd.out.lt b hb).1)
    clear hg2 ho2 hb2 HGc HOc HNc HOd HRab HRbb HRad HRbd HOf HGd
    go_wp2_with fail
    refine (Calls.mono AP.out ?_)
    rintro r we ⟨rfl, hfr⟩
    have HBe : Hid (Below w.heap.size w we) := hfr.below HBd.out HBd.out.size HQ.out
    clear hfr AP
    go_wp2_with fail
    refine (LV _).mono ?_
    rintro r wf ⟨rfl, hbf⟩
    have HBf : Hid (Below w.heap.size w wf) := lb_trans HBe.out hbf
    clear hbf
    go_wp2
    go_ret
    exact ⟨rfl, HBf.out⟩)

end Go.Proofs.YtblmcphmgicocaaDoor
