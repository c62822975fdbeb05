/-
  The text of an image; no text of one that may not be. The program's Spot. The program's Spots. Copies and comparing of the statements; what a class costs.
-/
import Derived.Test.YtmlhnnmelopleaaGreatDoorProg
import Derived.WalkKit
import Derived.WalkSpells
import Derived.WalkLawsBesides
import Derived.RowKit3
import Derived.Below
import Derived.Deep.QuietTactic
import Derived.BigQuiet
import Derived.WalkSmall
import Derived.Laws.Rows
import Derived.Test.YtmlhnnmelopleaaGreatDoorPa17
import Derived.Test.YtmlhnnmelopleaaGreatDoorPa43
import Derived.Test.YtmlhnnmelopleaaGreatDoorPa24
import Derived.Test.YtmlhnnmelopleaaGreatDoorPa23
import Derived.Test.YtmlhnnmelopleaaGreatDoorPa09
import Derived.Test.YtmlhnnmelopleaaGreatDoorPa10
import Derived.Test.YtmlhnnmelopleaaGreatDoorPa42
import Derived.Test.YtmlhnnmelopleaaGreatDoorPa12
import Derived.Test.YtmlhnnmelopleaaGreatDoorPa30
import Derived.Test.YtmlhnnmelopleaaGreatDoorPa40
namespace Go.Proofs.YtmlhnnmelopleaaGreatDoor
open Go.RowKit

def TofP (a1 : Addr) (A2 : Option Addr) (c1 ml c2 : Nat) (ent : Int) (text : List Int) (w : World) (e : Ending) (w' : World) : Prop := ∃ (B : Nat) (Ab : Option Addr) (cb : Nat), e = .returned (.tuple #[.pointer (some ⟨B, 0, none⟩), .int .i64 0]) ∧ TxAt w' B a1 A2 Ab c1 ml c2 cb ent text ∧ Below w.heap.size w w'
set_option maxRecDepth 100000 in
set_option maxHeartbeats 4000000 in
theorem textof_no (A1 A2 : Option Addr) (c1 ml c2 : Nat) (ent : Int) (text : List Int) (w : World) (hT : IntsAt w A1 .u32 text) (hR : ∀ i, i < text.length → 0 ≤ nth text i ∧ nth text i < 4294967296) (hl : text.length ≤ 1048576) (hm : ml ≤ 1048576) (hE : (checkI text ml ent).1 ≠ 0) :
    Calls Tryz.prog 34 #[.agg #[.slice A1 text.length c1, .int .i64 ent, .slice A2 ml c2]] w fun e w' => e = .returned (.tuple #[.pointer none, .int .i64 (checkI text ml ent).1]) ∧ Below w.heap.size w w' := by
  obtain ⟨W, HW⟩ : ∃ W, Hid (w.alloc (.cells #[.slice A1 text.length c1, .int .i64 ent, .slice A2 ml c2] 31) = W) := ⟨_, rfl⟩
  have HB : Hid (Below w.heap.size w W) := by unfold Hid; rw [← HW.out]; exact lb_alloc (Below.refl _ _) _
  have i0 : W.cell? ⟨w.heap.size, 0, none⟩ = some (.slice A1 text.length c1) := by rw [← HW.out]; simp [go_sem]
  have i1 : W.cell? ⟨w.heap.size, 1, none⟩ = some (.int .i64 ent) := by rw [← HW.out]; simp [go_sem]
  have i2 : W.cell? ⟨w.heap.size, 2, none⟩ = some (.slice A2 ml c2) := by rw [← HW.out]; simp [go_sem]
  have C := blocks_any A1 A2 c1 ml c2 ent text W (hT.keep HB.out) hR hl hm
  have hne2 : ((checkI text ml ent).1 != 0) = true := by simpa using hE
  clear hT hR hE
  generalize (checkI text ml ent).1 = E at *
  go_enter Tryz.func34, Tryz.ntmps34
  go_upto_region 1 with fail
  rw [HW.out]
  clear HW
  go_wp2_with (go_at_call 54; refine C.mono ?_; rintro e w1 ⟨A, c, rfl, hown, hb1⟩)
  go_ret2
  exact ⟨rfl, lb_trans HB.out hb1⟩
set_option maxRecDepth 100000 in
set_option maxHeartbeats 4000000 in
theorem textof_ok (a1 : Addr) (A2 : Option Addr) (c1 ml c2 : Nat) (ent : Int) (text : List Int) (w : World) (hT : IntsAt w (some a1) .u32 text) (hR : ∀ i, i < text.length → 0 ≤ nth text i ∧ nth text i < 4294967296) (hl : text.length ≤ 1048576) (hm : ml ≤ 1048576) (hE : (checkI text ml ent).1 = 0) :
    Calls Tryz.prog 34 #[.agg #[.slice (some a1) text.length c1, .int .i64 ent, .slice A2 ml c2]] w (TofP a1 A2 c1 ml c2 ent text w) := by
  obtain ⟨W, HW⟩ : ∃ W, Hid (w.alloc (.cells #[.slice (some a1) text.length c1, .int .i64 ent, .slice A2 ml c2] 31) = W) := ⟨_, rfl⟩
  have HB : Hid (Below w.heap.size w W) := by unfold Hid; rw [← HW.out]; exact lb_alloc (Below.refl _ _) _
  have i0 : W.cell? ⟨w.heap.size, 0, none⟩ = some (.slice (some a1) text.length c1) := by rw [← HW.out]; simp [go_sem]
  have i1 : W.cell? ⟨w.heap.size, 1, none⟩ = some (.int .i64 ent) := by rw [← HW.out]; simp [go_sem]
  have i2 : W.cell? ⟨w.heap.size, 2, none⟩ = some (.slice A2 ml c2) := by rw [← HW.out]; simp [go_sem]
  have C := blocks_any (some a1) A2 c1 ml c2 ent text W (hT.keep HB.out) hR hl hm
  rw [show outB text ml ent = blkL text ent from if_pos hE, hE] at C
  have HT : Hid (IntsAt w (some a1) .u32 text) := hT
  clear hT hR hE
  go_enter Tryz.func34, Tryz.ntmps34
  go_upto_region 1 with fail
  rw [HW.out]
  clear HW
  go_upto_region 4 with (go_at_call 54; refine C.mono ?_; rintro e w1 ⟨B, cB, rfl, hown, hb1⟩; have HRl : Hid (RelsAt w1 B (blkL text ent)) := drow_rels hown; have HB1 : Hid (Below w.heap.size w w1) := lb_trans HB.out hb1; have j0 := lkeep hb1 i0; have j1 := lkeep hb1 i1; have j2 := lkeep hb1 i2; clear hown hb1 i0 i1 i2)
  have HE : Hid (∀ (L : Nat), L = (blkL text ent).length → ∀ V, V = w1.alloc (.cells #[.slice (some a1) text.length c1, .int .i64 ent, .slice A2 ml c2, .slice B L cB] 102) → TofP a1 A2 c1 ml c2 ent text w (.returned (.tuple #[.pointer (some ⟨w1.heap.size, 0, none⟩), .int .i64 0])) V) := fun L eL V e => by
    subst e
    subst eL
    have hb : Below w1.heap.size w1 (w1.alloc (.cells #[.slice (some a1) text.length c1, .int .i64 ent, .slice A2 ml c2, .slice B (blkL text ent).length cB] 102)) := lb_alloc (Below.refl _ _) _
    exact ⟨w1.heap.size, B, cB, rfl, ⟨by simp [go_sem], by simp [go_sem], by simp [go_sem], by simp [go_sem], (HT.out.keep HB1.out).keep hb, HRl.out.keep hb⟩, lb_trans HB1.out hb⟩
  go_wp2
  go_ret2
  exact HE.out _ rfl _ rfl

end Go.Proofs.YtmlhnnmelopleaaGreatDoor

namespace Go.Proofs.YtmlhnnmelopleaaGreatDoor
open Go.RowKit

theorem fro_keep {w w1 : World} {p : Addr} {v : Value} (hb : Below w.heap.size w w1) (h : w.cell? p = some v) (f : w.frozen? p = false) : w1.frozen? p = false := by
  rw [hb.frozen (World.block_lt_of_cell? w p h)]; exact f
def resS (p : Int) (s : Int × Int) : Spt := if s.1 = 0 then (0, 0, 0) else (p, s.1, s.2)
def okS (s : Int × Int) : Bool := decide (s.1 ≠ 0)
def Gd (text : List Int) (ent : Int) (H : Int → Nat) (n p : Nat) : Prop := kindN (cutN text p n) = 3 → BhI text ent H
theorem spot_gd {text : List Int} {ent : Int} {H G : Int → Nat} {n p q : Nat} (hq : q + n ≤ text.length) (hn : 0 < n) (hs : cutN text q n = cutN text p n) (h : Gd text ent H n p) (k : Gd text ent G n p) : spotN text ent H n q = spotN text ent G n q := by
  by_cases h3 : kindN (cutN text p n) = 3
  · exact spot_same hq hn (h h3) (k h3)
  · unfold spotN
    rw [hs]
    by_cases c : inB text ent n q = false ∨ kindN (cutN text p n) = 0
    · rw [if_pos c, if_pos c]
    · rw [if_neg c, if_neg c, if_pos h3, if_pos h3]
def SpotP (text : List Int) (ml : Nat) (ent : Int) (n p : Int) (w : World) (e : Ending) (w' : World) : Prop := Below w.heap.size w w' ∧
  (((checkI text ml ent).1 ≠ 0 ∧ e = .returned (.tuple #[.agg #[.int .i64 0, .int .i8 0, .int .i8 0], .bool false, .int .i64 (checkI text ml ent).1])) ∨
   ((checkI text ml ent).1 = 0 ∧ fitB text n p = false ∧ e = .returned (.tuple #[.agg #[.int .i64 0, .int .i8 0, .int .i8 0], .bool false, .int .i64 1])) ∨
   ((checkI text ml ent).1 = 0 ∧ fitB text n p = true ∧ ∃ H : Int → Nat, Gd text ent H n.toNat p.toNat ∧ e = .returned (.tuple #[.agg #[.int .i64 (resS p (spotN text ent H n.toNat p.toNat)).1, .int .i8 (resS p (spotN text ent H n.toNat p.toNat)).2.1, .int .i8 (resS p (spotN text ent H n.toNat p.toNat)).2.2], .bool (okS (spotN text ent H n.toNat p.toNat)), .int .i64 0])))
set_option maxRecDepth 100000 in
set_option maxHeartbeats 8000000 in
theorem spot_any (A1 A2 : Option Addr) (c1 ml c2 : Nat) (ent : Int) (text : List Int) (n p : Int) (w : World) (hTz : Tz w) (hT : IntsAt w A1 .u32 text) (hR : ∀ i, i < text.length → 0 ≤ nth text i ∧ nth text i < 4294967296) (hc : text.length ≤ c1) (hl : text.length ≤ 1048576) (hm : ml ≤ 1048576) (hp : p ≤ 9223372036854775807) :
    Calls Tryz.prog 20 #[.agg #[.slice A1 text.length c1, .int .i64 ent, .slice A2 ml c2], .int .i64 n, .int .i64 p] w (SpotP text ml ent n p w) := by
  obtain ⟨W, HW⟩ : ∃ W, Hid ((w.alloc (.cells #[.slice A1 text.length c1, .int .i64 ent, .slice A2 ml c2] 31)).alloc (.cells #[.int .i64 0, .int .i8 0, .int .i8 0] 54) = W) := ⟨_, rfl⟩
  have HB : Hid (Below w.heap.size w W) := by unfold Hid; rw [← HW.out]; exact lb_alloc (lb_alloc (Below.refl _ _) _) _
  have i0 : W.cell? ⟨w.heap.size, 0, none⟩ = some (.slice A1 text.length c1) := by rw [← HW.out]; simp [go_sem]
  have i1 : W.cell? ⟨w.heap.size, 1, none⟩ = some (.int .i64 ent) := by rw [← HW.out]; simp [go_sem]
  have i2 : W.cell? ⟨w.heap.size, 2, none⟩ = some (.slice A2 ml c2) := by rw [← HW.out]; simp [go_sem]
  have x0 : W.cell? ⟨w.heap.size + 1, 0, none⟩ = some (.int .i64 0) := by rw [← HW.out]; simp [go_sem]
  have x1 : W.cell? ⟨w.heap.size + 1, 1, none⟩ = some (.int .i8 0) := by rw [← HW.out]; simp [go_sem]
  have x2 : W.cell? ⟨w.heap.size + 1, 2, none⟩ = some (.int .i8 0) := by rw [← HW.out]; simp [go_sem]
  have f0 : W.frozen? ⟨w.heap.size + 1, 0, none⟩ = false := by rw [← HW.out]; simp [go_sem]
  have f1 : W.frozen? ⟨w.heap.size + 1, 1, none⟩ = false := by rw [← HW.out]; simp [go_sem]
  have f2 : W.frozen? ⟨w.heap.size + 1, 2, none⟩ = false := by rw [← HW.out]; simp [go_sem]
  have hB0 := HB.out
  by_cases hE : (checkI text ml ent).1 = 0
  · have hM := check_mayI hE
    obtain ⟨a1, ea, -⟩ := hT 0 hM.past.pos
    subst ea
    have hl4 : text.length ≤ 16384 := hM.past.len
    have C := textof_ok a1 A2 c1 ml c2 ent text W (hT.keep HB.out) hR hl hm hE
    have HR : Hid (∀ i, i < text.length → 0 ≤ nth text i ∧ nth text i < 4294967296) := hR
    have HE : Hid ((checkI text ml ent).1 = 0) := hE
    have HTz : Hid (Tz w) := hTz
    clear hT hR hE hM hTz
    go_enter Tryz.func20, Tryz.ntmps20
    go_upto_region 1 with fail
    rw [HW.out]
    clear HW
    go_upto_region 4 with (go_at_call 34; refine C.mono ?_; rintro e w1 ⟨B, Ab, cb, rfl, hX1, hb1⟩; have HX : Hid (TxAt w1 B a1 A2 Ab c1 ml c2 cb ent text) := hX1; have HB1 : Hid (Below w.heap.size w w1) := lb_trans hB0 hb1; have y0 := lkeep hb1 x0; have y1 := lkeep hb1 x1; have y2 := lkeep hb1 x2; have yf0 := fro_keep hb1 x0 f0; have yf1 := fro_keep hb1 x1 f1; have yf2 := fro_keep hb1 x2 f2; clear hX1 hb1 i0 i1 i2 x0 x1 x2 f0 f1 f2)
    clear C
    have CH := has_any B a1 A2 Ab c1 ml c2 cb ent text n p w1 HX.out (by omega) hp
    cases hf : fitB text n p with
    | false =>
      have HFa : Hid (fitB text n p = false) := hf
      have HFi : Hid (∀ w', Below w.heap.size w w' → SpotP text ml ent n p w (.returned (.tuple #[.agg #[.int .i64 0, .int .i8 0, .int .i8 0], .bool false, .int .i64 1])) w') := fun w' hb => ⟨hb, .inr (.inl ⟨HE.out, HFa.out, rfl⟩)⟩
      rw [hf] at CH
      clear hf
      have hB1 := HB1.out
      go_wp2_with (go_at_call 41; refine CH.mono ?_; rintro e w2 ⟨rfl, e1⟩; have e2 := e1.symm; clear e1; subst e2)
      refine bodyPost_ret (v := .tuple #[.agg #[.int .i64 0, .int .i8 0, .int .i8 0], .bool false, .int .i64 1]) (by simp [results, Tryz.results20, go_sem, y0, y1, y2]) rfl (HFi.out _ ?_)
      exact ((hB1.setCell (p := ⟨w.heap.size + 1, 0, none⟩) (Nat.le_succ _) _).setCell (p := ⟨w.heap.size + 1, 1, none⟩) (Nat.le_succ _) _).setCell (p := ⟨w.heap.size + 1, 2, none⟩) (Nat.le_succ _) _
    | true =>
      obtain ⟨k1, k2, k3⟩ := fit_yes hf
      obtain ⟨nn, rfl⟩ : ∃ nn : Nat, n = (nn : Int) := ⟨n.toNat, by omega⟩
      obtain ⟨pp, rfl⟩ : ∃ pp : Nat, p = (pp : Int) := ⟨p.toNat, by omega⟩
      obtain ⟨m, hnm⟩ : ∃ m, nn = m + 1 := ⟨nn - 1, by omega⟩
      have hpn : pp + nn ≤ text.length := by omega
      have HFa : Hid (fitB text (nn : Int) (pp : Int) = true) := hf
      have hw1 : w.heap.size + 1 < w1.heap.size := World.block_lt_of_cell? w1 ⟨w.heap.size + 1, 0, none⟩ y0
      obtain ⟨W2, HW2⟩ : ∃ W2, Hid (w1.alloc (.cells #[.int .i64 (pp : Int)] 3) = W2) := ⟨_, rfl⟩
      have HB2 : Hid (Below w1.heap.size w1 W2) := by unfold Hid; rw [← HW2.out]; exact lb_alloc (Below.refl _ _) _
      have p0 : W2.cell? ⟨w1.heap.size, 0, none⟩ = some (.int .i64 (pp : Int)) := by rw [← HW2.out]; simp [go_sem]
      have CS := spots_any B a1 A2 Ab c1 ml c2 cb ent text nn m ⟨w1.heap.size, 0, none⟩ 1 [(pp : Int)] W2 (HTz.out.below (lb_trans HB1.out HB2.out)) (HX.out.keep HB2.out) HR.out HE.out hl4 hm hc hnm (fun i hi => by
        obtain rfl : i = 0 := by simp at hi; omega
        exact ⟨_, rfl, by simpa [nth, Addr.add] using p0⟩) (by simp) (by simp) (fun i hi => by
        obtain rfl : i = 0 := by simp at hi; omega
        simp [nth]; omega) (fun i hi => by
        obtain rfl : i = 0 := by simp at hi; omega
        rfl)
      rw [hf] at CH
      have CS : Calls Tryz.prog 36 #[.pointer (some ⟨B, 0, none⟩), .int .i64 (nn : Int), .slice (some ⟨w1.heap.size, 0, none⟩) 1 1] W2 (SpsP text ent nn [(pp : Int)] W2) := CS
      have z0 := lkeep HB2.out y0
      have z1 := lkeep HB2.out y1
      have z2 := lkeep HB2.out y2
      have zf0 := fro_keep HB2.out y0 yf0
      have zf1 := fro_keep HB2.out y1 yf1
      have zf2 := fro_keep HB2.out y2 yf2
      clear hf k1 k2 k3 hnm
      go_upto_region 6 with (go_at_call 41; refine CH.mono ?_; rintro e w2 ⟨rfl, e1⟩; have e2 := e1.symm; clear e1; subst e2)
      go_upto_region 7 with (go_at_call 36; rw [HW2.out]; refine CS.mono ?_; rintro e w3 ⟨H, A, c, hG, rfl, hown, hb3⟩; have HG : Hid (Gd text ent H nn pp) := hG; have HO : Hid (SpAt w3 A (spotsN text ent H nn [(pp : Int)])) := row_sps hown; have HB3 : Hid (Below w.heap.size w w3) := lb_trans HB1.out (lb_trans HB2.out hb3); have a0 := lkeep hb3 z0; have a1' := lkeep hb3 z1; have a2' := lkeep hb3 z2; have af0 := fro_keep hb3 z0 zf0; have af1 := fro_keep hb3 z1 zf1; have af2 := fro_keep hb3 z2 zf2; clear hG hown hb3)
      clear CS CH HW2 p0 z0 z1 z2 zf0 zf1 zf2 y0 y1 y2 yf0 yf1 yf2 HB2
      have hB3 := HB3.out
      have HFi : Hid (∀ w', Below w.heap.size w w' → ∀ (x y z : Int) (b : Bool), resS (pp : Int) (spotN text ent H nn pp) = (x, y, z) → okS (spotN text ent H nn pp) = b → SpotP text ml ent (nn : Int) (pp : Int) w (.returned (.tuple #[.agg #[.int .i64 x, .int .i8 y, .int .i8 z], .bool b, .int .i64 0])) w') := fun w' hb x y z b e1 e2 => ⟨hb, .inr (.inr ⟨HE.out, HFa.out, H, HG.out, by
        show _ = Ending.returned (.tuple #[.agg #[.int .i64 (resS (pp : Int) (spotN text ent H nn pp)).1, .int .i8 (resS (pp : Int) (spotN text ent H nn pp)).2.1, .int .i8 (resS (pp : Int) (spotN text ent H nn pp)).2.2], .bool (okS (spotN text ent H nn pp)), .int .i64 0])
        rw [e1, e2]⟩)⟩
      have HBs : Hid (∀ x y z : Value, Below w.heap.size w (((w3.setCell ⟨w.heap.size + 1, 0, none⟩ x).setCell ⟨w.heap.size + 1, 1, none⟩ y).setCell ⟨w.heap.size + 1, 2, none⟩ z)) := fun x y z => ((hB3.setCell (p := ⟨w.heap.size + 1, 0, none⟩) (Nat.le_succ _) _).setCell (p := ⟨w.heap.size + 1, 1, none⟩) (Nat.le_succ _) _).setCell (p := ⟨w.heap.size + 1, 2, none⟩) (Nat.le_succ _) _
      by_cases hs : (spotN text ent H nn pp).1 = 0
      · have hL : spotsN text ent H nn [(pp : Int)] = [] := by
          show (if (spotN text ent H nn pp).1 = 0 then _ else _) = _
          rw [if_pos hs]; rfl
        have HR1 : Hid (resS (pp : Int) (spotN text ent H nn pp) = (0, 0, 0)) := if_pos hs
        have HR2 : Hid (okS (spotN text ent H nn pp) = false) := decide_eq_false (fun h => h hs)
        rw [hL]
        clear hs hL HO
        go_wp2
        refine bodyPost_ret (v := .tuple #[.agg #[.int .i64 0, .int .i8 0, .int .i8 0], .bool false, .int .i64 0]) (by simp [results, Tryz.results20, go_sem, a0, a1', a2']) rfl (HFi.out _ (HBs.out _ _ _) _ _ _ _ HR1.out HR2.out)
      · obtain ⟨s1, s2, hsp⟩ : ∃ s1 s2, spotN text ent H nn pp = (s1, s2) := ⟨_, _, rfl⟩
        have hL : spotsN text ent H nn [(pp : Int)] = [((pp : Int), s1, s2)] := by
          show (if (spotN text ent H nn pp).1 = 0 then _ else ((pp : Int), spotN text ent H nn pp) :: _) = _
          rw [if_neg hs, hsp]; rfl
        have HR1 : Hid (resS (pp : Int) (spotN text ent H nn pp) = ((pp : Int), s1, s2)) := by
          unfold Hid resS
          rw [if_neg hs, hsp]
        have HR2 : Hid (okS (spotN text ent H nn pp) = true) := decide_eq_true hs
        rw [hL] at HO ⊢
        obtain ⟨x, rfl, d0, d1, d2⟩ := HO.out 0 (by simp)
        rw [show x.add (0 * 3) = x by simp [Addr.add]] at d0 d1 d2
        replace d0 : w3.cell? x = some (.int .i64 (pp : Int)) := d0
        replace d1 : w3.cell? ⟨x.block, x.off + 1, none⟩ = some (.int .i8 s1) := d1
        replace d2 : w3.cell? ⟨x.block, x.off + 2, none⟩ = some (.int .i8 s2) := d2
        clear hs hL HO hsp
        go_wp2
        refine bodyPost_ret (v := .tuple #[.agg #[.int .i64 (pp : Int), .int .i8 s1, .int .i8 s2], .bool true, .int .i64 0]) (by simp [results, Tryz.results20, go_sem, a0, a1', a2']) rfl (HFi.out _ (HBs.out _ _ _) _ _ _ _ HR1.out HR2.out)
  · have C := textof_no A1 A2 c1 ml c2 ent text W (hT.keep HB.out) hR hl hm hE
    have hne2 : ((checkI text ml ent).1 != 0) = true := by simpa using hE
    have HFi : Hid (∀ w', Below w.heap.size w w' → SpotP text ml ent n p w (.returned (.tuple #[.agg #[.int .i64 0, .int .i8 0, .int .i8 0], .bool false, .int .i64 (checkI text ml ent).1])) w') := fun w' hb => ⟨hb, .inl ⟨hE, rfl⟩⟩
    clear hT hR hE hTz
    generalize (checkI text ml ent).1 = E at *
    go_enter Tryz.func20, Tryz.ntmps20
    go_upto_region 1 with fail
    rw [HW.out]
    clear HW
    go_wp2_with (go_at_call 34; refine C.mono ?_; rintro e w1 ⟨rfl, hb1⟩; have HB1 : Hid (Below w.heap.size w w1) := lb_trans hB0 hb1; have y0 := lkeep hb1 x0; have y1 := lkeep hb1 x1; have y2 := lkeep hb1 x2; have yf0 := fro_keep hb1 x0 f0; have yf1 := fro_keep hb1 x1 f1; have yf2 := fro_keep hb1 x2 f2; clear hb1 x0 x1 x2 f0 f1 f2)
    have hB1 := HB1.out
    refine bodyPost_ret (v := .tuple #[.agg #[.int .i64 0, .int .i8 0, .int .i8 0], .bool false, .int .i64 E]) (by simp [results, Tryz.results20, go_sem, y0, y1, y2]) rfl (HFi.out _ ?_)
    exact ((hB1.setCell (p := ⟨w.heap.size + 1, 0, none⟩) (Nat.le_succ _) _).setCell (p := ⟨w.heap.size + 1, 1, none⟩) (Nat.le_succ _) _).setCell (p := ⟨w.heap.size + 1, 2, none⟩) (Nat.le_succ _) _

end Go.Proofs.YtmlhnnmelopleaaGreatDoor

namespace Go.Proofs.YtmlhnnmelopleaaGreatDoor
open Go.RowKit

def SpotsR (text : List Int) (ml : Nat) (ent : Int) (n : Int) (P : List Int) (w : World) (e : Ending) (w' : World) : Prop := Below w.heap.size w w' ∧
  (((checkI text ml ent).1 ≠ 0 ∧ e = .returned (.tuple #[.slice none 0 0, .int .i64 (checkI text ml ent).1])) ∨
   ((checkI text ml ent).1 = 0 ∧ ¬ OneP text n P ∧ e = .returned (.tuple #[.slice none 0 0, .int .i64 51])) ∨
   ((checkI text ml ent).1 = 0 ∧ OneP text n P ∧ ∃ (H : Int → Nat) (A : Option Addr) (c : Nat), Gd text ent H n.toNat (nth P 0).toNat ∧ e = .returned (.tuple #[.slice A (spotsN text ent H n.toNat P).length c, .int .i64 0]) ∧ SpAt w' A (spotsN text ent H n.toNat P)))
set_option maxRecDepth 100000 in
set_option maxHeartbeats 8000000 in
theorem spotsof_any (A1 A2 : Option Addr) (c1 ml c2 : Nat) (ent : Int) (text : List Int) (n : Int) (A : Option Addr) (cP : Nat) (P : List Int) (w : World) (hTz : Tz w) (hT : IntsAt w A1 .u32 text) (hR : ∀ i, i < text.length → 0 ≤ nth text i ∧ nth text i < 4294967296) (hc : text.length ≤ c1) (hl : text.length ≤ 1048576) (hm : ml ≤ 1048576) (hP : IntsAt w A .i64 P) (hPl : P.length ≤ 1048576) (hPc : P.length ≤ cP) (hPr : ∀ i, i < P.length → nth P i ≤ 9223372036854775807) :
    Calls Tryz.prog 14 #[.agg #[.slice A1 text.length c1, .int .i64 ent, .slice A2 ml c2], .agg #[.int .i64 n, .slice A P.length cP]] w (SpotsR text ml ent n P w) := by
  obtain ⟨W, HW⟩ : ∃ W, Hid ((w.alloc (.cells #[.slice A1 text.length c1, .int .i64 ent, .slice A2 ml c2] 31)).alloc (.cells #[.int .i64 n, .slice A P.length cP] 43) = W) := ⟨_, rfl⟩
  have HB : Hid (Below w.heap.size w W) := by unfold Hid; rw [← HW.out]; exact lb_alloc (lb_alloc (Below.refl _ _) _) _
  have i0 : W.cell? ⟨w.heap.size, 0, none⟩ = some (.slice A1 text.length c1) := by rw [← HW.out]; simp [go_sem]
  have i1 : W.cell? ⟨w.heap.size, 1, none⟩ = some (.int .i64 ent) := by rw [← HW.out]; simp [go_sem]
  have i2 : W.cell? ⟨w.heap.size, 2, none⟩ = some (.slice A2 ml c2) := by rw [← HW.out]; simp [go_sem]
  have x0 : W.cell? ⟨w.heap.size + 1, 0, none⟩ = some (.int .i64 n) := by rw [← HW.out]; simp [go_sem]
  have x1 : W.cell? ⟨w.heap.size + 1, 1, none⟩ = some (.slice A P.length cP) := by rw [← HW.out]; simp [go_sem]
  have hB0 := HB.out
  by_cases hE : (checkI text ml ent).1 = 0
  · have hM := check_mayI hE
    obtain ⟨a1, ea, -⟩ := hT 0 hM.past.pos
    subst ea
    have hl4 : text.length ≤ 16384 := hM.past.len
    have C := textof_ok a1 A2 c1 ml c2 ent text W (hT.keep HB.out) hR hl hm hE
    have HR : Hid (∀ i, i < text.length → 0 ≤ nth text i ∧ nth text i < 4294967296) := hR
    have HE : Hid ((checkI text ml ent).1 = 0) := hE
    have HTz : Hid (Tz w) := hTz
    have HP : Hid (IntsAt w A .i64 P) := hP
    have HPr : Hid (∀ i, i < P.length → nth P i ≤ 9223372036854775807) := hPr
    clear hT hR hE hM hTz hP hPr
    go_enter Tryz.func14, Tryz.ntmps14
    go_upto_region 1 with fail
    rw [HW.out]
    clear HW
    go_upto_region 4 with (go_at_call 34; refine C.mono ?_; rintro e w1 ⟨B, Ab, cb, rfl, hX1, hb1⟩; have HX : Hid (TxAt w1 B a1 A2 Ab c1 ml c2 cb ent text) := hX1; have HB1 : Hid (Below w.heap.size w w1) := lb_trans hB0 hb1; have y0 := lkeep hb1 x0; have y1 := lkeep hb1 x1; clear hX1 hb1 i0 i1 i2 x0 x1)
    clear C
    have CI := isone_any B a1 A2 Ab c1 ml c2 cb ent text n A cP P w1 HX.out HR.out hl4 hc (HP.out.keep HB1.out) hPl hPc HPr.out
    unfold IsoP at CI
    go_wp2_with fail
    refine CI.mono ?_
    rintro e w2 ⟨⟨b, rfl, hb⟩, hb2⟩
    have HI : Hid (b = true ↔ OneP text n P) := hb
    have HB2 : Hid (Below w.heap.size w w2) := lb_trans HB1.out hb2
    have HX2 : Hid (TxAt w2 B a1 A2 Ab c1 ml c2 cb ent text) := HX.out.keep hb2
    have z0 := lkeep hb2 y0
    have z1 := lkeep hb2 y1
    clear hb hb2 y0 y1 CI HX
    cases b with
    | false =>
      have HFi : Hid (∀ w', Below w.heap.size w w' → SpotsR text ml ent n P w (.returned (.tuple #[.slice none 0 0, .int .i64 51])) w') := fun w' hb => ⟨hb, .inr (.inl ⟨HE.out, fun h => (by have := HI.out.2 h; cases this), rfl⟩)⟩
      clear HI
      go_wp2
      go_ret2
      exact HFi.out _ HB2.out
    | true =>
      have HO : Hid (OneP text n P) := HI.out.1 rfl
      clear HI
      obtain ⟨o1, o2, o3⟩ := HO.out
      obtain ⟨k1, k2, k3⟩ := fit_yes (o2 0 o1)
      obtain ⟨nn, rfl⟩ : ∃ nn : Nat, n = (nn : Int) := ⟨n.toNat, by omega⟩
      obtain ⟨m, hnm⟩ : ∃ m, nn = m + 1 := ⟨nn - 1, by omega⟩
      obtain ⟨aP, eP, -⟩ := HP.out 0 o1
      subst eP
      have o4 : ∀ i, i < P.length → cutN text (nth P i).toNat nn = cutN text (nth P 0).toNat nn := fun i hi => by
        cases i with
        | zero => rfl
        | succ i => exact (o3 i hi).2.1
      have CS := spots_any B a1 A2 Ab c1 ml c2 cb ent text nn m aP cP P w2 (HTz.out.below HB2.out) HX2.out HR.out HE.out hl4 hm hc hnm (HP.out.keep HB2.out) o1 hPl (fun i hi => (fit_yes (o2 i hi)).2) o4
      clear o1 o2 o3 o4 k1 k2 k3 hnm
      go_wp2_with (go_at_call 36; refine CS.mono ?_; rintro e w3 ⟨H, A3, c3, hG, rfl, hown, hb3⟩; have HFi : Hid (SpotsR text ml ent (nn : Int) P w (.returned (.tuple #[.slice A3 (spotsN text ent H nn P).length c3, .int .i64 0])) w3) := ⟨lb_trans HB2.out hb3, .inr (.inr ⟨HE.out, HO.out, H, A3, c3, hG, rfl, row_sps hown⟩)⟩; clear hG hown hb3)
      go_ret2
      exact HFi.out
  · have C := textof_no A1 A2 c1 ml c2 ent text W (hT.keep HB.out) hR hl hm hE
    have hne2 : ((checkI text ml ent).1 != 0) = true := by simpa using hE
    have HFi : Hid (∀ w', Below w.heap.size w w' → SpotsR text ml ent n P w (.returned (.tuple #[.slice none 0 0, .int .i64 (checkI text ml ent).1])) w') := fun w' hb => ⟨hb, .inl ⟨hE, rfl⟩⟩
    clear hT hR hE hTz hP hPr
    generalize (checkI text ml ent).1 = E at *
    go_enter Tryz.func14, Tryz.ntmps14
    go_upto_region 1 with fail
    rw [HW.out]
    clear HW
    go_wp2_with (go_at_call 34; refine C.mono ?_; rintro e w1 ⟨rfl, hb1⟩; have HB1 : Hid (Below w.heap.size w w1) := lb_trans hB0 hb1; clear hb1 x0 x1)
    go_ret2
    exact HFi.out _ HB1.out

end Go.Proofs.YtmlhnnmelopleaaGreatDoor

namespace Go.Proofs.YtmlhnnmelopleaaGreatDoor
open Go.RowKit

theorem copyints_any (O : Option Addr) (ca : Nat) (zs : List Int) (w : World) (hA : IntsAt w O .i64 zs) (h0 : O = none → ca = 0) (hz : zs.length ≤ 1048576) :
    Calls Tryz.prog 15 #[.slice O zs.length ca] w fun e w' => CopyP 3 1 zs.length (iNews .i64 zs) w e w' := by
  obtain ⟨i0, hi, hz0, hz1, hz2⟩ : ∃ i, Tryz.prog.info? 3 = some i ∧ i.zero = some (.int .i64 0) ∧ i.size = 1 ∧ i.bytes = 8 :=
    ⟨(Tryz.prog.info? 3).get (by kernel_rfl), by kernel_rfl, by kernel_rfl, by kernel_rfl, by kernel_rfl⟩
  cases O with
  | none =>
    obtain rfl := h0 rfl
    have hl : zs.length = 0 := by
      cases zs with
      | nil => rfl
      | cons x t => obtain ⟨a, e, _⟩ := hA 0 (by simp); cases e
    have hn : iNews .i64 zs = [] := by unfold iNews; rw [hl]; rfl
    rw [hl, hn]
    have hr := run_append_owned_none (P := Tryz.prog) (w := w) w.heap.size 32 32 3 i0 1 Tryz.underlying32 hi (.slice none 0 0) 0 [] (World.ownsRow_nil w _ _ _)
    go_enter Tryz.func15, Tryz.ntmps15
    go_wp2
    go_ret
    exact copyP_mk rfl (World.ownsRow_nil w _ _ _) (World.grownBy.refl w _)
  | some a =>
    go_enter Tryz.func15, Tryz.ntmps15
    go_wp2_with (at_builtin; refine wpList_append_own _ rfl (.tmp 4) (.tmp 5) 32 rfl w.heap.size 3 i0 (.int .i64 0) 1 8 Tryz.underlying32 hi hz0 hz1 hz2 rfl (by decide) (.slice none 0 0) 0 [] rfl (World.ownsRow_nil w _ _ _) a zs.length ca (iNews .i64 zs) rfl (by simp [iNews]) (iNews_cell hA) (iNews_one _ _) (by unfold maxLen; omega) (by omega) (Nat.le_refl _) ?_; intro v' w' hown hgrow hnil)
    go_ret
    exact copyP_mk rfl (by simpa using hown) hgrow
def costN (c : Int) : Int := if c = 1 ∨ c = 2 ∨ c = 3 then 1 else if c = 4 then 3 else 0
def sizeN (c n : Int) : Int := if n < 1 then 0 else if c = 1 ∨ c = 2 then n else if c = 3 ∨ c = 4 then n + 1 else 0
theorem cost_any (c : Int) (w : World) : Calls Tryz.prog 23 #[.int .i8 c] w fun e w' => e = .returned (.int .i64 (costN c)) ∧ w' = w := by
  by_cases h : c = 1 ∨ c = 2 ∨ c = 3
  · have HV : Hid (costN c = 1) := if_pos h
    rcases h with rfl | rfl | rfl
    all_goals (
      go_enter Tryz.func23, Tryz.ntmps23
      go_wp2
      go_ret
      exact ⟨by rw [HV.out]; rfl, rfl⟩)
  · have o1 : (c == 1) = false := by rw [beq_eq_false_iff_ne]; omega
    have o2 : (c == 2) = false := by rw [beq_eq_false_iff_ne]; omega
    have o3 : (c == 3) = false := by rw [beq_eq_false_iff_ne]; omega
    by_cases h4 : c = 4
    · have HV : Hid (costN c = 3) := by unfold Hid costN; rw [if_neg h, if_pos h4]
      subst h4
      clear h o1 o2 o3
      go_enter Tryz.func23, Tryz.ntmps23
      go_wp2
      go_ret
      exact ⟨by rw [HV.out]; rfl, rfl⟩
    · have HV : Hid (costN c = 0) := by unfold Hid costN; rw [if_neg h, if_neg h4]
      have o4 : (c == 4) = false := by rw [beq_eq_false_iff_ne]; omega
      clear h h4
      go_enter Tryz.func23, Tryz.ntmps23
      go_wp2
      go_ret
      exact ⟨by rw [HV.out]; rfl, rfl⟩
theorem size_any (c n : Int) (hn : n ≤ 1048576) (w : World) : Calls Tryz.prog 24 #[.int .i8 c, .int .i64 n] w fun e w' => e = .returned (.int .i64 (sizeN c n)) ∧ w' = w := by
  by_cases h0 : n < 1
  · have HV : Hid (sizeN c n = 0) := if_pos h0
    go_enter Tryz.func24, Tryz.ntmps24
    go_wp2
    go_ret
    exact ⟨by rw [HV.out]; rfl, rfl⟩
  · by_cases h : c = 1 ∨ c = 2
    · have HV : Hid (sizeN c n = n) := by unfold Hid sizeN; rw [if_neg h0, if_pos h]
      rcases h with rfl | rfl
      all_goals (
        go_enter Tryz.func24, Tryz.ntmps24
        go_wp2
        go_ret
        exact ⟨by rw [HV.out]; rfl, rfl⟩)
    · have o1 : (c == 1) = false := by rw [beq_eq_false_iff_ne]; omega
      have o2 : (c == 2) = false := by rw [beq_eq_false_iff_ne]; omega
      by_cases h4 : c = 3 ∨ c = 4
      · have HV : Hid (sizeN c n = n + 1) := by unfold Hid sizeN; rw [if_neg h0, if_neg h, if_pos h4]
        clear h o1 o2
        rcases h4 with rfl | rfl
        all_goals (
          go_enter Tryz.func24, Tryz.ntmps24
          go_wp2
          go_ret
          exact ⟨by rw [HV.out]; rfl, rfl⟩)
      · have HV : Hid (sizeN c n = 0) := by unfold Hid sizeN; rw [if_neg h0, if_neg h, if_neg h4]
        have o3 : (c == 3) = false := by rw [beq_eq_false_iff_ne]; omega
        have o4 : (c == 4) = false := by rw [beq_eq_false_iff_ne]; omega
        clear h h4
        go_enter Tryz.func24, Tryz.ntmps24
        go_wp2
        go_ret
        exact ⟨by rw [HV.out]; rfl, rfl⟩
theorem much_any (A1 A2 : Option Addr) (c1 c2 : Nat) (ent : Int) (text mem : List Int) (w : World) :
    Calls Tryz.prog 11 #[.agg #[.slice A1 text.length c1, .int .i64 ent, .slice A2 mem.length c2]] w fun e w' => e = .returned (.bool (muchB text mem)) ∧ Below w.heap.size w w' := by
  have hB0 : Below w.heap.size w (w.alloc (.cells #[.slice A1 text.length c1, .int .i64 ent, .slice A2 mem.length c2] 31)) := lb_alloc (Below.refl _ _) _
  unfold muchB
  by_cases h1 : 600 < text.length
  · rw [decide_eq_true h1]
    have h1' : (600 : Int) < (text.length : Int) := by omega
    go_enter Tryz.func11, Tryz.ntmps11
    go_wp2
    go_ret
    exact ⟨rfl, hB0⟩
  · rw [decide_eq_false h1]
    have h1' : decide ((600 : Int) < (text.length : Int)) = false := decide_eq_false (by omega)
    by_cases h2 : 16384 < mem.length
    · rw [decide_eq_true h2]
      have h2' : (16384 : Int) < (mem.length : Int) := by omega
      go_enter Tryz.func11, Tryz.ntmps11
      go_wp2
      go_ret
      exact ⟨rfl, hB0⟩
    · rw [decide_eq_false h2]
      have h2' : decide ((16384 : Int) < (mem.length : Int)) = false := decide_eq_false (by omega)
      go_enter Tryz.func11, Tryz.ntmps11
      go_wp2
      go_ret
      exact ⟨rfl, hB0⟩

end Go.Proofs.YtmlhnnmelopleaaGreatDoor
