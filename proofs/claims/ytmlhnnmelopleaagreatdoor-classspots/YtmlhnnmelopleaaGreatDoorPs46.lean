/-
  The program's Spot.
-/
import Derived.Test.YtmlhnnmelopleaaGreatDoorProg
import Derived.WalkKit
import Derived.WalkSpells
import Derived.WalkLawsBesides
import Derived.RowKit3
import Derived.Below
import Derived.Deep.QuietTactic
import Derived.BigQuiet
import Derived.WalkSmall
import Derived.Laws.Rows
import Derived.Test.YtmlhnnmelopleaaGreatDoorPs45
namespace Go.Proofs.YtmlhnnmelopleaaGreatDoor
open Go.RowKit

theorem fro_keep {w w1 : World} {p : Addr} {v : Value} (hb : Below w.heap.size w w1) (h : w.cell? p = some v) (f : w.frozen? p = false) : w1.frozen? p = false := by
  rw [hb.frozen (World.block_lt_of_cell? w p h)]; exact f
def resS (p : Int) (s : Int × Int) : Spt := if s.1 = 0 then (0, 0, 0) else (p, s.1, s.2)
def okS (s : Int × Int) : Bool := decide (s.1 ≠ 0)
def Gd (text : List Int) (ent : Int) (H : Int → Nat) (n p : Nat) : Prop := kindN (cutN text p n) = 3 → BhI text ent H
theorem spot_gd {text : List Int} {ent : Int} {H G : Int → Nat} {n p q : Nat} (hq : q + n ≤ text.length) (hn : 0 < n) (hs : cutN text q n = cutN text p n) (h : Gd text ent H n p) (k : Gd text ent G n p) : spotN text ent H n q = spotN text ent G n q := by
  by_cases h3 : kindN (cutN text p n) = 3
  · exact spot_same hq hn (h h3) (k h3)
  · unfold spotN
    rw [hs]
    by_cases c : inB text ent n q = false ∨ kindN (cutN text p n) = 0
    · rw [if_pos c, if_pos c]
    · rw [if_neg c, if_neg c, if_pos h3, if_pos h3]
def SpotP (text : List Int) (ml : Nat) (ent : Int) (n p : Int) (w : World) (e : Ending) (w' : World) : Prop := Below w.heap.size w w' ∧
  (((checkI text ml ent).1 ≠ 0 ∧ e = .returned (.tuple #[.agg #[.int .i64 0, .int .i8 0, .int .i8 0], .bool false, .int .i64 (checkI text ml ent).1])) ∨
   ((checkI text ml ent).1 = 0 ∧ fitB text n p = false ∧ e = .returned (.tuple #[.agg #[.int .i64 0, .int .i8 0, .int .i8 0], .bool false, .int .i64 1])) ∨
   ((checkI text ml ent).1 = 0 ∧ fitB text n p = true ∧ ∃ H : Int → Nat, Gd text ent H n.toNat p.toNat ∧ e = .returned (.tuple #[.agg #[.int .i64 (resS p (spotN text ent H n.toNat p.toNat)).1, .int .i8 (resS p (spotN text ent H n.toNat p.toNat)).2.1, .int .i8 (resS p (spotN text ent H n.toNat p.toNat)).2.2], .bool (okS (spotN text ent H n.toNat p.toNat)), .int .i64 0])))
set_option maxRecDepth 100000 in
set_option maxHeartbeats 8000000 in
theorem spot_any (A1 A2 : Option Addr) (c1 ml c2 : Nat) (ent : Int) (text : List Int) (n p : Int) (w : World) (hTz : Tz w) (hT : IntsAt w A1 .u32 text) (hR : ∀ i, i < text.length → 0 ≤ nth text i ∧ nth text i < 4294967296) (hc : text.length ≤ c1) (hl : text.length ≤ 1048576) (hm : ml ≤ 1048576) (hp : p ≤ 9223372036854775807) :
    Calls Tryz.prog 20 #[.agg #[.slice A1 text.length c1, .int .i64 ent, .slice A2 ml c2], .int .i64 n, .int .i64 p] w (SpotP text ml ent n p w) := by
  obtain ⟨W, HW⟩ : ∃ W, Hid ((w.alloc (.cells #[.slice A1 text.length c1, .int .i64 ent, .slice A2 ml c2] 31)).alloc (.cells #[.int .i64 0, .int .i8 0, .int .i8 0] 54) = W) := ⟨_, rfl⟩
  have HB : Hid (Below w.heap.size w W) := by unfold Hid; rw [← HW.out]; exact lb_alloc (lb_alloc (Below.refl _ _) _) _
  have i0 : W.cell? ⟨w.heap.size, 0, none⟩ = some (.slice A1 text.length c1) := by rw [← HW.out]; simp [go_sem]
  have i1 : W.cell? ⟨w.heap.size, 1, none⟩ = some (.int .i64 ent) := by rw [← HW.out]; simp [go_sem]
  have i2 : W.cell? ⟨w.heap.size, 2, none⟩ = some (.slice A2 ml c2) := by rw [← HW.out]; simp [go_sem]
  have x0 : W.cell? ⟨w.heap.size + 1, 0, none⟩ = some (.int .i64 0) := by rw [← HW.out]; simp [go_sem]
  have x1 : W.cell? ⟨w.heap.size + 1, 1, none⟩ = some (.int .i8 0) := by rw [← HW.out]; simp [go_sem]
  have x2 : W.cell? ⟨w.heap.size + 1, 2, none⟩ = some (.int .i8 0) := by rw [← HW.out]; simp [go_sem]
  have f0 : W.frozen? ⟨w.heap.size + 1, 0, none⟩ = false := by rw [← HW.out]; simp [go_sem]
  have f1 : W.frozen? ⟨w.heap.size + 1, 1, none⟩ = false := by rw [← HW.out]; simp [go_sem]
  have f2 : W.frozen? ⟨w.heap.size + 1, 2, none⟩ = false := by rw [← HW.out]; simp [go_sem]
  have hB0 := HB.out
  by_cases hE : (checkI text ml ent).1 = 0
  · have hM := check_mayI hE
    obtain ⟨a1, ea, -⟩ := hT 0 hM.past.pos
    subst ea
    have hl4 : text.length ≤ 16384 := hM.past.len
    have C := textof_ok a1 A2 c1 ml c2 ent text W (hT.keep HB.out) hR hl hm hE
    have HR : Hid (∀ i, i < text.length → 0 ≤ nth text i ∧ nth text i < 4294967296) := hR
    have HE : Hid ((checkI text ml ent).1 = 0) := hE
    have HTz : Hid (Tz w) := hTz
    clear hT hR hE hM hTz
    go_enter Tryz.func20, Tryz.ntmps20
    go_upto_region 1 with fail
    rw [HW.out]
    clear HW
    go_upto_region 4 with (go_at_call 34; refine C.mono ?_; rintro e w1 ⟨B, Ab, cb, rfl, hX1, hb1⟩; have HX : Hid (TxAt w1 B a1 A2 Ab c1 ml c2 cb ent text) := hX1; have HB1 : Hid (Below w.heap.size w w1) := lb_trans hB0 hb1; have y0 := lkeep hb1 x0; have y1 := lkeep hb1 x1; have y2 := lkeep hb1 x2; have yf0 := fro_keep hb1 x0 f0; have yf1 := fro_keep hb1 x1 f1; have yf2 := fro_keep hb1 x2 f2; clear hX1 hb1 i0 i1 i2 x0 x1 x2 f0 f1 f2)
    clear C
    have CH := has_any B a1 A2 Ab c1 ml c2 cb ent text n p w1 HX.out (by omega) hp
    cases hf : fitB text n p with
    | false =>
      have HFa : Hid (fitB text n p = false) := hf
      have HFi : Hid (∀ w', Below w.heap.size w w' → SpotP text ml ent n p w (.returned (.tuple #[.agg #[.int .i64 0, .int .i8 0, .int .i8 0], .bool false, .int .i64 1])) w') := fun w' hb => ⟨hb, .inr (.inl ⟨HE.out, HFa.out, rfl⟩)⟩
      rw [hf] at CH
      clear hf
      have hB1 := HB1.out
      go_wp2_with (go_at_call 41; refine CH.mono ?_; rintro e w2 ⟨rfl, e1⟩; have e2 := e1.symm; clear e1; subst e2)
      refine bodyPost_ret (v := .tuple #[.agg #[.int .i64 0, .int .i8 0, .int .i8 0], .bool false, .int .i64 1]) (by simp [results, Tryz.results20, go_sem, y0, y1, y2]) rfl (HFi.out _ ?_)
      exact ((hB1.setCell (p := ⟨w.heap.size + 1, 0, none⟩) (Nat.le_succ _) _).setCell (p := ⟨w.heap.size + 1, 1, none⟩) (Nat.le_succ _) _).setCell (p := ⟨w.heap.size + 1, 2, none⟩) (Nat.le_succ _) _
    | true =>
      obtain ⟨k1, k2, k3⟩ := fit_yes hf
      obtain ⟨nn, rfl⟩ : ∃ nn : Nat, n = (nn : Int) := ⟨n.toNat, by omega⟩
      obtain ⟨pp, rfl⟩ : ∃ pp : Nat, p = (pp : Int) := ⟨p.toNat, by omega⟩
      obtain ⟨m, hnm⟩ : ∃ m, nn = m + 1 := ⟨nn - 1, by omega⟩
      have hpn : pp + nn ≤ text.length := by omega
      have HFa : Hid (fitB text (nn : Int) (pp : Int) = true) := hf
      have hw1 : w.heap.size + 1 < w1.heap.size := World.block_lt_of_cell? w1 ⟨w.heap.size + 1, 0, none⟩ y0
      obtain ⟨W2, HW2⟩ : ∃ W2, Hid (w1.alloc (.cells #[.int .i64 (pp : Int)] 3) = W2) := ⟨_, rfl⟩
      have HB2 : Hid (Below w1.heap.size w1 W2) := by unfold Hid; rw [← HW2.out]; exact lb_alloc (Below.refl _ _) _
      have p0 : W2.cell? ⟨w1.heap.size, 0, none⟩ = some (.int .i64 (pp : Int)) := by rw [← HW2.out]; simp [go_sem]
      have CS := spots_any B a1 A2 Ab c1 ml c2 cb ent text nn m ⟨w1.heap.size, 0, none⟩ 1 [(pp : Int)] W2 (HTz.out.below (lb_trans HB1.out HB2.out)) (HX.out.keep HB2.out) HR.out HE.out hl4 hm hc hnm (fun i hi => by
        obtain rfl : i = 0 := by simp at hi; omega
        exact ⟨_, rfl, by simpa [nth, Addr.add] using p0⟩) (by simp) (by simp) (fun i hi => by
        obtain rfl : i = 0 := by simp at hi; omega
        simp [nth]; omega) (fun i hi => by
        obtain rfl : i = 0 := by simp at hi; omega
        rfl)
      rw [hf] at CH
      have CS : Calls Tryz.prog 36 #[.pointer (some ⟨B, 0, none⟩), .int .i64 (nn : Int), .slice (some ⟨w1.heap.size, 0, none⟩) 1 1] W2 (SpsP text ent nn [(pp : Int)] W2) := CS
      have z0 := lkeep HB2.out y0
      have z1 := lkeep HB2.out y1
      have z2 := lkeep HB2.out y2
      have zf0 := fro_keep HB2.out y0 yf0
      have zf1 := fro_keep HB2.out y1 yf1
      have zf2 := fro_keep HB2.out y2 yf2
      clear hf k1 k2 k3 hnm
      go_upto_region 6 with (go_at_call 41; refine CH.mono ?_; rintro e w2 ⟨rfl, e1⟩; have e2 := e1.symm; clear e1; subst e2)
      go_upto_region 7 with (go_at_call 36; rw [HW2.out]; refine CS.mono ?_; rintro e w3 ⟨H, A, c, hG, rfl, hown, hb3⟩; have HG : Hid (Gd text ent H nn pp) := hG; have HO : Hid (SpAt w3 A (spotsN text ent H nn [(pp : Int)])) := row_sps hown; have HB3 : Hid (Below w.heap.size w w3) := lb_trans HB1.out (lb_trans HB2.out hb3); have a0 := lkeep hb3 z0; have a1' := lkeep hb3 z1; have a2' := lkeep hb3 z2; have af0 := fro_keep hb3 z0 zf0; have af1 := fro_keep hb3 z1 zf1; have af2 := fro_keep hb3 z2 zf2; clear hG hown hb3)
      clear CS CH HW2 p0 z0 z1 z2 zf0 zf1 zf2 y0 y1 y2 yf0 yf1 yf2 HB2
      have hB3 := HB3.out
      have HFi : Hid (∀ w', Below w.heap.size w w' → ∀ (x y z : Int) (b : Bool), resS (pp : Int) (spotN text ent H nn pp) = (x, y, z) → okS (spotN text ent H nn pp) = b → SpotP text ml ent (nn : Int) (pp : Int) w (.returned (.tuple #[.agg #[.int .i64 x, .int .i8 y, .int .i8 z], .bool b, .int .i64 0])) w') := fun w' hb x y z b e1 e2 => ⟨hb, .inr (.inr ⟨HE.out, HFa.out, H, HG.out, by
        show _ = Ending.returned (.tuple #[.agg #[.int .i64 (resS (pp : Int) (spotN text ent H nn pp)).1, .int .i8 (resS (pp : Int) (spotN text ent H nn pp)).2.1, .int .i8 (resS (pp : Int) (spotN text ent H nn pp)).2.2], .bool (okS (spotN text ent H nn pp)), .int .i64 0])
        rw [e1, e2]⟩)⟩
      have HBs : Hid (∀ x y z : Value, Below w.heap.size w (((w3.setCell ⟨w.heap.size + 1, 0, none⟩ x).setCell ⟨w.heap.size + 1, 1, none⟩ y).setCell ⟨w.heap.size + 1, 2, none⟩ z)) := fun x y z => ((hB3.setCell (p := ⟨w.heap.size + 1, 0, none⟩) (Nat.le_succ _) _).setCell (p := ⟨w.heap.size + 1, 1, none⟩) (Nat.le_succ _) _).setCell (p := ⟨w.heap.size + 1, 2, none⟩) (Nat.le_succ _) _
      by_cases hs : (spotN text ent H nn pp).1 = 0
      · have hL : spotsN text ent H nn [(pp : Int)] = [] := by
          show (if (spotN text ent H nn pp).1 = 0 then _ else _) = _
          rw [if_pos hs]; rfl
        have HR1 : Hid (resS (pp : Int) (spotN text ent H nn pp) = (0, 0, 0)) := if_pos hs
        have HR2 : Hid (okS (spotN text ent H nn pp) = false) := decide_eq_false (fun h => h hs)
        rw [hL]
        clear hs hL HO
        go_wp2
        refine bodyPost_ret (v := .tuple #[.agg #[.int .i64 0, .int .i8 0, .int .i8 0], .bool false, .int .i64 0]) (by simp [results, Tryz.results20, go_sem, a0, a1', a2']) rfl (HFi.out _ (HBs.out _ _ _) _ _ _ _ HR1.out HR2.out)
      · obtain ⟨s1, s2, hsp⟩ : ∃ s1 s2, spotN text ent H nn pp = (s1, s2) := ⟨_, _, rfl⟩
        have hL : spotsN text ent H nn [(pp : Int)] = [((pp : Int), s1, s2)] := by
          show (if (spotN text ent H nn pp).1 = 0 then _ else ((pp : Int), spotN text ent H nn pp) :: _) = _
          rw [if_neg hs, hsp]; rfl
        have HR1 : Hid (resS (pp : Int) (spotN text ent H nn pp) = ((pp : Int), s1, s2)) := by
          unfold Hid resS
          rw [if_neg hs, hsp]
        have HR2 : Hid (okS (spotN text ent H nn pp) = true) := decide_eq_true hs
        rw [hL] at HO ⊢
        obtain ⟨x, rfl, d0, d1, d2⟩ := HO.out 0 (by simp)
        rw [show x.add (0 * 3) = x by simp [Addr.add]] at d0 d1 d2
        replace d0 : w3.cell? x = some (.int .i64 (pp : Int)) := d0
        replace d1 : w3.cell? ⟨x.block, x.off + 1, none⟩ = some (.int .i8 s1) := d1
        replace d2 : w3.cell? ⟨x.block, x.off + 2, none⟩ = some (.int .i8 s2) := d2
        clear hs hL HO hsp
        go_wp2
        refine bodyPost_ret (v := .tuple #[.agg #[.int .i64 (pp : Int), .int .i8 s1, .int .i8 s2], .bool true, .int .i64 0]) (by simp [results, Tryz.results20, go_sem, a0, a1', a2']) rfl (HFi.out _ (HBs.out _ _ _) _ _ _ _ HR1.out HR2.out)
  · have C := textof_no A1 A2 c1 ml c2 ent text W (hT.keep HB.out) hR hl hm hE
    have hne2 : ((checkI text ml ent).1 != 0) = true := by simpa using hE
    have HFi : Hid (∀ w', Below w.heap.size w w' → SpotP text ml ent n p w (.returned (.tuple #[.agg #[.int .i64 0, .int .i8 0, .int .i8 0], .bool false, .int .i64 (checkI text ml ent).1])) w') := fun w' hb => ⟨hb, .inl ⟨hE, rfl⟩⟩
    clear hT hR hE hTz
    generalize (checkI text ml ent).1 = E at *
    go_enter Tryz.func20, Tryz.ntmps20
    go_upto_region 1 with fail
    rw [HW.out]
    clear HW
    go_wp2_with (go_at_call 34; refine C.mono ?_; rintro e w1 ⟨rfl, hb1⟩; have HB1 : Hid (Below w.heap.size w w1) := lb_trans hB0 hb1; have y0 := lkeep hb1 x0; have y1 := lkeep hb1 x1; have y2 := lkeep hb1 x2; have yf0 := fro_keep hb1 x0 f0; have yf1 := fro_keep hb1 x1 f1; have yf2 := fro_keep hb1 x2 f2; clear hb1 x0 x1 x2 f0 f1 f2)
    have hB1 := HB1.out
    refine bodyPost_ret (v := .tuple #[.agg #[.int .i64 0, .int .i8 0, .int .i8 0], .bool false, .int .i64 E]) (by simp [results, Tryz.results20, go_sem, y0, y1, y2]) rfl (HFi.out _ ?_)
    exact ((hB1.setCell (p := ⟨w.heap.size + 1, 0, none⟩) (Nat.le_succ _) _).setCell (p := ⟨w.heap.size + 1, 1, none⟩) (Nat.le_succ _) _).setCell (p := ⟨w.heap.size + 1, 2, none⟩) (Nat.le_succ _) _

end Go.Proofs.YtmlhnnmelopleaaGreatDoor
