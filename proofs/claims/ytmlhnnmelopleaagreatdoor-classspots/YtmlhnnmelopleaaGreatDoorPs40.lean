/-
  live.Blocks and live.Behind, by what they answer. works, much and eq of the statements.
-/
import Derived.Test.YtmlhnnmelopleaaGreatDoorProg
import Derived.WalkKit
import Derived.WalkSpells
import Derived.WalkLawsBesides
import Derived.RowKit3
import Derived.Below
import Derived.Deep.QuietTactic
import Derived.BigQuiet
import Derived.WalkSmall
import Derived.Laws.Rows
import Derived.Test.YtmlhnnmelopleaaGreatDoorPs39
import Derived.Test.YtmlhnnmelopleaaGreatDoorPs21
import Derived.Test.YtmlhnnmelopleaaGreatDoorPs30
namespace Go.Proofs.YtmlhnnmelopleaaGreatDoor
open Go.RowKit

set_option maxRecDepth 100000 in
set_option maxHeartbeats 4000000 in
theorem lbehind_no (A1 A2 : Option Addr) (c1 ml c2 : Nat) (ent : Int) (text : List Int) (w : World) (hT : IntsAt w A1 .u32 text) (hR : ∀ i, i < text.length → 0 ≤ nth text i ∧ nth text i < 4294967296) (_hc : text.length ≤ c1) (hl : text.length ≤ 1048576) (hm : ml ≤ 1048576) (hE : (checkI text ml ent).1 ≠ 0) :
    Calls Tryz.prog 74 #[.agg #[.slice A1 text.length c1, .int .i64 ent, .slice A2 ml c2]] w (HN (checkI text ml ent).1 w) := by
  obtain ⟨W, HW⟩ : ∃ W, Hid (w.alloc (.cells #[.slice A1 text.length c1, .int .i64 ent, .slice A2 ml c2] 31) = W) := ⟨_, rfl⟩
  have HB : Hid (Below w.heap.size w W) := by unfold Hid; rw [← HW.out]; exact lb_alloc (Below.refl _ _) _
  have i0 : W.cell? ⟨w.heap.size, 0, none⟩ = some (.slice A1 text.length c1) := by rw [← HW.out]; simp [go_sem]
  have i1 : W.cell? ⟨w.heap.size, 1, none⟩ = some (.int .i64 ent) := by rw [← HW.out]; simp [go_sem]
  have i2 : W.cell? ⟨w.heap.size, 2, none⟩ = some (.slice A2 ml c2) := by rw [← HW.out]; simp [go_sem]
  have C := blocks_any A1 A2 c1 ml c2 ent text W (hT.keep HB.out) hR hl hm
  have hne : ((checkI text ml ent).1 == 0) = false := by simpa using hE
  have hne2 : ((checkI text ml ent).1 != 0) = true := by simpa using hE
  clear hT hR hE
  generalize (checkI text ml ent).1 = E at *
  go_enter Tryz.func74, Tryz.ntmps74
  go_upto_region 1 with fail
  rw [HW.out]
  clear HW
  go_wp2_with (go_at_call 54; refine C.mono ?_; rintro e w1 ⟨A, c, rfl, hown, hb1⟩)
  go_ret2
  exact ⟨none, 0, rfl, lb_trans HB.out hb1⟩

set_option maxRecDepth 100000 in
set_option maxHeartbeats 8000000 in
theorem lbehind_ok (A1 A2 : Option Addr) (c1 ml c2 : Nat) (ent : Int) (text : List Int) (w : World) (hT : IntsAt w A1 .u32 text) (hR : ∀ i, i < text.length → 0 ≤ nth text i ∧ nth text i < 4294967296) (hc : text.length ≤ c1) (hl : text.length ≤ 1048576) (hm : ml ≤ 1048576) (hE : (checkI text ml ent).1 = 0) :
    Calls Tryz.prog 74 #[.agg #[.slice A1 text.length c1, .int .i64 ent, .slice A2 ml c2]] w (HR text ent w) := by
  have hM := check_mayI hE
  obtain ⟨a1, ea, -⟩ := hT 0 hM.past.pos
  subst ea
  have hl4 : text.length ≤ 16384 := hM.past.len
  have hLt := blk_len_le text ent
  have hpos := hM.past.pos
  have HBi : Hid (∀ i, i < (blkL text ent).length → 0 ≤ rAt (blkL text ent) i ∧ rAt (blkL text ent) i < rSym (blkL text ent) i ∧ rSym (blkL text ent) i ≤ (text.length : Int)) := fun i hi => blk_in hi
  have HMo : Hid (∀ k, k < (blkL text ent).length → ∀ i, i < k → rSym (blkL text ent) i ≤ rAt (blkL text ent) k) := fun k hk => blkRise hpos hk
  obtain ⟨W, HW⟩ : ∃ W, Hid (w.alloc (.cells #[.slice (some a1) text.length c1, .int .i64 ent, .slice A2 ml c2] 31) = W) := ⟨_, rfl⟩
  have HB : Hid (Below w.heap.size w W) := by unfold Hid; rw [← HW.out]; exact lb_alloc (Below.refl _ _) _
  have i0 : W.cell? ⟨w.heap.size, 0, none⟩ = some (.slice (some a1) text.length c1) := by rw [← HW.out]; simp [go_sem]
  have i1 : W.cell? ⟨w.heap.size, 1, none⟩ = some (.int .i64 ent) := by rw [← HW.out]; simp [go_sem]
  have i2 : W.cell? ⟨w.heap.size, 2, none⟩ = some (.slice A2 ml c2) := by rw [← HW.out]; simp [go_sem]
  have C := blocks_any (some a1) A2 c1 ml c2 ent text W (hT.keep HB.out) hR hl hm
  have C2 := fun (B : Option Addr) (cB : Nat) (wx : World) (hx : Below w.heap.size w wx) (hr : RelsAt wx B (blkL text ent)) => least_any a1 A2 B c1 ml c2 cB ent text wx (hT.keep hx) hR hM hc hr
  rw [show outB text ml ent = blkL text ent from if_pos hE, hE] at C
  have HT : Hid (IntsAt w (some a1) .u32 text) := hT
  have HRr : Hid (∀ i, i < text.length → 0 ≤ nth text i ∧ nth text i < 4294967296) := hR
  have hmk := make_us text.length (by omega)
  clear hT hR hE hM hc hpos
  go_enter Tryz.func74, Tryz.ntmps74
  go_upto_region 1 with fail
  rw [HW.out]
  clear HW
  go_upto_region 5 with (first
    | (go_at_call 54; refine C.mono ?_; rintro e w1 ⟨B, cB, rfl, hown, hb1⟩; have HRl : Hid (RelsAt w1 B (blkL text ent)) := drow_rels hown; have HB1 : Hid (Below w.heap.size w w1) := lb_trans HB.out hb1; have j0 := lkeep hb1 i0; have j1 := lkeep hb1 i1; have j2 := lkeep hb1 i2; clear hown hb1 i0 i1 i2)
    | (go_at_call 91; refine (C2 _ _ _ HB1.out HRl.out).mono ?_; rintro e w2 ⟨gi, go, F, G, rfl, h1, h2, h3, h4, hb2⟩; have HG : Hid (IntsAt w2 (some ⟨go, 0, none⟩) .u16 (setL G (blkL text ent).length)) := h2; have HLs : Hid (LstI text ent F G) := h3; have HGl : Hid (∀ x, G x < 65536) := h4; have HB2 : Hid (Below w.heap.size w w2) := lb_trans HB1.out hb2; have HL2 : Hid (RelsAt w2 B (blkL text ent)) := HRl.out.keep hb2; have n0 := lkeep hb2 j0; clear h1 h2 h3 h4 hb2 j0 j1 j2))
  clear C C2
  have HX0 : Hid (w2.cell? ⟨w.heap.size, 0, none⟩ = some (.slice (some a1) text.length c1)) := n0
  obtain ⟨X, HX⟩ : ∃ X, Hid (w2.alloc (.cells (madeCells #[.int .u16 0] text.length) 85) = X) := ⟨_, rfl⟩
  have HBX : Hid (Below w2.heap.size w2 X) := by unfold Hid; rw [← HX.out]; exact lb_alloc (Below.refl _ _) _
  have HSX : Hid (UsAt X w2.heap.size text.length zeroS) := by unfold Hid; rw [← HX.out]; exact UsAt.made w2 text.length
  go_upto_region 6 with fail
  rw [HX.out]
  clear HX hmk n0
  have HLs2 : Hid (LstI text ent F G) := HLs
  go_wp2
  go_loopw [34] (fun i wr => ∃ (k : Nat) (H : Int → Nat), i = .int .i64 k ∧ k ≤ (blkL text ent).length ∧ Hid (UsAt wr w2.heap.size text.length H) ∧ Hid (Dn text (blkL text ent) G H k) ∧ Hid (Below w2.heap.size w2 wr)) (fun i _ => (blkL text ent).length - (intOf i).toNat)
  case atStart => exact ⟨0, _, rfl, Nat.zero_le _, HSX, fun i hi => absurd hi (Nat.not_lt_zero _), HBX⟩
  case round =>
    clear HSX HBX
    obtain ⟨k, H, rfl, hk, HS, HD, HBr⟩ := hrel
    by_cases hlt : k < (blkL text ent).length
    · have hlt' : (k : Int) < ((blkL text ent).length : Int) := by omega
      obtain ⟨ag, eg, qg⟩ := HG.out k (by rw [setL_len]; exact hlt)
      obtain rfl := Option.some.inj eg
      rw [setL_nth hlt, add0] at qg
      obtain ⟨b, eb, q0, q1⟩ := HL2.out k hlt
      subst eb
      have t0 := lkeep HBr.out q0
      have t1 : wr.cell? ⟨(b.add (k * 2)).block, (b.add (k * 2)).off + 1, none⟩ = some (.int .i64 (rSym (blkL text ent) k)) := lkeep HBr.out q1
      clear q0 q1
      obtain ⟨V, HV⟩ : ∃ V, Hid (wr.alloc (.cells #[.int .i64 (rAt (blkL text ent) k), .int .i64 (rSym (blkL text ent) k)] 84) = V) := ⟨_, rfl⟩
      have HBV : Hid (Below wr.heap.size wr V) := by unfold Hid; rw [← HV.out]; exact lb_alloc (Below.refl _ _) _
      have HB0 : Hid (V.cell? ⟨wr.heap.size, 0, none⟩ = some (.int .i64 (rAt (blkL text ent) k))) := by unfold Hid; rw [← HV.out]; simp [go_sem]
      have b1 : V.cell? ⟨wr.heap.size, 1, none⟩ = some (.int .i64 (rSym (blkL text ent) k)) := by rw [← HV.out]; simp [go_sem]
      have s0 := lkeep (lb_trans HBr.out HBV.out) qg
      have HSV : Hid (UsAt V w2.heap.size text.length H) := HS.out.keep HBV.out
      have HBrV : Hid (Below w2.heap.size w2 V) := lb_trans HBr.out HBV.out
      have hzr : w2.heap.size < wr.heap.size := HS.out.lt
      have HZr : Hid (w2.heap.size < wr.heap.size) := hzr
      clear qg
      obtain ⟨f0, f1, f2⟩ := HBi.out k hlt
      have HM : Hid (∀ i, i < k → rSym (blkL text ent) i ≤ rAt (blkL text ent) k) := HMo.out k hlt
      have HD0 : Hid (Dp text (blkL text ent) G H k (rSym (blkL text ent) k - 1)) := Dp.start HD.out
      have HDd : Hid (∀ H' x, Dp text (blkL text ent) G H' k x → x < rAt (blkL text ent) k → Dn text (blkL text ent) G H' (k + 1)) := fun H' x h hx => h.done hx
      have HDp : Hid (∀ H' (x : Nat) s, Dp text (blkL text ent) G H' k (x : Int) → rAt (blkL text ent) k ≤ (x : Int) → s = setB text (rSym (blkL text ent) k) (G (k : Int)) (rSym (blkL text ent) k - 1 - (x : Int)).toNat → Dp text (blkL text ent) G (putS H' (x : Int) s) k ((x : Int) - 1)) := fun H' x s h hx hs => h.put HM.out hx s hs
      have hgk := HGl.out (k : Int)
      clear HS HBr
      generalize G (k : Int) = gk at *
      generalize rAt (blkL text ent) k = fr at *
      generalize rSym (blkL text ent) k = tt at *
      have hwr : IntKind.i64.wrap (tt - 1) = tt - 1 := by simp [IntKind.wrap, IntKind.signed, IntKind.bits]; omega
      go_upto_region 9 with fail
      rw [HV.out]
      clear HV t0 t1 HBV
      generalize wr.heap.size = zr at *
      go_wp2
      go_loopw [11, 12] (fun s i wr => ∃ (j : Nat) (x : Int) (H' : Int → Nat), s = .int .u16 ((setB text tt gk j : Nat) : Int) ∧ i = .int .i64 x ∧ x = tt - 1 - (j : Int) ∧ fr - 1 ≤ x ∧ Hid (UsAt wr w2.heap.size text.length H') ∧ Hid (Dp text (blkL text ent) G H' k x) ∧ Hid (Below w2.heap.size w2 wr) ∧ Hid (wr.cell? ⟨zr, 0, none⟩ = some (.int .i64 fr))) (fun _ i _ => (intOf i - fr + 1).toNat)
      case atStart => exact ⟨0, tt - 1, H, rfl, by go_num, by omega, by omega, HSV, HD0, HBrV, HB0⟩
      case round =>
        clear HSV HD HD0 HBrV s0 b1 HB0
        obtain ⟨j, x, H', rfl, rfl, hx, hxf, HS, HD, HBr, HQ0⟩ := hrel
        have q0 := HQ0.out
        by_cases hge : fr ≤ x
        · obtain ⟨p, hp⟩ : ∃ p : Nat, x = (p : Int) := ⟨x.toNat, by omega⟩
          have hj : (tt - 1 - (p : Int)).toNat = j := by omega
          have hpl : p < text.length := by omega
          have HSt : Hid (setB text tt gk (j + 1) = insN (rdN (nth text p)) (wrN (nth text p)) (setB text tt gk j)) := by
            show insN _ _ _ = _
            rw [show (tt - 1 - (j : Int)).toNat = p by omega]
          have hxj : x - 1 = tt - 1 - ((j + 1 : Nat) : Int) := by omega
          subst hp
          have HD2 : Hid (Dp text (blkL text ent) G (putS H' (p : Int) (setB text tt gk j)) k ((p : Int) - 1)) := HDp.out H' p _ HD.out hge (by rw [hj])
          have HJ : Hid ((p : Int) - 1 = tt - 1 - ((j + 1 : Nat) : Int)) := hxj
          clear hx hxj hj
          have hpl' : (p : Int) < (text.length : Int) := by omega
          obtain ⟨a, ea, qt⟩ := (HT.out.keep HB2.out) p hpl
          obtain rfl := Option.some.inj ea
          have HQt : Hid (w2.cell? (a1.add p) = some (.int .u32 (nth text p))) := qt
          clear qt
          obtain ⟨v0, v1⟩ := HRr.out p hpl
          have D1 := fun wx => readsOK (nth text p) wx v0 v1
          have D2 := fun wx => writesOK (nth text p) wx v0 v1
          have hsl := setB_lt text tt hgk j
          have hless := lessI hsl (wrN_lt (nth text p))
          have hor : bits .or .u16 ((rdN (nth text p) : Nat) : Int) ((lessN (setB text tt gk j) (wrN (nth text p)) : Nat) : Int) = ((insN (rdN (nth text p)) (wrN (nth text p)) (setB text tt gk j) : Nat) : Int) := orI (rdN_lt _) (lessN_lt hsl)
          have s0 := HS.out.cellN hpl
          have s1 := HS.out.fro p
          generalize insN (rdN (nth text p)) (wrN (nth text p)) (setB text tt gk j) = s2 at *
          generalize lessN (setB text tt gk j) (wrN (nth text p)) = lo at *
          generalize rdN (nth text p) = rd at *
          generalize wrN (nth text p) = wt at *
          generalize nth text p = v at *
          generalize setB text tt gk j = sj at *
          obtain ⟨Z, HZ⟩ : ∃ Z, Hid (wr.setCell ⟨w2.heap.size, p, none⟩ (.int .u16 (sj : Int)) = Z) := ⟨_, rfl⟩
          have HU : Hid (UsAt Z w2.heap.size text.length (putS H' (p : Int) sj)) := by unfold Hid; rw [← HZ.out]; exact HS.out.put hpl sj
          have HBZ : Hid (Below w2.heap.size w2 Z) := by unfold Hid; rw [← HZ.out]; exact below_setAt HBr.out (Nat.le_refl _) HBr.out.size
          have HQZ : Hid (Z.cell? ⟨zr, 0, none⟩ = some (.int .i64 fr)) := by unfold Hid; rw [← HZ.out]; exact cell_setN HQ0.out (by have := HZr.out; simp; omega)
          go_upto_region 14 with fail
          rw [HZ.out]
          clear s0 s1 q0 HZ
          have x0 := lkeep HBZ.out HX0.out
          have qt := lkeep HBZ.out HQt.out
          go_wp2_with (first
            | (go_at_call 92; refine (D1 _).mono ?_; rintro e w5 ⟨rfl, hb5⟩; have HB5 : Hid (Below Z.heap.size Z w5) := hb5; clear hb5)
            | (go_at_call 93; refine (D2 _).mono ?_; rintro e w6 ⟨rfl, hb6⟩; have HB6 : Hid (Below Z.heap.size Z w6) := lb_trans HB5.out hb6; clear hb6))
          go_roundw
          case rel => exact ⟨j + 1, (p : Int) - 1, _, by rw [HSt.out], by go_num, HJ.out, by omega, HU.out.keep HB6.out, HD2, lb_trans HBZ.out HB6.out, lkeep HB6.out HQZ.out⟩
          case measure => simp [intOf]; omega
        · have hge' : ¬ fr ≤ x := hge
          have hlt2 : x < fr := by omega
          have HD2 : Hid (Dn text (blkL text ent) G H' (k + 1)) := HDd.out H' x HD.out hlt2
          have hxx : decide (fr ≤ x) = false := decide_eq_false hge
          clear hx
          go_wp2
          go_roundw
          case rel => exact ⟨k + 1, H', by go_num, by omega, HS, HD2, HBr⟩
          case measure => simp [intOf]; omega
    · obtain rfl : k = (blkL text ent).length := by omega
      go_wp2
      go_ret2
      exact ⟨_, _, H, rfl, HS.out.ints, ⟨F, G, HLs.out, fun i hi p a b => HD.out i hi p a b⟩, lb_trans HB2.out HBr.out⟩
theorem behindOK : BehindOK := ⟨lbehind_ok, lbehind_no⟩


end Go.Proofs.YtmlhnnmelopleaaGreatDoor

namespace Go.Proofs.YtmlhnnmelopleaaGreatDoor
open Go.RowKit

def wkT : List Int := [142606341, 285736960, 1880096768, 2818572288]
theorem wk_in : ∀ i, i < wkT.length → 0 ≤ nth wkT i ∧ nth wkT i < 4294967296 := by
  intro i hi
  have : i = 0 ∨ i = 1 ∨ i = 2 ∨ i = 3 := by simp [wkT] at hi; omega
  rcases this with rfl | rfl | rfl | rfl <;> exact ⟨by decide, by decide⟩
theorem wbox_at {w : World} {g : Nat} {cs : Array Value} {t : TypeId} (h : w.heap[g]? = some (.cells cs t (0, 0))) {i : Nat} {v : Value} (hv : cs[i]? = some v) : w.cell? ⟨g, i, none⟩ = some v := by
  simp [World.cell?, h, hv]
theorem wk_ints {w : World} {g : Nat} (h : w.heap[g]? = some (.cells #[.int .u32 142606341, .int .u32 285736960, .int .u32 1880096768, .int .u32 2818572288] 63 (0, 0))) : IntsAt w (some ⟨g, 0, none⟩) .u32 wkT := by
  intro i hi
  refine ⟨⟨g, 0, none⟩, rfl, ?_⟩
  rw [add0]
  have : i = 0 ∨ i = 1 ∨ i = 2 ∨ i = 3 := by simp [wkT] at hi; omega
  rcases this with rfl | rfl | rfl | rfl <;> exact wbox_at h rfl
theorem wk_chk : checkI wkT 0 0 = (0, 0) := by kernel_rfl
theorem wk_beh {H : Int → Nat} (h : BhI wkT 0 H) : H (0 : Nat) = 2 ∧ H (1 : Nat) = 4 ∧ H (2 : Nat) = 0 ∧ H (3 : Nat) = 0 := by
  obtain ⟨F, G, h1, h2⟩ := h
  have hl : (blkL wkT 0).length = 1 := by kernel_rfl
  have hA : rAt (blkL wkT 0) 0 = 0 := by kernel_rfl
  have hS : rSym (blkL wkT 0) 0 = 4 := by kernel_rfl
  have hE : rowZ (edgT wkT 0 (blkL wkT 0).length) 0 = [] := by kernel_rfl
  have hG : G ((0 : Nat) : Int) = 0 := by
    have := h1.sol.out 0 (by omega)
    rw [hE] at this
    exact this
  have k := h2 0 (by omega)
  rw [hA, hS, hG] at k
  refine ⟨?_, ?_, ?_, ?_⟩
  · rw [k 0 (by omega) (by omega)]; kernel_rfl
  · rw [k 1 (by omega) (by omega)]; kernel_rfl
  · rw [k 2 (by omega) (by omega)]; kernel_rfl
  · rw [k 3 (by omega) (by omega)]; kernel_rfl
def muchB (text mem : List Int) : Bool := decide (600 < text.length) || decide (16384 < mem.length)

end Go.Proofs.YtmlhnnmelopleaaGreatDoor
