/-
  Behind of the document: what is live behind each place. The document looks at an image; each word is of 32 bits. What the statements need of the program: Blocks and Behind of live, by what they answer.
-/
import Derived.Test.YtfnicgihpelhhaaGreatProg
import Derived.WalkKit
import Derived.WalkSpells
import Derived.WalkLawsBesides
import Derived.RowKit3
import Derived.Below
import Derived.Deep.QuietTactic
import Derived.BigQuiet
import Derived.WalkSmall
import Derived.Laws.Rows
import Derived.Test.YtfnicgihpelhhaaGreatPl15
import Derived.Test.YtfnicgihpelhhaaGreatPl21
import Derived.Test.YtfnicgihpelhhaaGreatPl13
import Derived.Test.YtfnicgihpelhhaaGreatPl16
namespace Go.Proofs.YtfnicgihpelhhaaGreat
open Go.RowKit

set_option maxRecDepth 100000 in
set_option maxHeartbeats 8000000 in
theorem refbehind_any (A1 A2 : Option Addr) (c1 ml c2 : Nat) (ent : Int) (text : List Int) (w : World) (hT : IntsAt w A1 .u32 text) (hR : ∀ i, i < text.length → 0 ≤ nth text i ∧ nth text i < 4294967296) (hM : MayI text ml ent) (hc : text.length ≤ c1) :
    Calls Tryz.prog 13 #[.agg #[.slice A1 text.length c1, .int .i64 ent, .slice A2 ml c2]] w (BhP text ent w) := by
  have hl : text.length ≤ 16384 := hM.past.len
  have hLt := blk_len_le text ent
  have hpos := hM.past.pos
  have HBi : Hid (∀ i, i < (blkL text ent).length → 0 ≤ rAt (blkL text ent) i ∧ rAt (blkL text ent) i < rSym (blkL text ent) i ∧ rSym (blkL text ent) i ≤ (text.length : Int)) := fun i hi => blk_in hi
  have HMo : Hid (∀ k, k < (blkL text ent).length → ∀ i, i < k → rSym (blkL text ent) i ≤ rAt (blkL text ent) k) := fun k hk => blkRise hpos hk
  obtain ⟨W, HW⟩ : ∃ W, Hid (w.alloc (.cells #[.slice A1 text.length c1, .int .i64 ent, .slice A2 ml c2] 25) = W) := ⟨_, rfl⟩
  have HB : Hid (Below w.heap.size w W) := by unfold Hid; rw [← HW.out]; exact lb_alloc (Below.refl _ _) _
  have i0 : W.cell? ⟨w.heap.size, 0, none⟩ = some (.slice A1 text.length c1) := by rw [← HW.out]; simp [go_sem]
  have i1 : W.cell? ⟨w.heap.size, 1, none⟩ = some (.int .i64 ent) := by rw [← HW.out]; simp [go_sem]
  have i2 : W.cell? ⟨w.heap.size, 2, none⟩ = some (.slice A2 ml c2) := by rw [← HW.out]; simp [go_sem]
  have C1 := refblocks_any A1 A2 c1 ml c2 ent text W (hT.keep HB.out) hR hM
  have C2 := fun wx (hx : Below w.heap.size w wx) => refsets_any A1 A2 c1 ml c2 ent text wx (hT.keep hx) hR hM hc
  have HT : Hid (IntsAt w A1 .u32 text) := hT
  have HR : Hid (∀ i, i < text.length → 0 ≤ nth text i ∧ nth text i < 4294967296) := hR
  have hmk := make_us text.length (by omega)
  clear hT hR hM hpos
  go_enter Tryz.func13, Tryz.ntmps13
  go_upto_region 1 with fail
  rw [HW.out]
  clear HW
  go_upto_region 3 with (first
    | (go_at_call 27; refine C1.mono ?_; rintro e w1 ⟨B, cB, rfl, hrl, hb1⟩; have HB1 : Hid (Below w.heap.size w w1) := lb_trans HB.out hb1; have HL1 : Hid (RelsAt w1 B (blkL text ent)) := hrl; have m0 := lkeep hb1 i0; have m1 := lkeep hb1 i1; have m2 := lkeep hb1 i2; clear hrl hb1 i0 i1 i2 C1)
    | (go_at_call 11; refine (C2 _ HB1.out).mono ?_; rintro e w2 ⟨g1, g2, F, G, rfl, hu1, hu2, hls, hGl, hb2⟩; have HB2 : Hid (Below w.heap.size w w2) := lb_trans HB1.out hb2; have HL2 : Hid (RelsAt w2 B (blkL text ent)) := HL1.out.keep hb2; have HG : Hid (UsAt w2 g2 (blkL text ent).length G) := hu2; have HLs : Hid (LstI text ent F G) := hls; have HGl : Hid (∀ x, G x < 65536) := hGl; have n0 := lkeep hb2 m0; clear hu1 hu2 hls hGl hb2 m0 m1 m2 C2 HL1))
  have HX0 : Hid (w2.cell? ⟨w.heap.size, 0, none⟩ = some (.slice A1 text.length c1)) := n0
  obtain ⟨X, HX⟩ : ∃ X, Hid (w2.alloc (.cells (madeCells #[.int .u16 0] text.length) 43) = X) := ⟨_, rfl⟩
  have HBX : Hid (Below w2.heap.size w2 X) := by unfold Hid; rw [← HX.out]; exact lb_alloc (Below.refl _ _) _
  have HSX : Hid (UsAt X w2.heap.size text.length zeroS) := by unfold Hid; rw [← HX.out]; exact UsAt.made w2 text.length
  go_upto_region 4 with fail
  rw [HX.out]
  clear HX hmk n0
  have HLs2 : Hid (LstI text ent F G) := HLs
  go_wp2
  go_loopw [7] (fun i wr => ∃ (k : Nat) (H : Int → Nat), i = .int .i64 k ∧ k ≤ (blkL text ent).length ∧ Hid (UsAt wr w2.heap.size text.length H) ∧ Hid (Dn text (blkL text ent) G H k) ∧ Hid (Below w2.heap.size w2 wr)) (fun i _ => (blkL text ent).length - (intOf i).toNat)
  case atStart => exact ⟨0, _, rfl, Nat.zero_le _, HSX, fun i hi => absurd hi (Nat.not_lt_zero _), HBX⟩
  case round =>
    clear HSX HBX
    obtain ⟨k, H, rfl, hk, HS, HD, HBr⟩ := hrel
    by_cases hlt : k < (blkL text ent).length
    · have hlt' : (k : Int) < ((blkL text ent).length : Int) := by omega
      have s0 := (HG.out.keep HBr.out).cellN hlt
      obtain ⟨b, eb, q0, q1⟩ := HL2.out k hlt
      subst eb
      have HQ0 : Hid (w2.cell? (b.add (k * 2)) = some (.int .i64 (rAt (blkL text ent) k))) := q0
      have q1 : wr.cell? ⟨(b.add (k * 2)).block, (b.add (k * 2)).off + 1, none⟩ = some (.int .i64 (rSym (blkL text ent) k)) := lkeep HBr.out q1
      clear q0
      obtain ⟨f0, f1, f2⟩ := HBi.out k hlt
      have HM : Hid (∀ i, i < k → rSym (blkL text ent) i ≤ rAt (blkL text ent) k) := HMo.out k hlt
      have HD0 : Hid (Dp text (blkL text ent) G H k (rSym (blkL text ent) k - 1)) := Dp.start HD.out
      have HDd : Hid (∀ H' x, Dp text (blkL text ent) G H' k x → x < rAt (blkL text ent) k → Dn text (blkL text ent) G H' (k + 1)) := fun H' x h hx => h.done hx
      have HDp : Hid (∀ H' (x : Nat) s, Dp text (blkL text ent) G H' k (x : Int) → rAt (blkL text ent) k ≤ (x : Int) → s = setB text (rSym (blkL text ent) k) (G (k : Int)) (rSym (blkL text ent) k - 1 - (x : Int)).toNat → Dp text (blkL text ent) G (putS H' (x : Int) s) k ((x : Int) - 1)) := fun H' x s h hx hs => h.put HM.out hx s hs
      have hgk := HGl.out (k : Int)
      generalize G (k : Int) = gk at *
      generalize rAt (blkL text ent) k = fr at *
      generalize rSym (blkL text ent) k = tt at *
      have hwr : IntKind.i64.wrap (tt - 1) = tt - 1 := by simp [IntKind.wrap, IntKind.signed, IntKind.bits]; omega
      go_wp2
      go_loopw [8, 9] (fun s i wr => ∃ (j : Nat) (x : Int) (H' : Int → Nat), s = .int .u16 ((setB text tt gk j : Nat) : Int) ∧ i = .int .i64 x ∧ x = tt - 1 - (j : Int) ∧ fr - 1 ≤ x ∧ Hid (UsAt wr w2.heap.size text.length H') ∧ Hid (Dp text (blkL text ent) G H' k x) ∧ Hid (Below w2.heap.size w2 wr)) (fun _ i _ => (intOf i - fr + 1).toNat)
      case atStart => exact ⟨0, tt - 1, H, rfl, by go_num, by omega, by omega, HS, HD0, HBr⟩
      case round =>
        clear HS HD HD0 HBr s0 q1
        obtain ⟨j, x, H', rfl, rfl, hx, hxf, HS, HD, HBr⟩ := hrel
        have q0 := lkeep HBr.out HQ0.out
        by_cases hge : fr ≤ x
        · obtain ⟨p, hp⟩ : ∃ p : Nat, x = (p : Int) := ⟨x.toNat, by omega⟩
          have hj : (tt - 1 - (p : Int)).toNat = j := by omega
          have hpl : p < text.length := by omega
          have HSt : Hid (setB text tt gk (j + 1) = insN (rdN (nth text p)) (wrN (nth text p)) (setB text tt gk j)) := by
            show insN _ _ _ = _
            rw [show (tt - 1 - (j : Int)).toNat = p by omega]
          have hxj : x - 1 = tt - 1 - ((j + 1 : Nat) : Int) := by omega
          subst hp
          have HD2 : Hid (Dp text (blkL text ent) G (putS H' (p : Int) (setB text tt gk j)) k ((p : Int) - 1)) := HDp.out H' p _ HD.out hge (by rw [hj])
          have HJ : Hid ((p : Int) - 1 = tt - 1 - ((j + 1 : Nat) : Int)) := hxj
          clear hx hxj hj
          have hpl' : (p : Int) < (text.length : Int) := by omega
          obtain ⟨a, ea, qt⟩ := (HT.out.keep HB2.out) p hpl
          subst ea
          have HQt : Hid (w2.cell? (a.add p) = some (.int .u32 (nth text p))) := qt
          clear qt
          obtain ⟨v0, v1⟩ := HR.out p hpl
          have D1 := fun wx => refreads_any (nth text p) v0 v1 wx
          have D2 := fun wx => refwrites_any (nth text p) v0 v1 wx
          have hsl := setB_lt text tt hgk j
          have hless := lessI hsl (wrN_lt (nth text p))
          have hor : bits .or .u16 ((rdN (nth text p) : Nat) : Int) ((lessN (setB text tt gk j) (wrN (nth text p)) : Nat) : Int) = ((insN (rdN (nth text p)) (wrN (nth text p)) (setB text tt gk j) : Nat) : Int) := orI (rdN_lt _) (lessN_lt hsl)
          have s0 := HS.out.cellN hpl
          have s1 := HS.out.fro p
          generalize insN (rdN (nth text p)) (wrN (nth text p)) (setB text tt gk j) = s2 at *
          generalize lessN (setB text tt gk j) (wrN (nth text p)) = lo at *
          generalize rdN (nth text p) = rd at *
          generalize wrN (nth text p) = wt at *
          generalize nth text p = v at *
          generalize setB text tt gk j = sj at *
          obtain ⟨Z, HZ⟩ : ∃ Z, Hid (wr.setCell ⟨w2.heap.size, p, none⟩ (.int .u16 (sj : Int)) = Z) := ⟨_, rfl⟩
          have HU : Hid (UsAt Z w2.heap.size text.length (putS H' (p : Int) sj)) := by unfold Hid; rw [← HZ.out]; exact HS.out.put hpl sj
          have HBZ : Hid (Below w2.heap.size w2 Z) := by unfold Hid; rw [← HZ.out]; exact below_setAt HBr.out (Nat.le_refl _) HBr.out.size
          go_upto_region 12 with fail
          rw [HZ.out]
          clear s0 s1 q0 HZ
          have x0 := lkeep HBZ.out HX0.out
          have qt := lkeep HBZ.out HQt.out
          go_wp2_with (first
            | (go_at_call 30; refine (D1 _).mono ?_; rintro e w5 ⟨rfl, hb5⟩; have HB5 : Hid (Below Z.heap.size Z w5) := hb5; clear hb5)
            | (go_at_call 31; refine (D2 _).mono ?_; rintro e w6 ⟨rfl, hb6⟩; have HB6 : Hid (Below Z.heap.size Z w6) := lb_trans HB5.out hb6; clear hb6))
          go_roundw
          case rel => exact ⟨j + 1, (p : Int) - 1, _, by rw [HSt.out], by go_num, HJ.out, by omega, HU.out.keep HB6.out, HD2, lb_trans HBZ.out HB6.out⟩
          case measure => simp [intOf]; omega
        · have hge' : ¬ fr ≤ x := hge
          have hlt2 : x < fr := by omega
          have HD2 : Hid (Dn text (blkL text ent) G H' (k + 1)) := HDd.out H' x HD.out hlt2
          have hxx : decide (fr ≤ x) = false := decide_eq_false hge
          clear hx
          go_wp2
          go_roundw
          case rel => exact ⟨k + 1, H', by go_num, by omega, HS, HD2, HBr⟩
          case measure => simp [intOf]; omega
    · obtain rfl : k = (blkL text ent).length := by omega
      go_wp2
      go_ret
      exact ⟨w2.heap.size, H, rfl, HS.out, ⟨F, G, HLs.out, fun i hi p a b => HD.out i hi p a b⟩, lb_trans HB2.out HBr.out⟩


end Go.Proofs.YtfnicgihpelhhaaGreat

namespace Go.Proofs.YtfnicgihpelhhaaGreat
open Go.RowKit

set_option maxRecDepth 100000 in
set_option maxHeartbeats 1000000 in
theorem refcheck_any (A1 A2 : Option Addr) (c1 ml c2 : Nat) (ent : Int) (text : List Int) (w : World) (hT : IntsAt w A1 .u32 text) (hR : ∀ i, i < text.length → 0 ≤ nth text i ∧ nth text i < 4294967296) (hl : text.length ≤ 1048576) (hm : ml ≤ 1048576) :
    Calls Tryz.prog 7 #[.agg #[.slice A1 text.length c1, .int .i64 ent, .slice A2 ml c2]] w (ChkP (checkI text ml ent).1 (checkI text ml ent).2 w) := by
  by_cases h0 : text.length = 0
  · rw [check0 h0, h0]
    go_enter Tryz.func7, Tryz.ntmps7
    go_wp2
    go_ret2
    exact ⟨rfl, lb_alloc (Below.refl _ _) _⟩
  have n0 : ((text.length : Int) == 0) = false := by simpa using h0
  by_cases h1 : 16384 < text.length
  · rw [check1 h0 h1]
    go_enter Tryz.func7, Tryz.ntmps7
    go_wp2
    go_ret2
    exact ⟨rfl, lb_alloc (Below.refl _ _) _⟩
  by_cases h2 : 4096 < ml
  · rw [check2 h0 h1 h2]
    go_enter Tryz.func7, Tryz.ntmps7
    go_wp2
    go_ret2
    exact ⟨rfl, lb_alloc (Below.refl _ _) _⟩
  by_cases h3 : ent < 0
  · rw [check3 h0 h1 h2 (.inl h3)]
    go_enter Tryz.func7, Tryz.ntmps7
    go_wp2
    go_ret2
    exact ⟨rfl, lb_alloc (Below.refl _ _) _⟩
  by_cases h4 : (text.length : Int) ≤ ent
  · rw [check3 h0 h1 h2 (.inr h4)]
    go_enter Tryz.func7, Tryz.ntmps7
    go_wp2
    go_ret2
    exact ⟨rfl, lb_alloc (Below.refl _ _) _⟩
  have HP : Hid (Past text ml ent) := ⟨by omega, by omega, by omega, by omega, by omega⟩
  have HB0 : Hid (Below w.heap.size w (w.alloc (.cells #[.slice A1 text.length c1, .int .i64 ent, .slice A2 ml c2] 25))) := lb_alloc (Below.refl _ _) _
  have HX : Hid ((w.alloc (.cells #[.slice A1 text.length c1, .int .i64 ent, .slice A2 ml c2] 25)).heap[w.heap.size]? = some (.cells #[.slice A1 text.length c1, .int .i64 ent, .slice A2 ml c2] 25 (0, 0))) := heap_alloc_new _ _
  clear h1 h2 h3 h4
  have hlen : text.length ≤ 16384 := HP.out.len
  have hml := HP.out.mem
  have hpos := HP.out.pos
  have he0 := HP.out.ent0
  have he1 := HP.out.ent1
  go_enter Tryz.func7, Tryz.ntmps7
  go_wp2
  go_loopw [5] (fun i wr => ∃ k : Nat, i = .int .i64 k ∧ k ≤ text.length ∧ Hid (∀ j, j < k → farT text j = false) ∧ Hid (Below (w.alloc (.cells #[.slice A1 text.length c1, .int .i64 ent, .slice A2 ml c2] 25)).heap.size (w.alloc (.cells #[.slice A1 text.length c1, .int .i64 ent, .slice A2 ml c2] 25)) wr)) (fun i _ => text.length - (intOf i).toNat)
  case atStart => exact ⟨0, rfl, by omega, fun j hj => by omega, Below.refl _ _⟩
  case round =>
    obtain ⟨k, rfl, hk, hj, hb⟩ := hrel
    have HBr : Hid (Below w.heap.size w wr) := lb_trans HB0.out hb.out
    have hx := lb_box0 HX.out hb.out
    by_cases hlt : k < text.length
    · obtain ⟨a, rfl, q⟩ := (hT.keep HBr.out) k hlt
      have x0 : wr.cell? ⟨w.heap.size, 0, none⟩ = some (.slice (some a) text.length c1) := by simp [World.cell?, hx]
      obtain ⟨hv0, hv1⟩ := hR k hlt
      have C := reftarget_any (nth text k) hv0 hv1 wr
      have HF : Hid (farT text k = (isT (nth text k) && decide ((text.length : Int) ≤ tgV (nth text k)))) := rfl
      generalize nth text k = v at *
      generalize isT v = t at *
      generalize tgV v = z at *
      clear hx
      cases t with
      | false =>
        go_wp2_with (go_at_call 16; refine C.mono ?_; rintro e w1 ⟨rfl, hb1⟩)
        go_roundw
        case rel => exact ⟨k + 1, by go_num, by omega, fun j hj1 => by
          by_cases hjk : j = k
          · subst hjk; rw [HF.out]; rfl
          · exact hj.out j (by omega), lb_trans hb.out hb1⟩
        case measure => simp [intOf]; omega
      | true =>
        by_cases hz : (text.length : Int) ≤ z
        · go_wp2_with (go_at_call 16; refine C.mono ?_; rintro e w1 ⟨rfl, hb1⟩)
          go_ret2
          have e := check_far HP.out hlt hj.out (by rw [HF.out]; simpa using hz)
          rw [e]
          exact ⟨rfl, lb_trans HBr.out hb1⟩
        · go_wp2_with (go_at_call 16; refine C.mono ?_; rintro e w1 ⟨rfl, hb1⟩)
          go_roundw
          case rel => exact ⟨k + 1, by go_num, by omega, fun j hj1 => by
            by_cases hjk : j = k
            · subst hjk; rw [HF.out]; simpa using hz
            · exact hj.out j (by omega), lb_trans hb.out hb1⟩
          case measure => simp [intOf]; omega
    · obtain rfl : k = text.length := by omega
      obtain ⟨a, rfl, q⟩ := (hT.keep HBr.out) (text.length - 1) (by omega)
      have x0 : wr.cell? ⟨w.heap.size, 0, none⟩ = some (.slice (some a) text.length c1) := by simp [World.cell?, hx]
      obtain ⟨hv0, hv1⟩ := hR (text.length - 1) (by omega)
      have C := refdecode_any (nth text (text.length - 1)) hv0 hv1 wr
      have HE : Hid _ := check_end HP.out hj.out
      have HL : Hid (lastOK (nth text (text.length - 1)) = decide (dOp (nth text (text.length - 1)) = 0 ∨ dOp (nth text (text.length - 1)) = 15 ∨ dOp (nth text (text.length - 1)) = 19 ∨ dOp (nth text (text.length - 1)) = 21)) := rfl
      have hc : ((text.length - 1 : Nat) : Int) = (text.length : Int) - 1 := by omega
      generalize nth text (text.length - 1) = v at *
      generalize dOp v = x at *
      generalize dD v = x1 at *
      generalize dA v = x2 at *
      generalize dB v = x3 at *
      generalize dN v = x4 at *
      generalize lastOK v = t at *
      clear hx
      go_wp2_with (go_at_call 20; refine C.mono ?_; rintro e w1 ⟨rfl, hb1⟩)
      all_goals (
        go_ret2
        rw [HE.out, HL.out]
        refine ⟨?_, lb_trans HBr.out hb1⟩
        by_cases hd : x = 0 ∨ x = 15 ∨ x = 19 ∨ x = 21
        · rw [decide_eq_true hd]
          first
            | rfl
            | (exfalso; simp_all)
        · rw [decide_eq_false hd]
          first
            | (exfalso; simp_all; done)
            | (simp; omega))





end Go.Proofs.YtfnicgihpelhhaaGreat

namespace Go.Proofs.YtfnicgihpelhhaaGreat
open Go.RowKit

def SR (text : List Int) (ent : Int) (w : World) (e : Ending) (w' : World) : Prop := ∃ (A B : Option Addr) (c d : Nat) (F G : Int → Nat), e = .returned (.tuple #[.slice A (blkL text ent).length c, .slice B (blkL text ent).length d, .int .i64 0]) ∧ IntsAt w' A .u16 (setL F (blkL text ent).length) ∧ IntsAt w' B .u16 (setL G (blkL text ent).length) ∧ LstI text ent F G ∧ Below w.heap.size w w'
def SN (E : Int) (w : World) (e : Ending) (w' : World) : Prop := ∃ (A B : Option Addr) (c d : Nat), e = .returned (.tuple #[.slice A 0 c, .slice B 0 d, .int .i64 E]) ∧ Below w.heap.size w w'
def HR (text : List Int) (ent : Int) (w : World) (e : Ending) (w' : World) : Prop := ∃ (A : Option Addr) (c : Nat) (H : Int → Nat), e = .returned (.tuple #[.slice A text.length c, .int .i64 0]) ∧ IntsAt w' A .u16 (setL H text.length) ∧ BhI text ent H ∧ Below w.heap.size w w'
def HN (E : Int) (w : World) (e : Ending) (w' : World) : Prop := ∃ (A : Option Addr) (c : Nat), e = .returned (.tuple #[.slice A 0 c, .int .i64 E]) ∧ Below w.heap.size w w'
/-- Blocks, of an image that may be, and of one that may not. -/
structure BlocksOK : Prop where
  ok : ∀ (A1 A2 : Option Addr) (c1 ml c2 : Nat) (ent : Int) (text : List Int) (w : World), IntsAt w A1 .u32 text → (∀ i, i < text.length → 0 ≤ nth text i ∧ nth text i < 4294967296) → text.length ≤ c1 → text.length ≤ 1048576 → ml ≤ 1048576 → (checkI text ml ent).1 = 0 →
    Calls Tryz.prog 8 #[.agg #[.slice A1 text.length c1, .int .i64 ent, .slice A2 ml c2]] w (SR text ent w)
  no : ∀ (A1 A2 : Option Addr) (c1 ml c2 : Nat) (ent : Int) (text : List Int) (w : World), IntsAt w A1 .u32 text → (∀ i, i < text.length → 0 ≤ nth text i ∧ nth text i < 4294967296) → text.length ≤ c1 → text.length ≤ 1048576 → ml ≤ 1048576 → (checkI text ml ent).1 ≠ 0 →
    Calls Tryz.prog 8 #[.agg #[.slice A1 text.length c1, .int .i64 ent, .slice A2 ml c2]] w (SN (checkI text ml ent).1 w)
structure BehindOK : Prop where
  ok : ∀ (A1 A2 : Option Addr) (c1 ml c2 : Nat) (ent : Int) (text : List Int) (w : World), IntsAt w A1 .u32 text → (∀ i, i < text.length → 0 ≤ nth text i ∧ nth text i < 4294967296) → text.length ≤ c1 → text.length ≤ 1048576 → ml ≤ 1048576 → (checkI text ml ent).1 = 0 →
    Calls Tryz.prog 10 #[.agg #[.slice A1 text.length c1, .int .i64 ent, .slice A2 ml c2]] w (HR text ent w)
  no : ∀ (A1 A2 : Option Addr) (c1 ml c2 : Nat) (ent : Int) (text : List Int) (w : World), IntsAt w A1 .u32 text → (∀ i, i < text.length → 0 ≤ nth text i ∧ nth text i < 4294967296) → text.length ≤ c1 → text.length ≤ 1048576 → ml ≤ 1048576 → (checkI text ml ent).1 ≠ 0 →
    Calls Tryz.prog 10 #[.agg #[.slice A1 text.length c1, .int .i64 ent, .slice A2 ml c2]] w (HN (checkI text ml ent).1 w)
theorem own_cap {w : World} {base n c : Nat} {e : TypeId} {sz m : Nat} {A : Option Addr} {xs : List Value} (h : w.ownsRow base e sz (.slice A m c) n xs) : n ≤ c := by
  rcases h.2 with ⟨_, h0⟩ | ⟨g, cap, cur, hv, _, _, hc, _⟩
  · omega
  · cases hv; exact hc


end Go.Proofs.YtfnicgihpelhhaaGreat
