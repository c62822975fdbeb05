/-
  code of package list: the lines of an object's code. object of package list: the lines of an object.
-/
import Derived.Test.YtbckolkgncajfaaGreatDoorProg
import Derived.WalkKit
import Derived.WalkSpells
import Derived.WalkLawsBesides
import Derived.RowKit3
import Derived.Below
import Derived.Deep.QuietTactic
import Derived.BigQuiet
import Derived.WalkSmall
import Derived.Laws.Rows
import Derived.Test.YtbckolkgncajfaaGreatDoorLo23
import Derived.Test.YtbckolkgncajfaaGreatDoorLo22
import Derived.Test.YtbckolkgncajfaaGreatDoorLo08
import Derived.Deep.RegionHeld3
import Derived.Laws.OwnMore
namespace Go.Proofs.YtbckolkgncajfaaGreatDoor
open Go.RowKit

theorem rels_at0 {w : World} {A : Option Addr} {rs : List Rel} {r : Nat} (h : RelsAt w A (rs.drop r)) (hr : r < rs.length) : ∃ a : Addr, A = some a ∧ w.cell? a = some (.int .i64 (rAt rs r)) ∧ w.cell? ⟨a.block, a.off + 1, none⟩ = some (.int .i64 (rSym rs r)) := by
  obtain ⟨a, e, c, d⟩ := h 0 (by simp; omega)
  have e1 : rAt (rs.drop r) 0 = rAt rs r := by simp [rAt]
  have e2 : rSym (rs.drop r) 0 = rSym rs r := by simp [rSym]
  rw [e1, Nat.zero_mul] at c
  rw [e2, Nat.zero_mul] at d
  exact ⟨a, e, by simpa [Addr.add] using c, by simpa [Addr.add] using d⟩
theorem rels_next {w : World} {a : Addr} {rs : List Rel} {r : Nat} (h : RelsAt w (some a) (rs.drop r)) : RelsAt w (some ⟨a.block, a.off + 2, none⟩) (rs.drop (r + 1)) := fun i hi => by
  obtain ⟨b, e, c, d⟩ := h (i + 1) (by simp at hi ⊢; omega)
  cases e
  have e1 : rAt (rs.drop r) (i + 1) = rAt (rs.drop (r + 1)) i := by unfold rAt; simp only [List.getD_eq_getElem?_getD, List.getElem?_drop]; rw [show r + (i + 1) = r + 1 + i by omega]
  have e2 : rSym (rs.drop r) (i + 1) = rSym (rs.drop (r + 1)) i := by unfold rSym; simp only [List.getD_eq_getElem?_getD, List.getElem?_drop]; rw [show r + (i + 1) = r + 1 + i by omega]
  rw [e1] at c
  rw [e2] at d
  have e3 : ∀ b : Addr, ((⟨b.block, b.off + 2, none⟩ : Addr).add (i * 2)) = b.add ((i + 1) * 2) := fun b => by
    unfold Addr.add
    rw [Nat.succ_mul]
    by_cases h0 : i = 0
    · subst h0; simp
    · rw [if_neg (by omega), if_neg (by omega)]
      simp only [Addr.mk.injEq, and_true, true_and]
      omega
  refine ⟨_, rfl, ?_, ?_⟩
  · rw [e3]; exact c
  · rw [e3]; exact d
theorem rels_none {w : World} {A : Option Addr} {rs : List Rel} {r : Nat} (h : rs.length ≤ r) : RelsAt w A (rs.drop r) := fun i hi => by
  simp at hi; omega
theorem slice_len {A : Option Addr} {n m c : Nat} (h : n = m) : Value.slice A n c = .slice A m c := by rw [h]
theorem wordsL_pos (v : Int) : ∃ m, (wordsL v).length = m + 1 := by
  unfold wordsL
  split
  · exact ⟨_, List.length_cons⟩
  · exact ⟨1, rfl⟩
/-- The object's lists, as the code wants them. -/
structure Obj3 (w : World) (A1 A3 A4 : Option Addr) (code : List Int) (ss : List Sym) (rs : List Rel) : Prop where
  cd : IntsAt w A1 .u32 code
  sy : SymsAt w A3 ss
  rl : RelsAt w A4 rs
  range : ∀ i, i < code.length → 0 ≤ nth code i ∧ nth code i < 4294967296
  sym : ∀ r, r < rs.length → 0 ≤ rSym rs r ∧ rSym rs r < ss.length
set_option maxHeartbeats 4000000 in
set_option maxRecDepth 100000 in
theorem codeL_any (g : Nat) (l : List UInt8) (nm : ByteArray) (dA : Int) (A1 A2 A3 A4 : Option Addr) (c1 n2 c2 c3 c4 : Nat) (code : List Int) (ss : List Sym) (rs : List Rel) (w0 w : World) (h : Bd w g l) (hb0 : Below w0.heap.size w0 w) (hg0 : w0.heap.size ≤ g) (hO : Obj3 w0 A1 A3 A4 code ss rs) (hc : code.length ≤ 16384) (_hs : ss.length ≤ 256) (_hr : rs.length ≤ 16384) (hr4 : rs.length ≤ c4) (hlen : l.length + (codeT ss rs code 0 0).length ≤ 140737488355328) (ht : Tab w0) (hN : Nm w0) :
    Calls Tryz.prog 84 #[.pointer (some ⟨g, 0, none⟩), .agg #[.string nm, .slice A1 code.length c1, .int .i64 dA, .slice A2 n2 c2, .slice A3 ss.length c3, .slice A4 rs.length c4]] w fun e w' => e = .returned (.tuple #[]) ∧ Puts g l (codeT ss rs code 0 0) w w' := by
  have HD : Hid (Bd w g l) := h
  have HB0 : Hid (Below w0.heap.size w0 w) := hb0
  have HO : Hid (Obj3 w0 A1 A3 A4 code ss rs) := hO
  have HT : Hid (Tab w0) := ht
  have HN : Hid (Nm w0) := hN
  have HL : Hid (l.length + (codeT ss rs code 0 0).length ≤ 140737488355328) := hlen
  obtain ⟨W, hW⟩ : ∃ W, W = w.alloc (.cells #[.string nm, .slice A1 code.length c1, .int .i64 dA, .slice A2 n2 c2, .slice A3 ss.length c3, .slice A4 rs.length c4] 65) := ⟨_, rfl⟩
  have HBW : Hid (Below w.heap.size w W) := by unfold Hid; rw [hW]; exact lb_alloc (Below.refl _ _) _
  have HXW : Hid (W.heap[w.heap.size]? = some (.cells #[.string nm, .slice A1 code.length c1, .int .i64 dA, .slice A2 n2 c2, .slice A3 ss.length c3, .slice A4 rs.length c4] 65 (0, 0))) := by unfold Hid; rw [hW]; exact heap_alloc_new _ _
  have HGW : Hid (g < w.heap.size) := h.lt
  have HW : Hid _ := hW
  clear h hb0 hO ht hN hlen hW
  obtain ⟨d0, d1, d2, d3, d4, d5⟩ := box6_cell HXW.out
  go_enter Tryz.func84, Tryz.ntmps84
  go_upto_region 1 with fail
  rw [← HW.out]
  clear HW
  go_wp2
  go_loopw [13, 4] (fun i v wr => ∃ (k r : Nat) (A : Option Addr) (c : Nat) (pre : List UInt8), i = .int .i64 k ∧ v = .slice A (rs.length - r) c ∧ k ≤ code.length ∧ r ≤ rs.length ∧ rs.length - r ≤ c ∧ Hid (RelsAt w0 A (rs.drop r)) ∧ Hid (To 5 g g W wr) ∧ Hid (Bd wr g (l ++ pre)) ∧ Hid (pre ++ codeT ss rs (code.drop k) k r = codeT ss rs code 0 0)) (fun i _ _ => code.length - (intOf i).toNat)
  case atStart => exact ⟨0, 0, A4, c4, [], rfl, rfl, Nat.zero_le _, Nat.zero_le _, hr4, HO.out.rl, To.refl, (by rw [List.append_nil]; exact HD.out.keep HBW.out), rfl⟩
  case round =>
    clear d0 d1 d2 d3 d4 d5
    obtain ⟨k, r, A, c, pre, rfl, rfl, hk, hrr, hcc, HR, HTo, HBd, HP⟩ := hrel
    have HBr : Hid (Below w0.heap.size w0 wr) := (lb_trans HB0.out HBW.out).trans (HTo.out.below hg0 hg0 (by have := HBW.out.size; have := HB0.out.size; omega))
    have HXr : Hid _ := HTo.out.box HXW.out (by decide) (by have := HGW.out; omega)
    obtain ⟨d0, d1, d2, d3, d4, d5⟩ := box6_cell HXr.out
    by_cases hlt : k < code.length
    · obtain ⟨a1, rfl, x1⟩ := HO.out.cd k hlt
      have x2 := lkeep HBr.out x1
      have CW := words_any (nth code k) (HO.out.range k hlt).1 (HO.out.range k hlt).2 wr (HT.out.below HBr.out) (HN.out.below HBr.out)
      have hwl := wordsL_len (nth code k)
      obtain ⟨m, hm⟩ := wordsL_pos (nth code k)
      have CX : Calls Tryz.prog 27 #[.int .u32 (nth code k)] wr fun e w' => ∃ b cb, e = .returned (.slice (some ⟨b, 0, none⟩) (m + 1) cb) ∧ w'.ownsRow wr.heap.size 9 1 (.slice (some ⟨b, 0, none⟩) (m + 1) cb) (m + 1) ((wordsL (nth code k)).map Value.string) ∧ Below wr.heap.size wr w' := CW.mono fun e w' hh => by
        obtain ⟨B, cb, he, ho, hb⟩ := hh
        rw [hm] at he ho
        obtain ⟨b, cap, e2, -, -⟩ := ho.form (by omega)
        cases e2
        exact ⟨_, _, he, ho, hb⟩
      have HM : Hid ((wordsL (nth code k)).length = m + 1) := hm
      have hm5 : m ≤ 4 := by omega
      clear x1 CW hwl hm
      go_wp2_with fail
      refine CX.mono ?_
      rintro e w1 ⟨bb, cb, rfl, ho, hb1⟩
      have HB1 : Hid (Below wr.heap.size wr w1) := hb1
      have HO1 : Hid (w1.ownsRow wr.heap.size 9 1 (.slice (some ⟨bb, 0, none⟩) (m + 1) cb) (m + 1) ((wordsL (nth code k)).map Value.string)) := ho
      have HX1 : Hid _ := (hb1.block w.heap.size (by have := HTo.out.size; have := (Array.getElem?_eq_some_iff.1 HXW.out).1; omega)).trans HXr.out
      clear hb1 ho CX x2 d0 d1 d2 d3 d4 d5
      obtain ⟨d0, d1, d2, d3, d4, d5⟩ := box6_cell HX1.out
      by_cases hr0 : r < rs.length
      · obtain ⟨a4, rfl, y1, y2⟩ := rels_at0 HR.out hr0
        have z1 := lkeep (lb_trans HBr.out HB1.out) y1
        have z2 := lkeep (lb_trans HBr.out HB1.out) y2
        clear y1 y2
        have hp0 : (0 : Int) < ((rs.length - r : Nat) : Int) := by omega
        by_cases he : rAt rs r = k
        · have he' : (rAt rs r == (k : Int)) = true := by simpa using he
          have hsy := HO.out.sym r hr0
          obtain ⟨a3, e3, s0, s1, s2⟩ := HO.out.sy (rSym rs r).toNat (by omega)
          subst e3
          have t0 := lkeep (lb_trans HBr.out HB1.out) s0
          clear s0 s1 s2
          have HE : Hid (rAt rs r = k) := he
          obtain ⟨u, hu⟩ := row_cell0 (own_zero HO1.out) m (by omega)
          have hfu := (own_zero HO1.out).frozenAt m
          have hs0 : 0 ≤ rSym rs r := hsy.1
          have hs1 : rSym rs r < (ss.length : Int) := hsy.2
          clear he hsy
          go_wp2_with fail
          go_region
          have hst := HO1.out.stored m (.string (sName ss (rSym rs r).toNat))
          have HB2 : Hid (Below wr.heap.size wr (w1.setCell ⟨bb, m, none⟩ (.string (sName ss (rSym rs r).toNat))).drew) := (HB1.out.setCell (p := ⟨bb, m, none⟩) ((HO1.out.lt bb rfl).1) _).drew
          have HS2 : Hid (Strs (w1.setCell ⟨bb, m, none⟩ (.string (sName ss (rSym rs r).toNat))).drew (.slice (some ⟨bb, 0, none⟩) (m + 1) cb) (lastB (wordsL (nth code k)) (sName ss (rSym rs r).toNat))) := by
            unfold Hid Strs lastB
            rw [List.length_set, HM.out, List.map_set]
            exact own_zero hst.1
          have HE2 : Hid _ := codeT_rel (ss := ss) hlt hr0 HE.out
          have hln : (l ++ pre).length + (lineB (lastB (wordsL (nth code k)) (sName ss (rSym rs r).toNat))).length ≤ 140737488355328 := by
            have h1 := HL.out
            rw [← HP.out, HE2.out] at h1
            simp only [List.length_append] at h1 ⊢
            omega
          have CL := line_any g (l ++ pre) (some ⟨bb, 0, none⟩) cb (lastB (wordsL (nth code k)) (sName ss (rSym rs r).toNat)) _ (HBd.out.keep HB2.out) (by rw [lastB_len, HM.out]; exact HS2.out) hln (by rw [lastB_len, HM.out]; omega)
          rw [lastB_len, HM.out] at CL
          clear hst hln z1 z2 t0 hu hfu d0 d1 d2 d3 d4 d5
          go_wp2_with fail
          all_goals (
            refine CL.mono ?_
            rintro e w4 ⟨rfl, hq⟩
            have HQ : Hid (To 5 g g W w4) := HTo.out.trans ((To.of HB2.out).trans hq.2)
            have HBq : Hid (Bd w4 g (l ++ (pre ++ lineB (lastB (wordsL (nth code k)) (sName ss (rSym rs r).toNat))))) := by unfold Hid; rw [← List.append_assoc]; exact hq.1
            have HPq : Hid ((pre ++ lineB (lastB (wordsL (nth code k)) (sName ss (rSym rs r).toNat))) ++ codeT ss rs (code.drop (k + 1)) (k + 1) (r + 1) = codeT ss rs code 0 0) := by unfold Hid; rw [List.append_assoc, ← HE2.out]; exact HP.out
            clear hq CL
            go_wp2
            go_roundw
            case rel => exact ⟨k + 1, r + 1, _, _, _, by go_num, slice_len (by omega), by omega, by omega, by omega, by first | exact rels_next HR.out | exact rels_none (by omega), HQ, HBq, HPq⟩
            case measure => simp [intOf]; omega)
        · have he' : (rAt rs r == (k : Int)) = false := by simpa using he
          have HE2 : Hid _ := codeT_no (ss := ss) (r := r) hlt (rs := rs) (fun hx => he hx.2)
          have hln : (l ++ pre).length + (lineB (wordsL (nth code k))).length ≤ 140737488355328 := by
            have h1 := HL.out
            rw [← HP.out, HE2.out] at h1
            simp only [List.length_append] at h1 ⊢
            omega
          have CL := line_any g (l ++ pre) (some ⟨bb, 0, none⟩) cb (wordsL (nth code k)) _ (HBd.out.keep HB1.out) (by unfold Strs; rw [HM.out]; exact own_zero HO1.out) hln (by rw [HM.out]; omega)
          rw [HM.out] at CL
          clear he hln
          go_wp2_with fail
          refine CL.mono ?_
          rintro e w4 ⟨rfl, hq⟩
          have HQ : Hid (To 5 g g W w4) := HTo.out.trans ((To.of HB1.out).trans hq.2)
          have HBq : Hid (Bd w4 g (l ++ (pre ++ lineB (wordsL (nth code k))))) := by unfold Hid; rw [← List.append_assoc]; exact hq.1
          have HPq : Hid ((pre ++ lineB (wordsL (nth code k))) ++ codeT ss rs (code.drop (k + 1)) (k + 1) r = codeT ss rs code 0 0) := by unfold Hid; rw [List.append_assoc, ← HE2.out]; exact HP.out
          clear hq CL z1 z2 d0 d1 d2 d3 d4 d5
          go_wp2
          go_roundw
          case rel => exact ⟨k + 1, r, _, _, _, by go_num, rfl, by omega, by omega, by omega, HR, HQ, HBq, HPq⟩
          case measure => simp [intOf]; omega
      · have hp0 : ¬ (0 : Int) < ((rs.length - r : Nat) : Int) := by omega
        have HE2 : Hid _ := codeT_no (ss := ss) (r := r) hlt (rs := rs) (fun hx => hr0 hx.1)
        have hln : (l ++ pre).length + (lineB (wordsL (nth code k))).length ≤ 140737488355328 := by
          have h1 := HL.out
          rw [← HP.out, HE2.out] at h1
          simp only [List.length_append] at h1 ⊢
          omega
        have CL := line_any g (l ++ pre) (some ⟨bb, 0, none⟩) cb (wordsL (nth code k)) _ (HBd.out.keep HB1.out) (by unfold Strs; rw [HM.out]; exact own_zero HO1.out) hln (by rw [HM.out]; omega)
        rw [HM.out] at CL
        clear hln
        go_wp2_with fail
        refine CL.mono ?_
        rintro e w4 ⟨rfl, hq⟩
        have HQ : Hid (To 5 g g W w4) := HTo.out.trans ((To.of HB1.out).trans hq.2)
        have HBq : Hid (Bd w4 g (l ++ (pre ++ lineB (wordsL (nth code k))))) := by unfold Hid; rw [← List.append_assoc]; exact hq.1
        have HPq : Hid ((pre ++ lineB (wordsL (nth code k))) ++ codeT ss rs (code.drop (k + 1)) (k + 1) r = codeT ss rs code 0 0) := by unfold Hid; rw [List.append_assoc, ← HE2.out]; exact HP.out
        clear hq CL d0 d1 d2 d3 d4 d5
        go_wp2
        go_roundw
        case rel => exact ⟨k + 1, r, _, _, _, by go_num, rfl, by omega, by omega, by omega, HR, HQ, HBq, HPq⟩
        case measure => simp [intOf]; omega
    · obtain rfl : k = code.length := by omega
      have HF : Hid (Puts g l (codeT ss rs code 0 0) w wr) := by
        have h1 := HP.out
        rw [codeT_end, List.append_nil] at h1
        unfold Hid
        rw [← h1]
        exact ⟨HBd.out, (To.of HBW.out).trans HTo.out⟩
      clear HP HBd
      go_wp2
      go_end0
      exact ⟨rfl, HF.out⟩

end Go.Proofs.YtbckolkgncajfaaGreatDoor

namespace Go.Proofs.YtbckolkgncajfaaGreatDoor
open Go.RowKit

theorem sym_anyI (g : Nat) (l : List UInt8) (nm : ByteArray) (kd : Int) (at_ : Int) (hk : 0 ≤ kd ∧ kd ≤ 3) (ha : In64 at_) (w : World) (h : Bd w g l) (hlen : l.length + (lineB (symL (nm, kd, at_))).length ≤ 140737488355328) (ht : Tab w) (hK : Kd w) :
    Calls Tryz.prog 83 #[.pointer (some ⟨g, 0, none⟩), .agg #[.string nm, .int .i8 kd, .int .i64 at_]] w fun e w' => e = .returned (.tuple #[]) ∧ Puts g l (lineB (symL (nm, kd, at_))) w w' := by
  obtain ⟨k, rfl⟩ := Int.eq_ofNat_of_zero_le hk.1
  exact sym_any g l nm k at_ (by omega) ha w h hlen ht hK
/-- An object's lists, as its text wants them. -/
structure Obj4 (w : World) (A1 A2 A3 A4 : Option Addr) (code : List Int) (dA : Int) (data : List Int) (ss : List Sym) (rs : List Rel) : Prop extends Obj3 w A1 A3 A4 code ss rs where
  dt : IntsAt w A2 .i64 data
  dr : ∀ i, i < data.length → In64 (nth data i)
  da : In64 dA
  kd : ∀ i, i < ss.length → 0 ≤ sKind ss i ∧ sKind ss i ≤ 3
  sa : ∀ i, i < ss.length → In64 (sAt ss i)
theorem Obj4.keep {w w1 : World} {A1 A2 A3 A4 : Option Addr} {code : List Int} {dA : Int} {data : List Int} {ss : List Sym} {rs : List Rel} (h : Obj4 w A1 A2 A3 A4 code dA data ss rs) (hb : Below w.heap.size w w1) : Obj4 w1 A1 A2 A3 A4 code dA data ss rs :=
  ⟨⟨h.cd.keep hb, h.sy.keep hb, h.rl.keep hb, h.range, h.sym⟩, h.dt.keep hb, h.dr, h.da, h.kd, h.sa⟩
set_option maxHeartbeats 8000000 in
set_option maxRecDepth 100000 in
theorem objL_any (g : Nat) (l : List UInt8) (nm : ByteArray) (dA : Int) (A1 A2 A3 A4 : Option Addr) (c1 c2 c3 c4 : Nat) (code data : List Int) (ss : List Sym) (rs : List Rel) (w0 w : World) (h : Bd w g l) (hb0 : Below w0.heap.size w0 w) (hg0 : w0.heap.size ≤ g) (hO : Obj4 w0 A1 A2 A3 A4 code dA data ss rs) (hc : code.length ≤ 16384) (hs : ss.length ≤ 256) (hr : rs.length ≤ 16384) (hd : data.length ≤ 4096) (hr4 : rs.length ≤ c4) (hlen : l.length + (objT nm code dA data ss rs).length ≤ 140737488355328) (ht : Tab w0) (hN : Nm w0) (hK : Kd w0) :
    Calls Tryz.prog 52 #[.pointer (some ⟨g, 0, none⟩), .agg #[.string nm, .slice A1 code.length c1, .int .i64 dA, .slice A2 data.length c2, .slice A3 ss.length c3, .slice A4 rs.length c4]] w fun e w' => e = .returned (.tuple #[]) ∧ Puts g l (objT nm code dA data ss rs) w w' := by
  have HD : Hid (Bd w g l) := h
  have HB0 : Hid (Below w0.heap.size w0 w) := hb0
  have HO : Hid (Obj4 w0 A1 A2 A3 A4 code dA data ss rs) := hO
  have HT : Hid (Tab w0) := ht
  have HN : Hid (Nm w0) := hN
  have HK : Hid (Kd w0) := hK
  have HL : Hid (l.length + (objT nm code dA data ss rs).length ≤ 140737488355328) := hlen
  obtain ⟨W, hW⟩ : ∃ W, W = w.alloc (.cells #[.string nm, .slice A1 code.length c1, .int .i64 dA, .slice A2 data.length c2, .slice A3 ss.length c3, .slice A4 rs.length c4] 65) := ⟨_, rfl⟩
  have HBW : Hid (Below w.heap.size w W) := by unfold Hid; rw [hW]; exact lb_alloc (Below.refl _ _) _
  have HXW : Hid (W.heap[w.heap.size]? = some (.cells #[.string nm, .slice A1 code.length c1, .int .i64 dA, .slice A2 data.length c2, .slice A3 ss.length c3, .slice A4 rs.length c4] 65 (0, 0))) := by unfold Hid; rw [hW]; exact heap_alloc_new _ _
  have HGW : Hid (g < w.heap.size) := h.lt
  have HW : Hid _ := hW
  have HTw : Hid (∀ wx, To 5 g g W wx → Below w0.heap.size w0 wx) := fun wx hx => (lb_trans HB0.out HBW.out).trans (hx.below hg0 hg0 (by have := HBW.out.size; have := HB0.out.size; omega))
  have HXw : Hid (∀ wx, To 5 g g W wx → wx.heap[w.heap.size]? = some (.cells #[.string nm, .slice A1 code.length c1, .int .i64 dA, .slice A2 data.length c2, .slice A3 ss.length c3, .slice A4 rs.length c4] 65 (0, 0))) := fun wx hx => hx.box HXW.out (by decide) (by have := HGW.out; omega)
  clear h hb0 hO ht hN hlen hW hK
  obtain ⟨d0, d1, d2, d3, d4, d5⟩ := box6_cell HXW.out
  have HBWn : Hid (Below W.heap.size W (W.alloc (.cells #[.string objB, .string nm] 9))) := lb_alloc (Below.refl _ _) _
  have CL := line_any g l (some ⟨W.heap.size, 0, none⟩) 2 [objB, nm] (W.alloc (.cells #[.string objB, .string nm] 9)) (HD.out.keep (lb_trans HBW.out HBWn.out)) (own_zero (new_strs W [objB, nm] (by simp))) (by have := HL.out; unfold objT at this; simp only [List.length_append] at this; omega) (by simp)
  by_cases hz : dA = 0 ∧ data.length = 0
  · have HZ : Hid (dataT dA data = []) := by unfold Hid dataT; rw [if_pos hz]
    obtain ⟨hza, hzb⟩ := hz
    obtain rfl : data = [] := List.eq_nil_of_length_eq_zero hzb
    subst hza
    clear hzb
    simp only [List.length_nil] at HW HXW HXw d3 hd ⊢
    go_enter Tryz.func52, Tryz.ntmps52
    go_upto_region 1 with fail
    rw [← HW.out]
    go_wp2_with fail
    refine CL.mono ?_
    rintro e w1 ⟨rfl, hq⟩
    have HT1 : Hid (To 5 g g W w1) := (To.of HBWn.out).trans hq.2
    have HB1 : Hid (Bd w1 g (l ++ lineB [objB, nm])) := hq.1
    have HX1 : Hid _ := HXw.out _ HT1.out
    clear hq CL d0 d1 d2 d3 d4 d5 HW
    obtain ⟨d0, d1, d2, d3, d4, d5⟩ := box6_cell HX1.out
    obtain ⟨wd, hwd⟩ : ∃ x, x = w1 := ⟨_, rfl⟩
    subst hwd
    have HTd : Hid (To 5 g g W wd) := HT1
    have HBd0 : Hid (Bd wd g (l ++ (lineB [objB, nm] ++ dataT 0 []))) := by unfold Hid; rw [HZ.out, List.append_nil]; exact HB1.out
    clear HT1 HB1 HX1 HZ
    obtain ⟨pd, HPd⟩ : ∃ pd, Hid (pd = lineB [objB, nm] ++ dataT 0 []) := ⟨_, rfl⟩
    have HBd : Hid (Bd wd g (l ++ pd)) := by unfold Hid; rw [HPd.out]; exact HBd0.out
    have HLen : Hid (objT nm code 0 [] ss rs = pd ++ (symT ss ++ codeT ss rs code 0 0)) := by unfold Hid objT; rw [HPd.out, List.append_assoc]
    clear HBd0 HPd
    go_wp2
    skip
    go_loopw [26] (fun i wr => ∃ (k : Nat) (pre : List UInt8), i = .int .i64 k ∧ k ≤ ss.length ∧ Hid (To 5 g g W wr) ∧ Hid (Bd wr g (l ++ pre)) ∧ Hid (pre ++ symT (ss.drop k) = pd ++ symT ss)) (fun i _ => ss.length - (intOf i).toNat)
    case atStart => exact ⟨0, pd, rfl, Nat.zero_le _, HTd, HBd, rfl⟩
    case round =>
      clear d0 d1 d2 d3 d4 d5 HTd HBd
      obtain ⟨k, pre, rfl, hk, HTr, HBr, HPr⟩ := hrel
      have HXr : Hid _ := HXw.out _ HTr.out
      obtain ⟨d0, d1, d2, d3, d4, d5⟩ := box6_cell HXr.out
      have HBw0 : Hid (Below w0.heap.size w0 wr) := HTw.out _ HTr.out
      by_cases hlt : k < ss.length
      · obtain ⟨a3, e3, s0, s1, s2⟩ := HO.out.sy k hlt
        subst e3
        have t0 := lkeep HBw0.out s0
        have t1 : wr.cell? ⟨(a3.add (k * 3)).block, (a3.add (k * 3)).off + 1, none⟩ = some (.int .i8 (sKind ss k)) := lkeep HBw0.out s1
        have t2 : wr.cell? ⟨(a3.add (k * 3)).block, (a3.add (k * 3)).off + 2, none⟩ = some (.int .i64 (sAt ss k)) := lkeep HBw0.out s2
        have HE : Hid _ := symT_step hlt
        have HBn : Hid (Below wr.heap.size wr (wr.alloc (.cells #[.string (sName ss k), .int .i8 (sKind ss k), .int .i64 (sAt ss k)] 69))) := lb_alloc (Below.refl _ _) _
        have hln : (l ++ pre).length + (lineB (symL (sName ss k, sKind ss k, sAt ss k))).length ≤ 140737488355328 := by
          have h1 := HL.out
          rw [HLen.out, ← List.append_assoc, ← HPr.out, HE.out] at h1
          simp only [List.length_append] at h1 ⊢
          show _ + (lineB (symL (ss.getD k symD))).length ≤ _
          omega
        have CS := sym_anyI g (l ++ pre) (sName ss k) (sKind ss k) (sAt ss k) (HO.out.kd k hlt) (HO.out.sa k hlt) (wr.alloc (.cells #[.string (sName ss k), .int .i8 (sKind ss k), .int .i64 (sAt ss k)] 69)) (HBr.out.keep HBn.out) hln (HT.out.below (lb_trans HBw0.out HBn.out)) (HK.out.below (lb_trans HBw0.out HBn.out))
        clear s0 s1 s2 hln
        go_wp2_with fail
        refine CS.mono ?_
        rintro e w3 ⟨rfl, hq⟩
        have HQ : Hid (To 5 g g W w3) := HTr.out.trans ((To.of HBn.out).trans hq.2)
        have HBq : Hid (Bd w3 g (l ++ (pre ++ lineB (symL (ss.getD k symD))))) := by unfold Hid; rw [← List.append_assoc]; exact hq.1
        have HPq : Hid ((pre ++ lineB (symL (ss.getD k symD))) ++ symT (ss.drop (k + 1)) = pd ++ symT ss) := by unfold Hid; rw [List.append_assoc, ← HE.out]; exact HPr.out
        clear hq CS t0 t1 t2 d0 d1 d2 d3 d4 d5
        go_wp2
        go_roundw
        case rel => exact ⟨k + 1, _, by go_num, by omega, HQ, HBq, HPq⟩
        case measure => simp [intOf]; omega
      · obtain rfl : k = ss.length := by omega
        have HBs : Hid (Bd wr g (l ++ (pd ++ symT ss))) := by
          have h1 := HPr.out
          rw [symT_end, List.append_nil] at h1
          unfold Hid
          rw [← h1]
          exact HBr.out
        have hln : (l ++ (pd ++ symT ss)).length + (codeT ss rs code 0 0).length ≤ 140737488355328 := by
          have h1 := HL.out
          rw [HLen.out] at h1
          simp only [List.length_append] at h1 ⊢
          omega
        have CC := codeL_any g (l ++ (pd ++ symT ss)) nm 0 A1 A2 A3 A4 c1 0 c2 c3 c4 code ss rs w0 wr HBs.out HBw0.out hg0 HO.out.toObj3 hc hs hr hr4 hln HT.out HN.out
        clear HPr HBr hln
        go_wp2_with fail
        refine CC.mono ?_
        rintro e w4 ⟨rfl, hq⟩
        have HF : Hid (Puts g l (objT nm code 0 [] ss rs) w w4) := by
          unfold Hid
          rw [HLen.out, ← List.append_assoc]
          refine ⟨?_, (To.of HBW.out).trans (HTr.out.trans hq.2)⟩
          have := hq.1
          rwa [List.append_assoc] at this
        clear hq CC
        go_wp2
        go_end0
        exact ⟨rfl, HF.out⟩
  by_cases hy : dA = 0
  · have HZ : Hid (dataT dA data = lineB (dataL dA data)) := by unfold Hid dataT; rw [if_neg hz]
    have hz1 : (dA != 0) = false := by simp [hy]
    have hz2 : (0 : Int) < (data.length : Int) := by omega
    clear hz hy
    go_enter Tryz.func52, Tryz.ntmps52
    go_upto_region 1 with fail
    rw [← HW.out]
    go_wp2_with fail
    refine CL.mono ?_
    rintro e w1 ⟨rfl, hq⟩
    have HT1 : Hid (To 5 g g W w1) := (To.of HBWn.out).trans hq.2
    have HB1 : Hid (Bd w1 g (l ++ lineB [objB, nm])) := hq.1
    have HX1 : Hid _ := HXw.out _ HT1.out
    clear hq CL d0 d1 d2 d3 d4 d5 HW
    obtain ⟨d0, d1, d2, d3, d4, d5⟩ := box6_cell HX1.out
    have HBx : Hid (Below w0.heap.size w0 w1) := HTw.out _ HT1.out
    have HLd : Hid (dataT dA data = lineB (dataL dA data)) := HZ
    have CDt := data_any g (l ++ lineB [objB, nm]) nm dA A1 A2 A3 A4 code.length c1 c2 ss.length c3 rs.length c4 data w1 HB1.out (HO.out.dt.keep HBx.out) HO.out.da HO.out.dr hd (by have h1 := HL.out; unfold objT at h1; rw [HLd.out] at h1; simp only [List.length_append] at h1 ⊢; omega) (HT.out.below HBx.out)
    go_wp2_with fail
    refine CDt.mono ?_
    rintro e wd ⟨rfl, hq⟩
    have HTd : Hid (To 5 g g W wd) := HT1.out.trans hq.2
    have HBd0 : Hid (Bd wd g (l ++ (lineB [objB, nm] ++ dataT dA data))) := by unfold Hid; rw [HLd.out, ← List.append_assoc]; exact hq.1
    clear hq CDt d0 d1 d2 d3 d4 d5 HT1 HB1 HX1 HZ HLd HBx
    have HXd : Hid _ := HXw.out _ HTd.out
    obtain ⟨d0, d1, d2, d3, d4, d5⟩ := box6_cell HXd.out
    clear HXd
    obtain ⟨pd, HPd⟩ : ∃ pd, Hid (pd = lineB [objB, nm] ++ dataT dA data) := ⟨_, rfl⟩
    have HBd : Hid (Bd wd g (l ++ pd)) := by unfold Hid; rw [HPd.out]; exact HBd0.out
    have HLen : Hid (objT nm code dA data ss rs = pd ++ (symT ss ++ codeT ss rs code 0 0)) := by unfold Hid objT; rw [HPd.out, List.append_assoc]
    clear HBd0 HPd
    go_wp2
    clear hz1 hz2
    go_loopw [26] (fun i wr => ∃ (k : Nat) (pre : List UInt8), i = .int .i64 k ∧ k ≤ ss.length ∧ Hid (To 5 g g W wr) ∧ Hid (Bd wr g (l ++ pre)) ∧ Hid (pre ++ symT (ss.drop k) = pd ++ symT ss)) (fun i _ => ss.length - (intOf i).toNat)
    case atStart => exact ⟨0, pd, rfl, Nat.zero_le _, HTd, HBd, rfl⟩
    case round =>
      clear d0 d1 d2 d3 d4 d5 HTd HBd
      obtain ⟨k, pre, rfl, hk, HTr, HBr, HPr⟩ := hrel
      have HXr : Hid _ := HXw.out _ HTr.out
      obtain ⟨d0, d1, d2, d3, d4, d5⟩ := box6_cell HXr.out
      have HBw0 : Hid (Below w0.heap.size w0 wr) := HTw.out _ HTr.out
      by_cases hlt : k < ss.length
      · obtain ⟨a3, e3, s0, s1, s2⟩ := HO.out.sy k hlt
        subst e3
        have t0 := lkeep HBw0.out s0
        have t1 : wr.cell? ⟨(a3.add (k * 3)).block, (a3.add (k * 3)).off + 1, none⟩ = some (.int .i8 (sKind ss k)) := lkeep HBw0.out s1
        have t2 : wr.cell? ⟨(a3.add (k * 3)).block, (a3.add (k * 3)).off + 2, none⟩ = some (.int .i64 (sAt ss k)) := lkeep HBw0.out s2
        have HE : Hid _ := symT_step hlt
        have HBn : Hid (Below wr.heap.size wr (wr.alloc (.cells #[.string (sName ss k), .int .i8 (sKind ss k), .int .i64 (sAt ss k)] 69))) := lb_alloc (Below.refl _ _) _
        have hln : (l ++ pre).length + (lineB (symL (sName ss k, sKind ss k, sAt ss k))).length ≤ 140737488355328 := by
          have h1 := HL.out
          rw [HLen.out, ← List.append_assoc, ← HPr.out, HE.out] at h1
          simp only [List.length_append] at h1 ⊢
          show _ + (lineB (symL (ss.getD k symD))).length ≤ _
          omega
        have CS := sym_anyI g (l ++ pre) (sName ss k) (sKind ss k) (sAt ss k) (HO.out.kd k hlt) (HO.out.sa k hlt) (wr.alloc (.cells #[.string (sName ss k), .int .i8 (sKind ss k), .int .i64 (sAt ss k)] 69)) (HBr.out.keep HBn.out) hln (HT.out.below (lb_trans HBw0.out HBn.out)) (HK.out.below (lb_trans HBw0.out HBn.out))
        clear s0 s1 s2 hln
        go_wp2_with fail
        refine CS.mono ?_
        rintro e w3 ⟨rfl, hq⟩
        have HQ : Hid (To 5 g g W w3) := HTr.out.trans ((To.of HBn.out).trans hq.2)
        have HBq : Hid (Bd w3 g (l ++ (pre ++ lineB (symL (ss.getD k symD))))) := by unfold Hid; rw [← List.append_assoc]; exact hq.1
        have HPq : Hid ((pre ++ lineB (symL (ss.getD k symD))) ++ symT (ss.drop (k + 1)) = pd ++ symT ss) := by unfold Hid; rw [List.append_assoc, ← HE.out]; exact HPr.out
        clear hq CS t0 t1 t2 d0 d1 d2 d3 d4 d5
        go_wp2
        go_roundw
        case rel => exact ⟨k + 1, _, by go_num, by omega, HQ, HBq, HPq⟩
        case measure => simp [intOf]; omega
      · obtain rfl : k = ss.length := by omega
        have HBs : Hid (Bd wr g (l ++ (pd ++ symT ss))) := by
          have h1 := HPr.out
          rw [symT_end, List.append_nil] at h1
          unfold Hid
          rw [← h1]
          exact HBr.out
        have hln : (l ++ (pd ++ symT ss)).length + (codeT ss rs code 0 0).length ≤ 140737488355328 := by
          have h1 := HL.out
          rw [HLen.out] at h1
          simp only [List.length_append] at h1 ⊢
          omega
        have CC := codeL_any g (l ++ (pd ++ symT ss)) nm dA A1 A2 A3 A4 c1 data.length c2 c3 c4 code ss rs w0 wr HBs.out HBw0.out hg0 HO.out.toObj3 hc hs hr hr4 hln HT.out HN.out
        clear HPr HBr hln
        go_wp2_with fail
        refine CC.mono ?_
        rintro e w4 ⟨rfl, hq⟩
        have HF : Hid (Puts g l (objT nm code dA data ss rs) w w4) := by
          unfold Hid
          rw [HLen.out, ← List.append_assoc]
          refine ⟨?_, (To.of HBW.out).trans (HTr.out.trans hq.2)⟩
          have := hq.1
          rwa [List.append_assoc] at this
        clear hq CC
        go_wp2
        go_end0
        exact ⟨rfl, HF.out⟩
  · have HZ : Hid (dataT dA data = lineB (dataL dA data)) := by unfold Hid dataT; rw [if_neg hz]
    have hz1 : (dA != 0) = true := by simp [hy]
    clear hz hy
    go_enter Tryz.func52, Tryz.ntmps52
    go_upto_region 1 with fail
    rw [← HW.out]
    go_wp2_with fail
    refine CL.mono ?_
    rintro e w1 ⟨rfl, hq⟩
    have HT1 : Hid (To 5 g g W w1) := (To.of HBWn.out).trans hq.2
    have HB1 : Hid (Bd w1 g (l ++ lineB [objB, nm])) := hq.1
    have HX1 : Hid _ := HXw.out _ HT1.out
    clear hq CL d0 d1 d2 d3 d4 d5 HW
    obtain ⟨d0, d1, d2, d3, d4, d5⟩ := box6_cell HX1.out
    have HBx : Hid (Below w0.heap.size w0 w1) := HTw.out _ HT1.out
    have HLd : Hid (dataT dA data = lineB (dataL dA data)) := HZ
    have CDt := data_any g (l ++ lineB [objB, nm]) nm dA A1 A2 A3 A4 code.length c1 c2 ss.length c3 rs.length c4 data w1 HB1.out (HO.out.dt.keep HBx.out) HO.out.da HO.out.dr hd (by have h1 := HL.out; unfold objT at h1; rw [HLd.out] at h1; simp only [List.length_append] at h1 ⊢; omega) (HT.out.below HBx.out)
    go_wp2_with fail
    refine CDt.mono ?_
    rintro e wd ⟨rfl, hq⟩
    have HTd : Hid (To 5 g g W wd) := HT1.out.trans hq.2
    have HBd0 : Hid (Bd wd g (l ++ (lineB [objB, nm] ++ dataT dA data))) := by unfold Hid; rw [HLd.out, ← List.append_assoc]; exact hq.1
    clear hq CDt d0 d1 d2 d3 d4 d5 HT1 HB1 HX1 HZ HLd HBx
    have HXd : Hid _ := HXw.out _ HTd.out
    obtain ⟨d0, d1, d2, d3, d4, d5⟩ := box6_cell HXd.out
    clear HXd
    obtain ⟨pd, HPd⟩ : ∃ pd, Hid (pd = lineB [objB, nm] ++ dataT dA data) := ⟨_, rfl⟩
    have HBd : Hid (Bd wd g (l ++ pd)) := by unfold Hid; rw [HPd.out]; exact HBd0.out
    have HLen : Hid (objT nm code dA data ss rs = pd ++ (symT ss ++ codeT ss rs code 0 0)) := by unfold Hid objT; rw [HPd.out, List.append_assoc]
    clear HBd0 HPd
    go_wp2
    clear hz1
    go_loopw [26] (fun i wr => ∃ (k : Nat) (pre : List UInt8), i = .int .i64 k ∧ k ≤ ss.length ∧ Hid (To 5 g g W wr) ∧ Hid (Bd wr g (l ++ pre)) ∧ Hid (pre ++ symT (ss.drop k) = pd ++ symT ss)) (fun i _ => ss.length - (intOf i).toNat)
    case atStart => exact ⟨0, pd, rfl, Nat.zero_le _, HTd, HBd, rfl⟩
    case round =>
      clear d0 d1 d2 d3 d4 d5 HTd HBd
      obtain ⟨k, pre, rfl, hk, HTr, HBr, HPr⟩ := hrel
      have HXr : Hid _ := HXw.out _ HTr.out
      obtain ⟨d0, d1, d2, d3, d4, d5⟩ := box6_cell HXr.out
      have HBw0 : Hid (Below w0.heap.size w0 wr) := HTw.out _ HTr.out
      by_cases hlt : k < ss.length
      · obtain ⟨a3, e3, s0, s1, s2⟩ := HO.out.sy k hlt
        subst e3
        have t0 := lkeep HBw0.out s0
        have t1 : wr.cell? ⟨(a3.add (k * 3)).block, (a3.add (k * 3)).off + 1, none⟩ = some (.int .i8 (sKind ss k)) := lkeep HBw0.out s1
        have t2 : wr.cell? ⟨(a3.add (k * 3)).block, (a3.add (k * 3)).off + 2, none⟩ = some (.int .i64 (sAt ss k)) := lkeep HBw0.out s2
        have HE : Hid _ := symT_step hlt
        have HBn : Hid (Below wr.heap.size wr (wr.alloc (.cells #[.string (sName ss k), .int .i8 (sKind ss k), .int .i64 (sAt ss k)] 69))) := lb_alloc (Below.refl _ _) _
        have hln : (l ++ pre).length + (lineB (symL (sName ss k, sKind ss k, sAt ss k))).length ≤ 140737488355328 := by
          have h1 := HL.out
          rw [HLen.out, ← List.append_assoc, ← HPr.out, HE.out] at h1
          simp only [List.length_append] at h1 ⊢
          show _ + (lineB (symL (ss.getD k symD))).length ≤ _
          omega
        have CS := sym_anyI g (l ++ pre) (sName ss k) (sKind ss k) (sAt ss k) (HO.out.kd k hlt) (HO.out.sa k hlt) (wr.alloc (.cells #[.string (sName ss k), .int .i8 (sKind ss k), .int .i64 (sAt ss k)] 69)) (HBr.out.keep HBn.out) hln (HT.out.below (lb_trans HBw0.out HBn.out)) (HK.out.below (lb_trans HBw0.out HBn.out))
        clear s0 s1 s2 hln
        go_wp2_with fail
        refine CS.mono ?_
        rintro e w3 ⟨rfl, hq⟩
        have HQ : Hid (To 5 g g W w3) := HTr.out.trans ((To.of HBn.out).trans hq.2)
        have HBq : Hid (Bd w3 g (l ++ (pre ++ lineB (symL (ss.getD k symD))))) := by unfold Hid; rw [← List.append_assoc]; exact hq.1
        have HPq : Hid ((pre ++ lineB (symL (ss.getD k symD))) ++ symT (ss.drop (k + 1)) = pd ++ symT ss) := by unfold Hid; rw [List.append_assoc, ← HE.out]; exact HPr.out
        clear hq CS t0 t1 t2 d0 d1 d2 d3 d4 d5
        go_wp2
        go_roundw
        case rel => exact ⟨k + 1, _, by go_num, by omega, HQ, HBq, HPq⟩
        case measure => simp [intOf]; omega
      · obtain rfl : k = ss.length := by omega
        have HBs : Hid (Bd wr g (l ++ (pd ++ symT ss))) := by
          have h1 := HPr.out
          rw [symT_end, List.append_nil] at h1
          unfold Hid
          rw [← h1]
          exact HBr.out
        have hln : (l ++ (pd ++ symT ss)).length + (codeT ss rs code 0 0).length ≤ 140737488355328 := by
          have h1 := HL.out
          rw [HLen.out] at h1
          simp only [List.length_append] at h1 ⊢
          omega
        have CC := codeL_any g (l ++ (pd ++ symT ss)) nm dA A1 A2 A3 A4 c1 data.length c2 c3 c4 code ss rs w0 wr HBs.out HBw0.out hg0 HO.out.toObj3 hc hs hr hr4 hln HT.out HN.out
        clear HPr HBr hln
        go_wp2_with fail
        refine CC.mono ?_
        rintro e w4 ⟨rfl, hq⟩
        have HF : Hid (Puts g l (objT nm code dA data ss rs) w w4) := by
          unfold Hid
          rw [HLen.out, ← List.append_assoc]
          refine ⟨?_, (To.of HBW.out).trans (HTr.out.trans hq.2)⟩
          have := hq.1
          rwa [List.append_assoc] at this
        clear hq CC
        go_wp2
        go_end0
        exact ⟨rfl, HF.out⟩

end Go.Proofs.YtbckolkgncajfaaGreatDoor
