/-
  askObjects: the objects may be, and no two have one name. Resolve: which place of which object each symbol stands for.
-/
import Derived.Test.YtiihfkjgdhfmiaaProg
import Derived.WalkKit
import Derived.WalkSpells
import Derived.WalkLawsBesides
import Derived.RowKit3
import Derived.Below
import Derived.Deep.QuietTactic
import Derived.BigQuiet
import Derived.WalkSmall
import Derived.Laws.Rows
import Derived.Test.YtiihfkjgdhfmiaaSB15
import Derived.Test.YtiihfkjgdhfmiaaSB28
import Derived.Test.YtiihfkjgdhfmiaaSB10
import Derived.Test.YtiihfkjgdhfmiaaSB18
import Derived.Test.YtiihfkjgdhfmiaaSB21
import Derived.Test.YtiihfkjgdhfmiaaSB19
import Derived.Test.YtiihfkjgdhfmiaaSB09
namespace Go.Proofs.Ytiihfkjgdhfmiaa
open Go.RowKit

open Go.Maps Go.WideMaps
/-- The map holds just the names of the first k objects. -/
def MetO (l : List Ob) (k : Nat) (D : DataW Unit) : Prop := Maps.IsMap D ∧ ∀ s : ByteArray, Maps.has D (.string s.data.toList) = true ↔ ∃ j, j < k ∧ (ob l j).nm = s
theorem metO_zero (l : List Ob) : MetO l 0 (.map []) := ⟨Maps.isMap_empty, fun s => ⟨fun h => by simp [Maps.has] at h, fun ⟨j, h, _⟩ => by omega⟩⟩
theorem metO_step {l : List Ob} {k : Nat} {D d : DataW Unit} (h : MetO l k D) : MetO l (k + 1) (D.put (.string (ob l k).nm.data.toList) d) := by
  refine ⟨h.1.put _ _, fun s => ?_⟩
  by_cases hs : s = (ob l k).nm
  · subst hs
    exact ⟨fun _ => ⟨k, by omega, rfl⟩, fun _ => Maps.has_put_same h.1 (by simp [WideAt.IsKeyLit]) d⟩
  · rw [Maps.has_put_other (fun e => hs (bytes_same (by injection e)))]
    rw [h.2 s]
    constructor
    · rintro ⟨j, hj, e⟩; exact ⟨j, by omega, e⟩
    · rintro ⟨j, hj, e⟩
      refine ⟨j, ?_, e⟩
      by_cases hjk : j = k
      · subst hjk; exact absurd e.symm hs
      · omega
theorem metO_yes {l : List Ob} {k : Nat} {D : DataW Unit} (h : MetO l k D) (e : Maps.has D (.string (ob l k).nm.data.toList) = true) : fstN (sameN l k) k = some () := by
  obtain ⟨j, hj, ej⟩ := (h.2 _).1 e
  cases hf : fstN (sameN l k) k with
  | some u => rfl
  | none =>
    have := fst_no hf j hj
    rw [sameN_yes (by rw [ej]; simp)] at this
    cases this
theorem metO_no {l : List Ob} {k : Nat} {D : DataW Unit} (h : MetO l k D) (e : Maps.has D (.string (ob l k).nm.data.toList) = false) : fstN (sameN l k) k = none := by
  refine fst_none fun j hj => sameN_no ?_
  cases c : ((ob l j).nm.toList == (ob l k).nm.toList) with
  | false => rfl
  | true =>
    have : Maps.has D (.string (ob l k).nm.data.toList) = true := (h.2 _).2 ⟨j, hj, bytes_eq c⟩
    rw [e] at this; cases this
theorem nm_small {s : ByteArray} (h : nameOK s = true) : s.size ≤ 24 := by
  by_cases h0 : 0 < s.size
  · rw [name_cons s h0] at h
    simp at h
    omega
  · omega
theorem obC_name {o : Ob} (h : (obC o).1 = 0) : o.nm.size ≤ 24 := nm_small (check_may h).1.1
set_option maxHeartbeats 4000000 in
set_option maxRecDepth 100000 in
theorem pask_any (A : Option Addr) (ca : Nat) (q : Nat → Pl) (l : List Ob) (w : World) (hA : ObsIn w A q l) :
    Calls Try.prog 21 #[.slice A l.length ca] w (ErrP (chkL l) w) := by
  have HA : Hid (ObsIn w A q l) := hA
  have hf := hA.few
  have hmm := mkMap
  clear hA
  by_cases hm : 32 < l.length
  · have hm' : (32 : Int) < (l.length : Int) := by omega
    have HX : Hid (chkL l = some (21, 32, 0)) := by unfold Hid chkL; rw [if_pos hm]
    go_enter Try.func21, Try.ntmps21
    go_wp2
    go_ret3
    exact ⟨ret3I (by rw [HX.out]; rfl) (by rw [HX.out]; rfl) (by rw [HX.out]; rfl), Below.refl _ _⟩
  · have hm' : ¬ (32 : Int) < (l.length : Int) := by omega
    have HX : Hid (chkL l = fstN (badO l) l.length) := by unfold Hid chkL; rw [if_neg hm]
    go_enter Try.func21, Try.ntmps21
    go_wp2
    go_loopw [20] (fun i wr => ∃ (k : Nat) (D : DataW Unit), i = .int .i64 k ∧ k ≤ l.length ∧ Hid (wr.ownsMap Try.prog 9 (plainElem Try.prog 3) w.heap.size k D) ∧ Hid (MetO l k D) ∧ Hid (∀ j, j < k → badO l j = none) ∧ Hid (Below w.heap.size w wr)) (fun i _ => l.length - (intOf i).toNat)
    case atStart => exact ⟨0, _, rfl, Nat.zero_le _, World.ownsMap_made w Try.prog 9 (plainElem Try.prog 3), metO_zero l, fun j hj => absurd hj (Nat.not_lt_zero _), lb_alloc (Below.refl _ _) _⟩
    case round =>
      obtain ⟨k, D, rfl, hk, HO, HM, HN, HB⟩ := hrel
      by_cases hkl : k < l.length
      · have hkl' : (k : Int) < (l.length : Int) := by omega
        obtain ⟨a, ea, x0, x1, x2, x3, x4, x5⟩ := HA.out.cells.six HB.out k hkl
        obtain ⟨W, hW⟩ : ∃ W, W = wr.alloc (.cells #[.string (ob l k).nm, .slice (q k).A1 (ob l k).code.length (q k).c1, .int .i64 (ob l k).dA, .slice (q k).A2 (ob l k).data.length (q k).c2, .slice (q k).A3 (ob l k).ss.length (q k).c3, .slice (q k).A4 (ob l k).rs.length (q k).c4] 49) := ⟨_, rfl⟩
        have HBW : Hid (Below w.heap.size w W) := by rw [Hid, hW]; exact lb_alloc HB.out _
        have HOW : Hid (W.ownsMap Try.prog 9 (plainElem Try.prog 3) w.heap.size k D) := by rw [Hid, hW]; exact HO.out.alloc _
        have HNm : Hid (W.cell? ⟨wr.heap.size, 0, none⟩ = some (.string (ob l k).nm)) := by rw [Hid, hW]; simp [go_sem]
        have oA := (HA.out.each k hkl).keep HBW.out
        have CC := objcheck_any (ob l k).nm (ob l k).dA (q k).A1 (q k).A2 (q k).A3 (q k).A4 (q k).c1 (ob l k).data.length (q k).c2 (q k).c3 (q k).c4 (ob l k).code (ob l k).ss (ob l k).rs W oA.cd oA.sy oA.rl oA.cr oA.hc oA.hd oA.hs oA.hl oA.hN oA.da
        obtain ⟨E, hE⟩ : ∃ E, E = (obC (ob l k)).1 := ⟨_, rfl⟩
        obtain ⟨M, hM⟩ : ∃ M, M = (obC (ob l k)).2 := ⟨_, rfl⟩
        change Calls Try.prog 36 _ W (fun e w' => e = .returned (.tuple #[.int .i64 (obC (ob l k)).1, .int .i64 (obC (ob l k)).2]) ∧ Below W.heap.size W w') at CC
        rw [← hE, ← hM] at CC
        have HE : Hid (E = (obC (ob l k)).1) := hE
        have HMM : Hid (M = (obC (ob l k)).2) := hM
        clear oA hE hM
        subst ea
        by_cases he : E = 0
        · subst he
          go_wp2_with fail
          rw [← hW]
          refine CC.mono ?_
          rintro e w1 ⟨rfl, hb1⟩
          have HB1 : Hid (Below w.heap.size w w1) := lb_trans HBW.out hb1
          have HO1 : Hid (w1.ownsMap Try.prog 9 (plainElem Try.prog 3) w.heap.size k D) := ownsMap_below HOW.out hb1 HOW.out.lt
          have n0 : w1.cell? ⟨wr.heap.size, 0, none⟩ = some (.string (ob l k).nm) := lkeep hb1 HNm.out
          have hkey : keyOf Try.prog 9 (.string (ob l k).nm) = some (.string (ob l k).nm.data.toList) := keyOf_string_mk Try.underlying9 (by have := obC_name HE.out.symm; unfold maxLen; omega)
          clear CC hb1 x0 x1 x2 x3 x4 x5
          cases h2 : Maps.has D (.string (ob l k).nm.data.toList)
          · have HN2 : Hid _ := fst_step HN.out (show badO l k = none by
                unfold badO
                rw [if_pos HE.out.symm, metO_no HM.out h2])
            go_wp2_with (first | (at_lookup; refine wpList_lookup_own_ok_int _ rfl _ _ 83 rfl 9 3 .i64 law9 Try.underlying83 Try.underlying3 (zero3 _) w.heap.size k D rfl HO1.out _ _ rfl hkey ?_; intro c hat hwc) | (at_mapUpdate; refine wpList_mapUpdate_own _ rfl _ _ _ 83 rfl 9 3 law9 Try.underlying83 _ w.heap.size k _ rfl HO1.out (by unfold maxLen; omega) _ _ _ rfl rfl hkey _ [] (plainElem_int Try.underlying3 (WalkArith.wf_i64 (by omega))) ?_; intro w6 hown6 hgrow6; have HO6 : Hid (w6.ownsMap Try.prog 9 (plainElem Try.prog 3) w.heap.size (k + 1) _) := hown6; have HB6 : Hid (Below w.heap.size w w6) := grown_below HB1.out hgrow6 (Nat.le_refl _) HB1.out.size; clear hown6 hgrow6))
            go_roundw
            case rel => exact ⟨k + 1, _, by go_num, by omega, HO6, metO_step HM.out, HN2, HB6⟩
            case measure => simp [intOf]; omega
          · have HX2 : Hid (chkL l = some (26, (k : Int), -1)) := by
              rw [Hid, HX.out]
              refine fst_hit HN.out ?_ hkl
              unfold badO
              rw [if_pos HE.out.symm, metO_yes HM.out h2]
            go_wp2_with (at_lookup; refine wpList_lookup_own_ok_int _ rfl _ _ 83 rfl 9 3 .i64 law9 Try.underlying83 Try.underlying3 (zero3 _) w.heap.size k D rfl HO1.out _ _ rfl hkey ?_; intro c hat hwc)
            go_ret3
            exact ⟨ret3I (by rw [HX2.out]; rfl) (by rw [HX2.out]; rfl) (by rw [HX2.out]; rfl), HB1.out⟩
        · have he' : (E != 0) = true := by simpa using he
          have HX2 : Hid (chkL l = some (E, (k : Int), M)) := by
            rw [Hid, HX.out]
            refine fst_hit HN.out ?_ hkl
            unfold badO
            rw [if_neg (by rw [← HE.out]; exact he), ← HE.out, ← HMM.out]
          clear he
          go_wp2_with fail
          rw [← hW]
          refine CC.mono ?_
          rintro e w1 ⟨rfl, hb1⟩
          have HB1 : Hid (Below w.heap.size w w1) := lb_trans HBW.out hb1
          clear CC hb1 x0 x1 x2 x3 x4 x5
          go_wp2
          go_ret3
          exact ⟨ret3I (by rw [HX2.out]; rfl) (by rw [HX2.out]; rfl) (by rw [HX2.out]; rfl), HB1.out⟩
      · have hkl' : ¬ (k : Int) < (l.length : Int) := by omega
        have HX2 : Hid (chkL l = none) := by rw [Hid, HX.out]; exact fst_none (fun j hj => HN.out j (by omega))
        go_wp2
        go_ret3
        exact ⟨ret3I (by rw [HX2.out]; rfl) (by rw [HX2.out]; rfl) (by rw [HX2.out]; rfl), HB.out⟩

end Go.Proofs.Ytiihfkjgdhfmiaa

namespace Go.Proofs.Ytiihfkjgdhfmiaa
open Go.RowKit

open Go.Maps Go.WideMaps
theorem progF : ProgF := fun A ca q l nm w h hs => pfind_any A ca q l nm w h hs
theorem kinds_of {l : List Ob} (h : chkL l = none) (i : Nat) (hi : i < l.length) (j : Nat) (hj : j < (ob l i).ss.length) : 0 ≤ sKind (ob l i).ss j ∧ sKind (ob l i).ss j ≤ 3 := by
  unfold chkL at h
  split at h
  · cases h
  · have a := fst_no h i hi
    unfold badO at a
    split at a
    · next e =>
      have b := sym_parts.1 ((check_may e).2.1 j hj)
      exact ⟨b.2.2.1, b.2.2.2.1⟩
    · cases a
set_option maxHeartbeats 4000000 in
set_option maxRecDepth 100000 in
theorem progR : ProgR := fun A ca q l w hA => by
  have HA : Hid (ObsIn w A q l) := hA
  have C1 := pask_any A ca q l w hA
  clear hA
  unfold ErrP at C1
  obtain ⟨x, hx⟩ : ∃ x, x = chkL l := ⟨_, rfl⟩
  rw [← hx] at C1
  have HX : Hid (x = chkL l) := hx
  have hE : Errs x := by rw [hx]; exact chkL_errs l
  clear hx
  go_enter Try.func8, Try.ntmps8
  go_wp2_with fail
  refine C1.mono ?_
  rintro e w1 ⟨rfl, hb1⟩
  have HB1 : Hid (Below w.heap.size w w1) := hb1
  clear C1 hb1
  cases x with
  | some y =>
    have he : (y.1 != 0) = true := by simpa using hE y rfl
    have HR : Hid (resE l = some y) := by unfold Hid resE; rw [← HX.out]
    have HL : Hid (resL l = []) := by unfold Hid resL; rw [HR.out]
    have e1 : t1 (some y) = y.1 := rfl
    have e2 : t2 (some y) = y.2.1 := rfl
    have e3 : t3 (some y) = y.2.2 := rfl
    rw [e1, e2, e3]
    clear hE
    go_wp2
    refine bodyPost_ret (v := .tuple #[.slice none 0 0, .int .i64 y.1, .int .i64 y.2.1, .int .i64 y.2.2]) (by simp [results, Try.results8, go_sem]) rfl ⟨none, 0, [], ?_, ?_, HB1.out⟩
    · rw [HL.out, HR.out]; rfl
    · rw [HL.out]; exact RowsD.nil _ _ _ _
  | none =>
    have e1 : t1 none = 0 := rfl
    have e2 : t2 none = 0 := rfl
    have e3 : t3 none = 0 := rfl
    rw [e1, e2, e3]
    clear hE
    have C2 := plearn_any A ca q l w1 (HA.out.keep HB1.out)
    go_wp2_with fail
    refine C2.mono ?_
    rintro e w2 (⟨y, hy, rfl, hb2⟩ | ⟨hy, n, rfl, hk2, hb2⟩)
    · have HB2 : Hid (Below w.heap.size w w2) := lb_trans HB1.out hb2
      have HR : Hid (resE l = some y) := by unfold Hid resE namL; rw [← HX.out, hy]
      have HL : Hid (resL l = []) := by unfold Hid resL; rw [HR.out]
      have he : (y.1 != 0) = true := by simpa using fst_errs (twO_errs l) _ y hy
      clear C2 hb2 hy
      go_wp2
      refine bodyPost_ret (v := .tuple #[.slice none 0 0, .int .i64 y.1, .int .i64 y.2.1, .int .i64 y.2.2]) (by simp [results, Try.results8, go_sem]) rfl ⟨none, 0, [], ?_, ?_, HB2.out⟩
      · rw [HL.out, HR.out]; rfl
      · rw [HL.out]; exact RowsD.nil _ _ _ _
    · have HB2 : Hid (Below w.heap.size w w2) := lb_trans HB1.out hb2
      have HK2 : Hid (Knows w2 w1.heap.size n (seenA l l.length 0)) := hk2
      have HT : Hid (fstN (twO l) l.length = none) := hy
      clear C2 hb2 hy hk2
      have C3 := finders_any w1.heap.size w2
      go_wp2_with fail
      refine C3.mono ?_
      rintro e w3 ⟨rfl, hc3, hb3⟩
      have HB3 : Hid (Below w.heap.size w w3) := lb_trans HB2.out hb3
      have C4 := pall_any A ca q l w1.heap.size n w2.heap.size w3 (HA.out.keep HB3.out) (HK2.out.keep hb3) hc3 (kinds_of HX.out.symm)
      clear C3 hb3 hc3
      go_wp2_with fail
      refine C4.mono ?_
      rintro e w4 (⟨y, hy, rfl, hb4⟩ | ⟨hy, O, c, vs, rfl, hr4, hb4⟩)
      · have HB4 : Hid (Below w.heap.size w w4) := lb_trans HB3.out hb4
        have HR : Hid (resE l = some y) := by unfold Hid resE namL; rw [← HX.out, HT.out, hy]
        have HL : Hid (resL l = []) := by unfold Hid resL; rw [HR.out]
        clear C4 hb4 hy
        go_wp2
        refine bodyPost_ret (v := .tuple #[.slice none 0 0, .int .i64 y.1, .int .i64 y.2.1, .int .i64 y.2.2]) (by simp [results, Try.results8, go_sem]) rfl ⟨none, 0, [], ?_, ?_, HB4.out⟩
        · rw [HL.out, HR.out]; rfl
        · rw [HL.out]; exact RowsD.nil _ _ _ _
      · have HB4 : Hid (Below w.heap.size w w4) := lb_trans HB3.out hb4
        have HR : Hid (resE l = none) := by unfold Hid resE namL; rw [← HX.out, HT.out, hy]
        have HL : Hid (resL l = rowsT l l.length) := by unfold Hid resL; rw [HR.out]
        have HRW : Hid (RowsD w4 w.heap.size 41 34 (.slice O l.length c) vs (rowsT l l.length)) := ⟨own_base hr4.bag HB3.out.size, fun i hi => own_base (hr4.row i hi) HB3.out.size⟩
        clear C4 hb4 hy hr4
        go_wp2
        refine bodyPost_ret (v := .tuple #[.slice O l.length c, .int .i64 0, .int .i64 0, .int .i64 0]) (by simp [results, Try.results8, go_sem]) rfl ⟨O, c, vs, ?_, ?_, HB4.out⟩
        · rw [HL.out, HR.out, rowsT_len]; rfl
        · rw [HL.out, rowsT_len]; exact HRW.out

end Go.Proofs.Ytiihfkjgdhfmiaa
