/-
  The document's All, Count and Places.
-/
import Derived.Test.YtokhclindfipbaaGreatDoorProg
import Derived.WalkKit
import Derived.WalkSpells
import Derived.WalkLawsBesides
import Derived.RowKit3
import Derived.Below
import Derived.Deep.QuietTactic
import Derived.BigQuiet
import Derived.WalkSmall
import Derived.Laws.Rows
import Derived.Test.YtokhclindfipbaaGreatDoorPa48
import Derived.Test.YtokhclindfipbaaGreatDoorPa49
import Derived.Test.YtokhclindfipbaaGreatDoorPa47
namespace Go.Proofs.YtokhclindfipbaaGreatDoor
open Go.RowKit

/-- What is told of an image. -/
def tolT (text : List Int) (ml : Nat) (ent : Int) : List (Nat × List Nat) := if (checkI text ml ent).1 = 0 then tdL (numL text text.length) (enK (begF text ent) text.length) (eachL (numL text text.length) (enK (begF text ent) text.length)) else []
theorem tolT_no {text : List Int} {ml : Nat} {ent : Int} (h : (checkI text ml ent).1 ≠ 0) : tolT text ml ent = [] := if_neg h
theorem tolT_yes {text : List Int} {ml : Nat} {ent : Int} (h : (checkI text ml ent).1 = 0) : tolT text ml ent = tdL (numL text text.length) (enK (begF text ent) text.length) (eachL (numL text text.length) (enK (begF text ent) text.length)) := if_pos h
def RAllP (T : List (Nat × List Nat)) (E : Int) (w : World) (e : Ending) (w' : World) : Prop := ∃ (PT : List Tp) (A : Option Addr) (c : Nat), e = .returned (.tuple #[.slice A PT.length c, .int .i64 E]) ∧ fsts PT = T ∧ TpsAt w' A PT ∧ Below w.heap.size w w'
set_option maxRecDepth 100000 in
set_option maxHeartbeats 4000000 in
theorem refall18_any (A1 A2 : Option Addr) (c1 ml c2 : Nat) (ent : Int) (text : List Int) (w : World) (hT : IntsAt w A1 .u32 text) (hR : ∀ i, i < text.length → 0 ≤ nth text i ∧ nth text i < 4294967296) (hl : text.length ≤ 1048576) (hm : ml ≤ 1048576) (hs : (checkI text ml ent).1 = 0 → text.length ≤ 512) :
    Calls Tryz.prog 8 #[.agg #[.slice A1 text.length c1, .int .i64 ent, .slice A2 ml c2]] w (RAllP (tolT text ml ent) (checkI text ml ent).1 w) := by
  obtain ⟨W, HW⟩ : ∃ W, Hid (w.alloc (.cells #[.slice A1 text.length c1, .int .i64 ent, .slice A2 ml c2] 25) = W) := ⟨_, rfl⟩
  have HB : Hid (Below w.heap.size w W) := by unfold Hid; rw [← HW.out]; exact lb_alloc (Below.refl _ _) _
  have i0 : W.cell? ⟨w.heap.size, 0, none⟩ = some (.slice A1 text.length c1) := by rw [← HW.out]; simp [go_sem]
  have i1 : W.cell? ⟨w.heap.size, 1, none⟩ = some (.int .i64 ent) := by rw [← HW.out]; simp [go_sem]
  have i2 : W.cell? ⟨w.heap.size, 2, none⟩ = some (.slice A2 ml c2) := by rw [← HW.out]; simp [go_sem]
  have HI : Hid (∀ Z, Below W.heap.size W Z → Z.cell? ⟨w.heap.size, 0, none⟩ = some (.slice A1 text.length c1) ∧ Z.cell? ⟨w.heap.size, 1, none⟩ = some (.int .i64 ent) ∧ Z.cell? ⟨w.heap.size, 2, none⟩ = some (.slice A2 ml c2)) := fun Z hZ => ⟨lkeep hZ i0, lkeep hZ i1, lkeep hZ i2⟩
  have CK := refcheck_any A1 A2 c1 ml c2 ent text W (hT.keep HB.out) hR hl hm
  unfold ChkP at CK
  by_cases hE : (checkI text ml ent).1 = 0
  · have CR := fun Z (hZ : Below w.heap.size w Z) => refrepeats_any A1 A2 c1 ml c2 ent text Z (hT.keep hZ) hR (check_mayI hE) (hs hE) _ rfl _ rfl
    rw [tolT_yes hE]
    rw [hE] at CK ⊢
    generalize (checkI text ml ent).2 = E2 at *
    clear hT hR hs hE
    generalize tdL (numL text text.length) (enK (begF text ent) text.length) (eachL (numL text text.length) (enK (begF text ent) text.length)) = T at *
    go_enter Tryz.func8, Tryz.ntmps8
    go_upto_region 1 with fail
    rw [HW.out]
    clear HW
    go_wp2_with fail
    refine CK.mono ?_
    rintro e w1 ⟨rfl, hb1⟩
    have HB1 : Hid (Below w.heap.size w w1) := lb_trans HB.out hb1
    clear i0 i1 i2
    obtain ⟨i0, i1, i2⟩ := HI.out w1 hb1
    clear hb1 CK
    go_wp2_with fail
    refine (CR _ HB1.out).mono ?_
    rintro e w2 ⟨PT, A, c, rfl, h1, h2, h3⟩
    have HQ : Hid (RAllP T 0 w (.returned (.tuple #[.slice A PT.length c, .int .i64 0])) w2) := ⟨PT, A, c, rfl, h1, h2, lb_trans HB1.out h3⟩
    clear h1 h2 h3 CR i0 i1 i2
    go_wp2
    go_ret2
    exact HQ.out
  · rw [tolT_no hE]
    have hx : ((checkI text ml ent).1 != 0) = true := by simpa using hE
    generalize (checkI text ml ent).1 = E at *
    generalize (checkI text ml ent).2 = E2 at *
    clear hT hR hs hE
    go_enter Tryz.func8, Tryz.ntmps8
    go_upto_region 1 with fail
    rw [HW.out]
    clear HW
    go_wp2_with fail
    refine CK.mono ?_
    rintro e w1 ⟨rfl, hb1⟩
    have HB1 : Hid (Below w.heap.size w w1) := lb_trans HB.out hb1
    clear i0 i1 i2 hb1 CK
    go_wp2
    go_ret2
    exact ⟨[], none, 0, rfl, rfl, fun j hj => absurd hj (Nat.not_lt_zero _), HB1.out⟩
def RCntP (T : List (Nat × List Nat)) (E : Int) (w : World) (e : Ending) (w' : World) : Prop := e = .returned (.tuple #[.int .i64 (T.length : Int), .int .i64 ((smP T : Nat) : Int), .int .i64 E]) ∧ Below w.heap.size w w'
theorem tol_few {text : List Int} {ml : Nat} {ent : Int} (hs : (checkI text ml ent).1 = 0 → text.length ≤ 512) : (tolT text ml ent).length ≤ 4200000 ∧ ∀ p ∈ tolT text ml ent, p.2.length ≤ 512 := by
  by_cases hE : (checkI text ml ent).1 = 0
  · rw [tolT_yes hE]
    have hl := hs hE
    constructor
    · unfold tdL
      rw [List.length_map]
      exact eachL_few (by rw [numL_len]; omega)
    · intro p hp
      unfold tdL at hp
      obtain ⟨r, _, rfl⟩ := List.mem_map.1 hp
      have := plcS_few (numL text text.length) (enK (begF text ent) text.length) r.2 r.1
      rw [numL_len] at this
      show (plcS _ _ _ _).length ≤ 512
      omega
  · rw [tolT_no hE]
    exact ⟨Nat.zero_le _, fun p hp => by cases hp⟩
set_option maxRecDepth 100000 in
set_option maxHeartbeats 4000000 in
theorem refcount18_any (A1 A2 : Option Addr) (c1 ml c2 : Nat) (ent : Int) (text : List Int) (w : World) (hT : IntsAt w A1 .u32 text) (hR : ∀ i, i < text.length → 0 ≤ nth text i ∧ nth text i < 4294967296) (hl : text.length ≤ 1048576) (hm : ml ≤ 1048576) (hs : (checkI text ml ent).1 = 0 → text.length ≤ 512) :
    Calls Tryz.prog 10 #[.agg #[.slice A1 text.length c1, .int .i64 ent, .slice A2 ml c2]] w (RCntP (tolT text ml ent) (checkI text ml ent).1 w) := by
  obtain ⟨W, HW⟩ : ∃ W, Hid (w.alloc (.cells #[.slice A1 text.length c1, .int .i64 ent, .slice A2 ml c2] 25) = W) := ⟨_, rfl⟩
  have HB : Hid (Below w.heap.size w W) := by unfold Hid; rw [← HW.out]; exact lb_alloc (Below.refl _ _) _
  have i0 : W.cell? ⟨w.heap.size, 0, none⟩ = some (.slice A1 text.length c1) := by rw [← HW.out]; simp [go_sem]
  have i1 : W.cell? ⟨w.heap.size, 1, none⟩ = some (.int .i64 ent) := by rw [← HW.out]; simp [go_sem]
  have i2 : W.cell? ⟨w.heap.size, 2, none⟩ = some (.slice A2 ml c2) := by rw [← HW.out]; simp [go_sem]
  have HI : Hid (∀ Z, Below W.heap.size W Z → Z.cell? ⟨w.heap.size, 0, none⟩ = some (.slice A1 text.length c1) ∧ Z.cell? ⟨w.heap.size, 1, none⟩ = some (.int .i64 ent) ∧ Z.cell? ⟨w.heap.size, 2, none⟩ = some (.slice A2 ml c2)) := fun Z hZ => ⟨lkeep hZ i0, lkeep hZ i1, lkeep hZ i2⟩
  have CA := refall18_any A1 A2 c1 ml c2 ent text W (hT.keep HB.out) hR hl hm hs
  obtain ⟨hT1, hT2⟩ := tol_few hs
  have HT2 : Hid (∀ p ∈ tolT text ml ent, p.2.length ≤ 512) := hT2
  by_cases hE : (checkI text ml ent).1 = 0
  · rw [hE] at CA ⊢
    clear hT hR hs hE hT2
    generalize tolT text ml ent = T at *
    go_enter Tryz.func10, Tryz.ntmps10
    go_upto_region 1 with fail
    rw [HW.out]
    clear HW
    go_wp2_with fail
    refine CA.mono ?_
    rintro e w1 ⟨PT, A, c, rfl, h1, h2, h3⟩
    have HB1 : Hid (Below w.heap.size w w1) := lb_trans HB.out h3
    have HF : Hid (fsts PT = T) := h1
    have HP : Hid (TpsAt w1 A PT) := h2
    have hPl : PT.length = T.length := by rw [← h1]; unfold fsts; rw [List.length_map]
    clear h1 h2 h3 CA i0 i1 i2 HI HB
    rw [← hPl] at hT1
    clear hPl
    go_wp2
    go_loopw [7, 8] (fun vn vi wr => ∃ (s k : Nat), vn = .int .i64 (s : Int) ∧ vi = .int .i64 (k : Int) ∧ k ≤ PT.length ∧ s ≤ k * 512 ∧ Hid (s = smP (fsts (PT.take k))) ∧ wr = w1) (fun _ vi _ => PT.length - (intOf vi).toNat)
    case atStart => exact ⟨0, 0, rfl, rfl, Nat.zero_le _, Nat.zero_le _, rfl, rfl⟩
    case round =>
      obtain ⟨s, k, rfl, rfl, hk, hsk, HS, rfl⟩ := hrel
      by_cases hlt : k < PT.length
      · have hlt' : (k : Int) < (PT.length : Int) := by omega
        obtain ⟨a, ea, x0, x1, -⟩ := HP.out k hlt
        subst ea
        have HS2 : Hid (smP (fsts (PT.take (k + 1))) = s + (pth PT k).1.2.length) := by unfold Hid; rw [fsts_take hlt, smP_snoc, ← HS.out]
        have hL : (pth PT k).1.2.length ≤ 512 := HT2.out _ (by rw [← HF.out]; exact List.mem_map.2 ⟨_, pth_mem hlt, rfl⟩)
        unfold tpV at x1
        obtain ⟨⟨⟨n, L⟩, ⟨O5, c5⟩⟩, hp⟩ : ∃ p, pth PT k = p := ⟨_, rfl⟩
        rw [hp] at x0 x1 HS2 hL
        simp only at x0 x1 hL
        have HS3 : Hid (smP (fsts (PT.take (k + 1))) = s + L.length) := HS2.out
        clear hp HS HS2
        generalize L.length = l at *
        go_wp2
        go_roundw
        case rel => exact ⟨s + l, k + 1, by go_num, by go_num, by omega, by omega, HS3.out.symm, by first | exact rfl | exact trivial⟩
        case measure => simp [intOf]; omega
      · obtain rfl : k = PT.length := by omega
        have hlt' : ¬ (PT.length : Int) < (PT.length : Int) := by omega
        have HR : Hid (RCntP T 0 w (.returned (.tuple #[.int .i64 (PT.length : Int), .int .i64 (s : Int), .int .i64 0])) wr) := by
          refine ⟨?_, HB1.out⟩
          rw [← HF.out, HS.out, List.take_length]
          unfold fsts
          rw [List.length_map]
        clear HS
        go_wp2
        go_ret3
        exact HR.out
  · rw [tolT_no hE] at CA ⊢
    have hx : ((checkI text ml ent).1 != 0) = true := by simpa using hE
    generalize (checkI text ml ent).1 = E at *
    clear hT hR hs hE hT2 HT2
    go_enter Tryz.func10, Tryz.ntmps10
    go_upto_region 1 with fail
    rw [HW.out]
    clear HW
    go_wp2_with fail
    refine CA.mono ?_
    rintro e w1 ⟨PT, A, c, rfl, h1, h2, h3⟩
    have HB1 : Hid (Below w.heap.size w w1) := lb_trans HB.out h3
    clear h1 h2 h3 CA i0 i1 i2 HI HB
    go_wp2
    go_ret3
    exact ⟨rfl, HB1.out⟩
/-- Are a place and a length Places' own? -/
def okB (text : List Int) (ent : Int) (at' ln : Int) : Bool := decide (2 ≤ ln) && hrB (numL text text.length) (enK (begF text ent) text.length) at' ln
def plL (text : List Int) (ml : Nat) (ent at' ln : Int) : List Nat := if (checkI text ml ent).1 = 0 ∧ okB text ent at' ln = true then plcS (numL text text.length) (enK (begF text ent) text.length) at'.toNat ln.toNat else []
def plE (text : List Int) (ml : Nat) (ent at' ln : Int) : Int := if (checkI text ml ent).1 = 0 then (if okB text ent at' ln = true then 0 else 1) else (checkI text ml ent).1
def PlaP (L : List Nat) (E : Int) (w : World) (e : Ending) (w' : World) : Prop := ∃ (O : Option Addr) (c : Nat), e = .returned (.tuple #[.slice O L.length c, .int .i64 E]) ∧ w'.ownsRow w.heap.size 3 1 (.slice O L.length c) L.length (iVals .i64 (nV64 L)) ∧ Below w.heap.size w w'
theorem PlaP.no {L : List Nat} {E : Int} {w w' : World} (hL : L = []) (hb : Below w.heap.size w w') : PlaP L E w (.returned (.tuple #[.slice none 0 0, .int .i64 E])) w' := by
  subst hL
  exact ⟨none, 0, rfl, World.ownsRow_nil _ _ _ _, hb⟩
theorem ok_split {text : List Int} {ent at' ln : Int} (h : okB text ent at' ln = true) : ∃ k n : Nat, at' = (k : Int) ∧ ln = (n : Int) ∧ k < text.length ∧ 2 ≤ n ∧ k + n ≤ enK (begF text ent) text.length k := by
  unfold okB hrB at h
  rw [Bool.and_eq_true, decide_eq_true_iff, decide_eq_true_iff, numL_len] at h
  obtain ⟨h1, h2, h3, h4⟩ := h
  exact ⟨at'.toNat, ln.toNat, by omega, by omega, by omega, by omega, by omega⟩
theorem ok_not {text : List Int} {ent at' ln : Int} (h : okB text ent at' ln = false) : ln < 2 ∨ at' < 0 ∨ (text.length : Int) ≤ at' ∨ (0 ≤ at' ∧ at' < (text.length : Int) ∧ ((enK (begF text ent) text.length at'.toNat : Nat) : Int) - at' < ln) := by
  unfold okB hrB at h
  rw [Bool.and_eq_false_iff, decide_eq_false_iff_not, decide_eq_false_iff_not, numL_len] at h
  omega
set_option maxRecDepth 100000 in
set_option maxHeartbeats 4000000 in
theorem refplaces18_any (A1 A2 : Option Addr) (c1 ml c2 : Nat) (ent : Int) (text : List Int) (w : World) (hT : IntsAt w A1 .u32 text) (hR : ∀ i, i < text.length → 0 ≤ nth text i ∧ nth text i < 4294967296) (hl : text.length ≤ 1048576) (hm : ml ≤ 1048576) (hs : (checkI text ml ent).1 = 0 → text.length ≤ 512) (at' ln : Int) (ha : -9223372036854775808 ≤ at' ∧ at' ≤ 9223372036854775807) :
    Calls Tryz.prog 12 #[.agg #[.slice A1 text.length c1, .int .i64 ent, .slice A2 ml c2], .int .i64 at', .int .i64 ln] w (PlaP (plL text ml ent at' ln) (plE text ml ent at' ln) w) := by
  obtain ⟨W, HW⟩ : ∃ W, Hid (w.alloc (.cells #[.slice A1 text.length c1, .int .i64 ent, .slice A2 ml c2] 25) = W) := ⟨_, rfl⟩
  have HB : Hid (Below w.heap.size w W) := by unfold Hid; rw [← HW.out]; exact lb_alloc (Below.refl _ _) _
  have i0 : W.cell? ⟨w.heap.size, 0, none⟩ = some (.slice A1 text.length c1) := by rw [← HW.out]; simp [go_sem]
  have i1 : W.cell? ⟨w.heap.size, 1, none⟩ = some (.int .i64 ent) := by rw [← HW.out]; simp [go_sem]
  have i2 : W.cell? ⟨w.heap.size, 2, none⟩ = some (.slice A2 ml c2) := by rw [← HW.out]; simp [go_sem]
  have HI : Hid (∀ Z, Below W.heap.size W Z → Z.cell? ⟨w.heap.size, 0, none⟩ = some (.slice A1 text.length c1) ∧ Z.cell? ⟨w.heap.size, 1, none⟩ = some (.int .i64 ent) ∧ Z.cell? ⟨w.heap.size, 2, none⟩ = some (.slice A2 ml c2)) := fun Z hZ => ⟨lkeep hZ i0, lkeep hZ i1, lkeep hZ i2⟩
  have CK := refcheck_any A1 A2 c1 ml c2 ent text W (hT.keep HB.out) hR hl hm
  unfold ChkP at CK
  by_cases hE : (checkI text ml ent).1 = 0
  · have hM := check_mayI hE
    have hpos : 0 < text.length := hM.past.pos
    have hl5 := hs hE
    have CN := fun Z (hZ : Below w.heap.size w Z) => refnumbers_any A1 c1 text Z (hT.keep hZ) hR (by omega)
    have CE := fun Z (hZ : Below w.heap.size w Z) => refends18_any A1 A2 c1 ml c2 ent text Z (hT.keep hZ) hR hM
    have HEn : Hid (EnP (numL text text.length) (enK (begF text ent) text.length)) := by
      have := enK_ok (f := begF text ent) (nm := numL text text.length)
      rw [numL_len] at this
      exact this
    have HEs : Hid (EnsP (numL text text.length) (enK (begF text ent) text.length) (enL (begF text ent) text.length)) := ⟨HEn.out, by rw [enL_len, numL_len], fun k hk => by rw [numL_len] at hk; rw [enL_nth hk]⟩
    have hpl : plL text ml ent at' ln = if okB text ent at' ln = true then plcS (numL text text.length) (enK (begF text ent) text.length) at'.toNat ln.toNat else [] := by
      unfold plL
      simp [hE]
    have hpe : plE text ml ent at' ln = if okB text ent at' ln = true then 0 else 1 := if_pos hE
    rw [hE] at CK
    generalize (checkI text ml ent).2 = E2 at *
    cases ho : okB text ent at' ln with
    | false =>
      have hno := ok_not ho
      rw [ho, if_neg (by simp)] at hpl hpe
      rw [hpl, hpe]
      clear hpl hpe ho CN hs hE hR
      by_cases x0 : ln < 2
      · go_enter Tryz.func12, Tryz.ntmps12
        go_upto_region 1 with fail
        rw [HW.out]
        clear HW
        go_wp2_with fail
        refine CK.mono ?_
        rintro e w1 ⟨rfl, hb1⟩
        have HB1 : Hid (Below w.heap.size w w1) := lb_trans HB.out hb1
        have HB1W : Hid (Below W.heap.size W w1) := hb1
        clear i0 i1 i2
        obtain ⟨i0, i1, i2⟩ := HI.out w1 hb1
        clear hb1 CK
        go_wp2_with fail
        refine (CE _ HB1.out).mono ?_
        rintro e w2 ⟨Ae, ce, rfl, hee, hb2⟩
        have HB2 : Hid (Below w.heap.size w w2) := lb_trans HB1.out hb2
        have HB2W : Hid (Below W.heap.size W w2) := lb_trans HB1W.out hb2
        clear hb2 CE i0 i1 i2
        go_wp2
        go_ret2
        exact PlaP.no rfl HB2.out
      by_cases x1 : at' < 0
      · go_enter Tryz.func12, Tryz.ntmps12
        go_upto_region 1 with fail
        rw [HW.out]
        clear HW
        go_wp2_with fail
        refine CK.mono ?_
        rintro e w1 ⟨rfl, hb1⟩
        have HB1 : Hid (Below w.heap.size w w1) := lb_trans HB.out hb1
        have HB1W : Hid (Below W.heap.size W w1) := hb1
        clear i0 i1 i2
        obtain ⟨i0, i1, i2⟩ := HI.out w1 hb1
        clear hb1 CK
        go_wp2_with fail
        refine (CE _ HB1.out).mono ?_
        rintro e w2 ⟨Ae, ce, rfl, hee, hb2⟩
        have HB2 : Hid (Below w.heap.size w w2) := lb_trans HB1.out hb2
        have HB2W : Hid (Below W.heap.size W w2) := lb_trans HB1W.out hb2
        clear hb2 CE i0 i1 i2
        go_wp2
        go_ret2
        exact PlaP.no rfl HB2.out
      by_cases x2 : (text.length : Int) ≤ at'
      · go_enter Tryz.func12, Tryz.ntmps12
        go_upto_region 1 with fail
        rw [HW.out]
        clear HW
        go_wp2_with fail
        refine CK.mono ?_
        rintro e w1 ⟨rfl, hb1⟩
        have HB1 : Hid (Below w.heap.size w w1) := lb_trans HB.out hb1
        have HB1W : Hid (Below W.heap.size W w1) := hb1
        clear i0 i1 i2
        obtain ⟨i0, i1, i2⟩ := HI.out w1 hb1
        clear hb1 CK
        go_wp2_with fail
        refine (CE _ HB1.out).mono ?_
        rintro e w2 ⟨Ae, ce, rfl, hee, hb2⟩
        have HB2 : Hid (Below w.heap.size w w2) := lb_trans HB1.out hb2
        have HB2W : Hid (Below W.heap.size W w2) := lb_trans HB1W.out hb2
        clear hb2 CE i0 i1 i2
        go_wp2
        go_ret2
        exact PlaP.no rfl HB2.out
      · have x3 := ((hno.resolve_left x0).resolve_left x1).resolve_left x2
        obtain ⟨k, rfl⟩ : ∃ k : Nat, at' = (k : Int) := ⟨at'.toNat, by omega⟩
        have hk : k < text.length := by omega
        rw [Int.toNat_natCast] at x3
        obtain ⟨e1, e2, e3⟩ := x3
        have he := HEn.out.le k (by rw [numL_len]; exact hk)
        rw [numL_len] at he
        go_enter Tryz.func12, Tryz.ntmps12
        go_upto_region 1 with fail
        rw [HW.out]
        clear HW
        go_wp2_with fail
        refine CK.mono ?_
        rintro e w1 ⟨rfl, hb1⟩
        have HB1 : Hid (Below w.heap.size w w1) := lb_trans HB.out hb1
        have HB1W : Hid (Below W.heap.size W w1) := hb1
        clear i0 i1 i2
        obtain ⟨i0, i1, i2⟩ := HI.out w1 hb1
        clear hb1 CK
        go_wp2_with fail
        refine (CE _ HB1.out).mono ?_
        rintro e w2 ⟨Ae, ce, rfl, hee, hb2⟩
        have HB2 : Hid (Below w.heap.size w w2) := lb_trans HB1.out hb2
        have HB2W : Hid (Below W.heap.size W w2) := lb_trans HB1W.out hb2
        clear hb2 CE i0 i1 i2
        obtain ⟨a, ea, q⟩ := (row_ints (l := enL (begF text ent) text.length) (by rw [enL_len]; exact hee)) k (by rw [enL_len]; exact hk)
        subst ea
        rw [enL_nth hk] at q
        clear hee
        generalize enK (begF text ent) text.length k = ek at *
        go_wp2
        go_ret2
        exact PlaP.no rfl HB2.out
    | true =>
      obtain ⟨k, n, rfl, rfl, hk, hn, hr⟩ := ok_split ho
      rw [ho, if_pos rfl] at hpl hpe
      rw [Int.toNat_natCast, Int.toNat_natCast] at hpl
      rw [hpl, hpe]
      have he := HEn.out.le k (by rw [numL_len]; exact hk)
      rw [numL_len] at he
      have x0 : ¬ (n : Int) < 2 := by omega
      have x1 : ¬ (k : Int) < 0 := by omega
      have x2 : ¬ (text.length : Int) ≤ (k : Int) := by omega
      have CP := fun (An Ae : Option Addr) (cn ce : Nat) Z h1 h2 => refplaces_any An Ae cn ce (numL text text.length) (enL (begF text ent) text.length) (enK (begF text ent) text.length) k n Z h1 h2 HEs.out (by rw [numL_len]; omega) (by rw [numL_len]; exact hk) hr
      have hnl : (numL text text.length).length = text.length := numL_len _ _
      rw [hnl] at CP
      unfold NewL at CN
      rw [hnl] at CN
      have x4 : ¬ ((enK (begF text ent) text.length k : Nat) : Int) - (k : Int) < (n : Int) := by omega
      clear hpl hpe ho hs hE hR
      go_enter Tryz.func12, Tryz.ntmps12
      go_upto_region 1 with fail
      rw [HW.out]
      clear HW
      go_wp2_with fail
      refine CK.mono ?_
      rintro e w1 ⟨rfl, hb1⟩
      have HB1 : Hid (Below w.heap.size w w1) := lb_trans HB.out hb1
      have HB1W : Hid (Below W.heap.size W w1) := hb1
      clear i0 i1 i2
      obtain ⟨i0, i1, i2⟩ := HI.out w1 hb1
      clear hb1 CK
      go_wp2_with fail
      refine (CE _ HB1.out).mono ?_
      rintro e w2 ⟨Ae, ce, rfl, hee, hb2⟩
      have HB2 : Hid (Below w.heap.size w w2) := lb_trans HB1.out hb2
      have HB2W : Hid (Below W.heap.size W w2) := lb_trans HB1W.out hb2
      clear hb2 CE i0 i1 i2
      have HE2 : Hid (IntsAt w2 Ae .i64 (enL (begF text ent) text.length)) := row_ints (l := enL (begF text ent) text.length) (by rw [enL_len]; exact hee)
      obtain ⟨a, ea, q⟩ := HE2.out k (by rw [enL_len]; exact hk)
      subst ea
      rw [enL_nth hk] at q
      clear hee hr
      generalize hgek : enK (begF text ent) text.length k = ek at *
      clear hgek
      obtain ⟨i0, i1, i2⟩ := HI.out w2 HB2W.out
      go_upto_region 7 with fail
      clear q x4
      go_wp2_with (first | (go_at_call 32; refine (CN _ HB2.out).mono ?_; rintro e w3 ⟨An, cn, rfl, hnn, hb3⟩; have HN3 : Hid (IntsAt w3 An .i64 (numL text text.length)) := row_ints (l := numL text text.length) (by rw [hnl]; exact hnn); have HE3 : Hid (IntsAt w3 (some a) .i64 (enL (begF text ent) text.length)) := HE2.out.keep hb3; have HB3 : Hid (Below w.heap.size w w3) := lb_trans HB2.out hb3; clear hnn hb3) | (go_at_call 31; refine (CP _ _ _ _ _ HN3.out HE3.out).mono ?_; rintro e w4 ⟨O, c, rfl, hoo, hb4⟩; have HQ : Hid (PlaP (plcS (numL text text.length) (enK (begF text ent) text.length) k n) 0 w (.returned (.tuple #[.slice O (plcS (numL text text.length) (enK (begF text ent) text.length) k n).length c, .int .i64 0])) w4) := ⟨O, c, rfl, ownsRow_mono hoo HB3.out.size, lb_trans HB3.out hb4⟩; clear hoo hb4))
      go_ret2
      exact HQ.out
  · have hpl : plL text ml ent at' ln = [] := if_neg (fun h => hE h.1)
    have hpe : plE text ml ent at' ln = (checkI text ml ent).1 := if_neg hE
    rw [hpl, hpe]
    have hx : ((checkI text ml ent).1 != 0) = true := by simpa using hE
    generalize (checkI text ml ent).1 = E at *
    generalize (checkI text ml ent).2 = E2 at *
    clear hT hR hs hE hpl hpe
    go_enter Tryz.func12, Tryz.ntmps12
    go_upto_region 1 with fail
    rw [HW.out]
    clear HW
    go_wp2_with fail
    refine CK.mono ?_
    rintro e w1 ⟨rfl, hb1⟩
    have HB1 : Hid (Below w.heap.size w w1) := lb_trans HB.out hb1
    have HB1W : Hid (Below W.heap.size W w1) := hb1
    clear i0 i1 i2
    obtain ⟨i0, i1, i2⟩ := HI.out w1 hb1
    clear hb1 CK
    go_wp2
    go_ret2
    exact PlaP.no rfl HB1.out

end Go.Proofs.YtokhclindfipbaaGreatDoor
