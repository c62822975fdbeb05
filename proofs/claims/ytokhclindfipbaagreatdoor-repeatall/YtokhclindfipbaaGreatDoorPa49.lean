/-
  The document looks at an image; each word is of 32 bits. Places.
-/
import Derived.Test.YtokhclindfipbaaGreatDoorProg
import Derived.WalkKit
import Derived.WalkSpells
import Derived.WalkLawsBesides
import Derived.RowKit3
import Derived.Below
import Derived.Deep.QuietTactic
import Derived.BigQuiet
import Derived.WalkSmall
import Derived.Laws.Rows
import Derived.Test.YtokhclindfipbaaGreatDoorPa25
import Derived.Test.YtokhclindfipbaaGreatDoorPa45
namespace Go.Proofs.YtokhclindfipbaaGreatDoor
open Go.RowKit

set_option maxRecDepth 100000 in
set_option maxHeartbeats 1000000 in
theorem refcheck_any (A1 A2 : Option Addr) (c1 ml c2 : Nat) (ent : Int) (text : List Int) (w : World) (hT : IntsAt w A1 .u32 text) (hR : ∀ i, i < text.length → 0 ≤ nth text i ∧ nth text i < 4294967296) (hl : text.length ≤ 1048576) (hm : ml ≤ 1048576) :
    Calls Tryz.prog 25 #[.agg #[.slice A1 text.length c1, .int .i64 ent, .slice A2 ml c2]] w (ChkP (checkI text ml ent).1 (checkI text ml ent).2 w) := by
  by_cases h0 : text.length = 0
  · rw [check0 h0, h0]
    go_enter Tryz.func25, Tryz.ntmps25
    go_wp2
    go_ret2
    exact ⟨rfl, lb_alloc (Below.refl _ _) _⟩
  have n0 : ((text.length : Int) == 0) = false := by simpa using h0
  by_cases h1 : 16384 < text.length
  · rw [check1 h0 h1]
    go_enter Tryz.func25, Tryz.ntmps25
    go_wp2
    go_ret2
    exact ⟨rfl, lb_alloc (Below.refl _ _) _⟩
  by_cases h2 : 4096 < ml
  · rw [check2 h0 h1 h2]
    go_enter Tryz.func25, Tryz.ntmps25
    go_wp2
    go_ret2
    exact ⟨rfl, lb_alloc (Below.refl _ _) _⟩
  by_cases h3 : ent < 0
  · rw [check3 h0 h1 h2 (.inl h3)]
    go_enter Tryz.func25, Tryz.ntmps25
    go_wp2
    go_ret2
    exact ⟨rfl, lb_alloc (Below.refl _ _) _⟩
  by_cases h4 : (text.length : Int) ≤ ent
  · rw [check3 h0 h1 h2 (.inr h4)]
    go_enter Tryz.func25, Tryz.ntmps25
    go_wp2
    go_ret2
    exact ⟨rfl, lb_alloc (Below.refl _ _) _⟩
  have HP : Hid (Past text ml ent) := ⟨by omega, by omega, by omega, by omega, by omega⟩
  have HB0 : Hid (Below w.heap.size w (w.alloc (.cells #[.slice A1 text.length c1, .int .i64 ent, .slice A2 ml c2] 25))) := lb_alloc (Below.refl _ _) _
  have HX : Hid ((w.alloc (.cells #[.slice A1 text.length c1, .int .i64 ent, .slice A2 ml c2] 25)).heap[w.heap.size]? = some (.cells #[.slice A1 text.length c1, .int .i64 ent, .slice A2 ml c2] 25 (0, 0))) := heap_alloc_new _ _
  clear h1 h2 h3 h4
  have hlen : text.length ≤ 16384 := HP.out.len
  have hml := HP.out.mem
  have hpos := HP.out.pos
  have he0 := HP.out.ent0
  have he1 := HP.out.ent1
  go_enter Tryz.func25, Tryz.ntmps25
  go_wp2
  go_loopw [5] (fun i wr => ∃ k : Nat, i = .int .i64 k ∧ k ≤ text.length ∧ Hid (∀ j, j < k → farT text j = false) ∧ Hid (Below (w.alloc (.cells #[.slice A1 text.length c1, .int .i64 ent, .slice A2 ml c2] 25)).heap.size (w.alloc (.cells #[.slice A1 text.length c1, .int .i64 ent, .slice A2 ml c2] 25)) wr)) (fun i _ => text.length - (intOf i).toNat)
  case atStart => exact ⟨0, rfl, by omega, fun j hj => by omega, Below.refl _ _⟩
  case round =>
    obtain ⟨k, rfl, hk, hj, hb⟩ := hrel
    have HBr : Hid (Below w.heap.size w wr) := lb_trans HB0.out hb.out
    have hx := lb_box0 HX.out hb.out
    by_cases hlt : k < text.length
    · obtain ⟨a, rfl, q⟩ := (hT.keep HBr.out) k hlt
      have x0 : wr.cell? ⟨w.heap.size, 0, none⟩ = some (.slice (some a) text.length c1) := by simp [World.cell?, hx]
      obtain ⟨hv0, hv1⟩ := hR k hlt
      have C := reftarget_any (nth text k) hv0 hv1 wr
      have HF : Hid (farT text k = (isT (nth text k) && decide ((text.length : Int) ≤ tgV (nth text k)))) := rfl
      generalize nth text k = v at *
      generalize isT v = t at *
      generalize tgV v = z at *
      clear hx
      cases t with
      | false =>
        go_wp2_with (go_at_call 57; refine C.mono ?_; rintro e w1 ⟨rfl, hb1⟩)
        go_roundw
        case rel => exact ⟨k + 1, by go_num, by omega, fun j hj1 => by
          by_cases hjk : j = k
          · subst hjk; rw [HF.out]; rfl
          · exact hj.out j (by omega), lb_trans hb.out hb1⟩
        case measure => simp [intOf]; omega
      | true =>
        by_cases hz : (text.length : Int) ≤ z
        · go_wp2_with (go_at_call 57; refine C.mono ?_; rintro e w1 ⟨rfl, hb1⟩)
          go_ret2
          have e := check_far HP.out hlt hj.out (by rw [HF.out]; simpa using hz)
          rw [e]
          exact ⟨rfl, lb_trans HBr.out hb1⟩
        · go_wp2_with (go_at_call 57; refine C.mono ?_; rintro e w1 ⟨rfl, hb1⟩)
          go_roundw
          case rel => exact ⟨k + 1, by go_num, by omega, fun j hj1 => by
            by_cases hjk : j = k
            · subst hjk; rw [HF.out]; simpa using hz
            · exact hj.out j (by omega), lb_trans hb.out hb1⟩
          case measure => simp [intOf]; omega
    · obtain rfl : k = text.length := by omega
      obtain ⟨a, rfl, q⟩ := (hT.keep HBr.out) (text.length - 1) (by omega)
      have x0 : wr.cell? ⟨w.heap.size, 0, none⟩ = some (.slice (some a) text.length c1) := by simp [World.cell?, hx]
      obtain ⟨hv0, hv1⟩ := hR (text.length - 1) (by omega)
      have C := refdecode_any (nth text (text.length - 1)) hv0 hv1 wr
      have HE : Hid _ := check_end HP.out hj.out
      have HL : Hid (lastOK (nth text (text.length - 1)) = decide (dOp (nth text (text.length - 1)) = 0 ∨ dOp (nth text (text.length - 1)) = 15 ∨ dOp (nth text (text.length - 1)) = 19 ∨ dOp (nth text (text.length - 1)) = 21)) := rfl
      have hc : ((text.length - 1 : Nat) : Int) = (text.length : Int) - 1 := by omega
      generalize nth text (text.length - 1) = v at *
      generalize dOp v = x at *
      generalize dD v = x1 at *
      generalize dA v = x2 at *
      generalize dB v = x3 at *
      generalize dN v = x4 at *
      generalize lastOK v = t at *
      clear hx
      go_wp2_with (go_at_call 58; refine C.mono ?_; rintro e w1 ⟨rfl, hb1⟩)
      all_goals (
        go_ret2
        rw [HE.out, HL.out]
        refine ⟨?_, lb_trans HBr.out hb1⟩
        by_cases hd : x = 0 ∨ x = 15 ∨ x = 19 ∨ x = 21
        · rw [decide_eq_true hd]
          first
            | rfl
            | (exfalso; simp_all)
        · rw [decide_eq_false hd]
          first
            | (exfalso; simp_all; done)
            | (simp; omega))









end Go.Proofs.YtokhclindfipbaaGreatDoor

namespace Go.Proofs.YtokhclindfipbaaGreatDoor
open Go.RowKit

def PlcN (E : Int) (w : World) (e : Ending) (w' : World) : Prop := e = .returned (.tuple #[.slice none 0 0, .int .i64 E]) ∧ Below w.heap.size w w'
def PlyP (T : List Nat) (w : World) (e : Ending) (w' : World) : Prop := ∃ (O : Option Addr) (c : Nat), e = .returned (.tuple #[.slice O T.length c, .int .i64 0]) ∧ w'.ownsRow w.heap.size 3 1 (.slice O T.length c) T.length (iVals .i64 (nV64 T)) ∧ Below w.heap.size w w'
set_option maxRecDepth 100000 in
set_option maxHeartbeats 4000000 in
theorem pplaces_no (A1 A2 : Option Addr) (c1 ml c2 : Nat) (ent at' ln : Int) (text : List Int) (w : World) (hT : IntsAt w A1 .u32 text) (hR : ∀ i, i < text.length → 0 ≤ nth text i ∧ nth text i < 4294967296) (hl : text.length ≤ 1048576) (hm : ml ≤ 1048576) (hE : (checkI text ml ent).1 ≠ 0) :
    Calls Tryz.prog 11 #[.agg #[.slice A1 text.length c1, .int .i64 ent, .slice A2 ml c2], .int .i64 at', .int .i64 ln] w (PlcN (checkI text ml ent).1 w) := by
  obtain ⟨X, hX⟩ : ∃ X, w.alloc (.cells #[.slice A1 text.length c1, .int .i64 ent, .slice A2 ml c2] 25) = X := ⟨_, rfl⟩
  have hB : Below w.heap.size w X := by rw [← hX]; exact lb_alloc (Below.refl _ _) _
  have i0 : X.cell? ⟨w.heap.size, 0, none⟩ = some (.slice A1 text.length c1) := by rw [← hX]; simp [go_sem]
  have i1 : X.cell? ⟨w.heap.size, 1, none⟩ = some (.int .i64 ent) := by rw [← hX]; simp [go_sem]
  have i2 : X.cell? ⟨w.heap.size, 2, none⟩ = some (.slice A2 ml c2) := by rw [← hX]; simp [go_sem]
  have HX : Hid _ := hX
  have HB : Hid (Below w.heap.size w X) := hB

  have C := rows_no A1 A2 c1 ml c2 ent text X (hT.keep hB) hR hl hm hE
  have hne : ((checkI text ml ent).1 != 0) = true := by simpa using hE
  clear hT hR hX hE hB
  generalize (checkI text ml ent).1 = E at *
  go_enter Tryz.func11, Tryz.ntmps11
  go_upto_region 1 with fail
  rw [HX.out]
  clear HX
  go_wp2_with (go_at_call 27; refine C.mono ?_; rintro e w1 ⟨rfl, hb1⟩; have HB1 : Hid (Below w.heap.size w w1) := lb_trans HB.out hb1; clear hb1)
  go_ret2
  exact ⟨rfl, HB1.out⟩
set_option maxRecDepth 100000 in
set_option maxHeartbeats 8000000 in
theorem pplaces_arg (A1 A2 : Option Addr) (c1 ml c2 : Nat) (ent at' ln : Int) (text : List Int) (w : World) (hT : IntsAt w A1 .u32 text) (hR : ∀ i, i < text.length → 0 ≤ nth text i ∧ nth text i < 4294967296) (hl : text.length ≤ 2048) (hm : ml ≤ 1048576) (hE : (checkI text ml ent).1 = 0) (h0 : 0 < text.length) (ha : -9223372036854775808 ≤ at' ∧ at' ≤ 9223372036854775807)
    (nm : List Int) (hnm : numL text text.length = nm) (en : Nat → Nat) (hen : enK (begF text ent) text.length = en) (hn : ln < 2 ∨ hrB nm en at' ln = false) :
    Calls Tryz.prog 11 #[.agg #[.slice A1 text.length c1, .int .i64 ent, .slice A2 ml c2], .int .i64 at', .int .i64 ln] w (PlcN 1 w) := by
  have HEn : Hid (EnP nm en) := by
    have := enK_ok (f := begF text ent) (nm := nm)
    rw [← hnm, numL_len, hen, hnm] at this
    exact this
  have hnl : nm.length = text.length := by rw [← hnm, numL_len]
  obtain ⟨X, hX⟩ : ∃ X, w.alloc (.cells #[.slice A1 text.length c1, .int .i64 ent, .slice A2 ml c2] 25) = X := ⟨_, rfl⟩
  have hB : Below w.heap.size w X := by rw [← hX]; exact lb_alloc (Below.refl _ _) _
  have i0 : X.cell? ⟨w.heap.size, 0, none⟩ = some (.slice A1 text.length c1) := by rw [← hX]; simp [go_sem]
  have i1 : X.cell? ⟨w.heap.size, 1, none⟩ = some (.int .i64 ent) := by rw [← hX]; simp [go_sem]
  have i2 : X.cell? ⟨w.heap.size, 2, none⟩ = some (.slice A2 ml c2) := by rw [← hX]; simp [go_sem]
  have HX : Hid _ := hX
  have HB : Hid (Below w.heap.size w X) := hB

  have C := rows_ok A1 A2 c1 ml c2 ent text X (hT.keep hB) hR hl hm hE h0
  unfold RowOk at C
  rw [hnm, hen] at C
  have HRM : Hid (∀ (B : Nat) (S1 S2 S3 S4 : Option Addr) (k1 k2 k3 k4 : Nat) (W : World), RwS W B S1 S2 S3 S4 k1 k2 k3 k4 nm en → Calls Tryz.prog 28 #[.pointer (some ⟨B, 0, none⟩), .int .i64 at', .int .i64 ln] W fun e w' => e = .returned (.bool (hrB nm en at' ln)) ∧ w' = W) := fun B S1 S2 S3 S4 k1 k2 k3 k4 W h => room_any B S1 S2 S3 S4 k1 k2 k3 k4 nm en at' ln W h HEn.out (by omega) ha
  clear hT hR hX hE hnm hen hnl hB
  generalize hrB nm en at' ln = b at *
  by_cases h2 : ln < 2
  · clear hn HRM
    go_enter Tryz.func11, Tryz.ntmps11
    go_upto_region 1 with fail
    rw [HX.out]
    clear HX
    go_wp2_with (go_at_call 27; refine C.mono ?_; rintro e w1 ⟨B, S1, S2, S3, S4, k1, k2, k3, k4, rfl, -, -, -, hb1⟩; have HB1 : Hid (Below w.heap.size w w1) := lb_trans HB.out hb1; clear hb1)
    go_ret2
    exact ⟨rfl, HB1.out⟩
  · have hb : b = false := by rcases hn with x | x; exact absurd x h2; exact x
    subst hb
    clear hn
    go_enter Tryz.func11, Tryz.ntmps11
    go_upto_region 1 with fail
    rw [HX.out]
    clear HX
    go_upto_region 4 with (go_at_call 27; refine C.mono ?_; rintro e w1 ⟨B, S1, S2, S3, S4, k1, k2, k3, k4, rfl, -, hS, -, hb1⟩; have HB1 : Hid (Below w.heap.size w w1) := lb_trans HB.out hb1; have CR := HRM.out _ _ _ _ _ _ _ _ _ _ hS; clear hb1 hS)
    go_wp2_with (go_at_call 28; refine CR.mono ?_; rintro e w2 ⟨rfl, e1⟩; have e2 := e1.symm; clear e1; subst e2)
    go_ret2
    exact ⟨rfl, HB1.out⟩
set_option maxRecDepth 100000 in
set_option maxHeartbeats 8000000 in
theorem pplaces_ok (A1 A2 : Option Addr) (c1 ml c2 : Nat) (ent : Int) (k n : Nat) (text : List Int) (w : World) (hT : IntsAt w A1 .u32 text) (hR : ∀ i, i < text.length → 0 ≤ nth text i ∧ nth text i < 4294967296) (hl : text.length ≤ 2048) (hm : ml ≤ 1048576) (hE : (checkI text ml ent).1 = 0) (h0 : 0 < text.length)
    (nm : List Int) (hnm : numL text text.length = nm) (en : Nat → Nat) (hen : enK (begF text ent) text.length = en) (hk : k < nm.length) (hn2 : 2 ≤ n) (hr : k + n ≤ en k) :
    Calls Tryz.prog 11 #[.agg #[.slice A1 text.length c1, .int .i64 ent, .slice A2 ml c2], .int .i64 (k : Int), .int .i64 (n : Int)] w (PlyP (plcS nm en k n) w) := by
  have HEn : Hid (EnP nm en) := by
    have := enK_ok (f := begF text ent) (nm := nm)
    rw [← hnm, numL_len, hen, hnm] at this
    exact this
  have hnl : nm.length = text.length := by rw [← hnm, numL_len]
  have hle := HEn.out.le k hk
  have hrk := rkN_lt hk
  have hpl : plcR nm en (snth (sufN nm) (rkN nm k)) n = plcS nm en k n := by
    rw [rkN_at hk]
    exact plcR_room HEn.out hk (by rw [cpS_same]; omega) hr
  obtain ⟨X, hX⟩ : ∃ X, w.alloc (.cells #[.slice A1 text.length c1, .int .i64 ent, .slice A2 ml c2] 25) = X := ⟨_, rfl⟩
  have hB : Below w.heap.size w X := by rw [← hX]; exact lb_alloc (Below.refl _ _) _
  have i0 : X.cell? ⟨w.heap.size, 0, none⟩ = some (.slice A1 text.length c1) := by rw [← hX]; simp [go_sem]
  have i1 : X.cell? ⟨w.heap.size, 1, none⟩ = some (.int .i64 ent) := by rw [← hX]; simp [go_sem]
  have i2 : X.cell? ⟨w.heap.size, 2, none⟩ = some (.slice A2 ml c2) := by rw [← hX]; simp [go_sem]
  have HX : Hid _ := hX
  have HB : Hid (Below w.heap.size w X) := hB

  have C := rows_ok A1 A2 c1 ml c2 ent text X (hT.keep hB) hR hl hm hE h0
  unfold RowOk at C
  rw [hnm, hen] at C
  have HRM : Hid (∀ (B : Nat) (S1 S2 S3 S4 : Option Addr) (k1 k2 k3 k4 : Nat) (W : World), RwS W B S1 S2 S3 S4 k1 k2 k3 k4 nm en → Calls Tryz.prog 28 #[.pointer (some ⟨B, 0, none⟩), .int .i64 (k : Int), .int .i64 (n : Int)] W fun e w' => e = .returned (.bool true) ∧ w' = W) := fun B S1 S2 S3 S4 k1 k2 k3 k4 W h => by
    have := room_any B S1 S2 S3 S4 k1 k2 k3 k4 nm en (k : Int) (n : Int) W h HEn.out (by omega) (by omega)
    rw [hrB_nat HEn.out hk, decide_eq_true hr] at this
    exact this
  have HPL : Hid (∀ (B : Nat) (S1 S2 S3 S4 : Option Addr) (k1 k2 k3 k4 : Nat) (W : World), RwS W B S1 S2 S3 S4 k1 k2 k3 k4 nm en → Calls Tryz.prog 29 #[.pointer (some ⟨B, 0, none⟩), .int .i64 ((rkN nm k : Nat) : Int), .int .i64 (n : Int)] W (GthP (plcS nm en k n) W)) := fun B S1 S2 S3 S4 k1 k2 k3 k4 W h => by
    have := places_any B S1 S2 S3 S4 k1 k2 k3 k4 nm en (rkN nm k) n W h HEn.out (by omega) hrk (by omega)
    rw [hpl] at this
    exact this
  have hkn : (k : Int) < (nm.length : Int) := by omega
  have hk0 : (0 : Int) ≤ (k : Int) := by omega
  have hn2' : ¬ (n : Int) < 2 := by omega
  have HNl : Hid (nm.length ≤ 2048) := by unfold Hid; omega
  clear hT hR hX hE hnm hen hnl hB hr hle hpl
  generalize plcS nm en k n = T at *
  go_enter Tryz.func11, Tryz.ntmps11
  go_upto_region 1 with fail
  rw [HX.out]
  clear HX
  go_upto_region 4 with (go_at_call 27; refine C.mono ?_; rintro e w1 ⟨B, S1, S2, S3, S4, k1, k2, k3, k4, rfl, -, hS, -, hb1⟩; have HB1 : Hid (Below w.heap.size w w1) := lb_trans HB.out hb1; have HS : Hid (RwS w1 B S1 S2 S3 S4 k1 k2 k3 k4 nm en) := hS; have CR := HRM.out _ _ _ _ _ _ _ _ _ _ hS; have CP := HPL.out _ _ _ _ _ _ _ _ _ _ hS; clear hb1 hS)
  have f2 := HS.out.f2
  obtain ⟨a, ea, q⟩ := HS.out.r2 k (by rw [rkL_len]; exact hk)
  subst ea
  rw [rkL_nth hk] at q
  clear HRM HPL C HEn
  generalize rkN nm k = r at *
  go_upto_region 6 with (go_at_call 28; refine CR.mono ?_; rintro e w2 ⟨rfl, e1⟩; have e2 := e1.symm; clear e1; subst e2)
  go_wp2_with (go_at_call 29; refine CP.mono ?_; rintro e w3 ⟨O, c, rfl, hr3, hb3⟩; have HR3 : Hid (w3.ownsRow w1.heap.size 3 1 (.slice O T.length c) T.length (iVals .i64 (nV64 T))) := hr3; have HB3 : Hid (Below w1.heap.size w1 w3) := hb3; clear hr3 hb3)
  go_ret2
  exact ⟨O, c, rfl, ownsRow_mono HR3.out HB1.out.size, lb_trans HB1.out HB3.out⟩


end Go.Proofs.YtokhclindfipbaaGreatDoor
