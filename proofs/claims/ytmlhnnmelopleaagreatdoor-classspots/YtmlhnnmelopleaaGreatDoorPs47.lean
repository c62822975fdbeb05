/-
  The program's Spots. Copies and comparing of the statements; what a class costs. The small known run. Behind of the document: what is live behind each place.
-/
import Derived.Test.YtmlhnnmelopleaaGreatDoorProg
import Derived.WalkKit
import Derived.WalkSpells
import Derived.WalkLawsBesides
import Derived.RowKit3
import Derived.Below
import Derived.Deep.QuietTactic
import Derived.BigQuiet
import Derived.WalkSmall
import Derived.Laws.Rows
import Derived.Test.YtmlhnnmelopleaaGreatDoorPs46
import Derived.Test.YtmlhnnmelopleaaGreatDoorPs23
import Derived.Test.YtmlhnnmelopleaaGreatDoorPs09
import Derived.Test.YtmlhnnmelopleaaGreatDoorPs10
import Derived.Test.YtmlhnnmelopleaaGreatDoorPs42
import Derived.Test.YtmlhnnmelopleaaGreatDoorPs12
import Derived.Test.YtmlhnnmelopleaaGreatDoorPs30
import Derived.Test.YtmlhnnmelopleaaGreatDoorPs40
import Derived.Test.YtmlhnnmelopleaaGreatDoorPs38
namespace Go.Proofs.YtmlhnnmelopleaaGreatDoor
open Go.RowKit

def SpotsR (text : List Int) (ml : Nat) (ent : Int) (n : Int) (P : List Int) (w : World) (e : Ending) (w' : World) : Prop := Below w.heap.size w w' ∧
  (((checkI text ml ent).1 ≠ 0 ∧ e = .returned (.tuple #[.slice none 0 0, .int .i64 (checkI text ml ent).1])) ∨
   ((checkI text ml ent).1 = 0 ∧ ¬ OneP text n P ∧ e = .returned (.tuple #[.slice none 0 0, .int .i64 51])) ∨
   ((checkI text ml ent).1 = 0 ∧ OneP text n P ∧ ∃ (H : Int → Nat) (A : Option Addr) (c : Nat), Gd text ent H n.toNat (nth P 0).toNat ∧ e = .returned (.tuple #[.slice A (spotsN text ent H n.toNat P).length c, .int .i64 0]) ∧ SpAt w' A (spotsN text ent H n.toNat P)))
set_option maxRecDepth 100000 in
set_option maxHeartbeats 8000000 in
theorem spotsof_any (A1 A2 : Option Addr) (c1 ml c2 : Nat) (ent : Int) (text : List Int) (n : Int) (A : Option Addr) (cP : Nat) (P : List Int) (w : World) (hTz : Tz w) (hT : IntsAt w A1 .u32 text) (hR : ∀ i, i < text.length → 0 ≤ nth text i ∧ nth text i < 4294967296) (hc : text.length ≤ c1) (hl : text.length ≤ 1048576) (hm : ml ≤ 1048576) (hP : IntsAt w A .i64 P) (hPl : P.length ≤ 1048576) (hPc : P.length ≤ cP) (hPr : ∀ i, i < P.length → nth P i ≤ 9223372036854775807) :
    Calls Tryz.prog 14 #[.agg #[.slice A1 text.length c1, .int .i64 ent, .slice A2 ml c2], .agg #[.int .i64 n, .slice A P.length cP]] w (SpotsR text ml ent n P w) := by
  obtain ⟨W, HW⟩ : ∃ W, Hid ((w.alloc (.cells #[.slice A1 text.length c1, .int .i64 ent, .slice A2 ml c2] 31)).alloc (.cells #[.int .i64 n, .slice A P.length cP] 43) = W) := ⟨_, rfl⟩
  have HB : Hid (Below w.heap.size w W) := by unfold Hid; rw [← HW.out]; exact lb_alloc (lb_alloc (Below.refl _ _) _) _
  have i0 : W.cell? ⟨w.heap.size, 0, none⟩ = some (.slice A1 text.length c1) := by rw [← HW.out]; simp [go_sem]
  have i1 : W.cell? ⟨w.heap.size, 1, none⟩ = some (.int .i64 ent) := by rw [← HW.out]; simp [go_sem]
  have i2 : W.cell? ⟨w.heap.size, 2, none⟩ = some (.slice A2 ml c2) := by rw [← HW.out]; simp [go_sem]
  have x0 : W.cell? ⟨w.heap.size + 1, 0, none⟩ = some (.int .i64 n) := by rw [← HW.out]; simp [go_sem]
  have x1 : W.cell? ⟨w.heap.size + 1, 1, none⟩ = some (.slice A P.length cP) := by rw [← HW.out]; simp [go_sem]
  have hB0 := HB.out
  by_cases hE : (checkI text ml ent).1 = 0
  · have hM := check_mayI hE
    obtain ⟨a1, ea, -⟩ := hT 0 hM.past.pos
    subst ea
    have hl4 : text.length ≤ 16384 := hM.past.len
    have C := textof_ok a1 A2 c1 ml c2 ent text W (hT.keep HB.out) hR hl hm hE
    have HR : Hid (∀ i, i < text.length → 0 ≤ nth text i ∧ nth text i < 4294967296) := hR
    have HE : Hid ((checkI text ml ent).1 = 0) := hE
    have HTz : Hid (Tz w) := hTz
    have HP : Hid (IntsAt w A .i64 P) := hP
    have HPr : Hid (∀ i, i < P.length → nth P i ≤ 9223372036854775807) := hPr
    clear hT hR hE hM hTz hP hPr
    go_enter Tryz.func14, Tryz.ntmps14
    go_upto_region 1 with fail
    rw [HW.out]
    clear HW
    go_upto_region 4 with (go_at_call 34; refine C.mono ?_; rintro e w1 ⟨B, Ab, cb, rfl, hX1, hb1⟩; have HX : Hid (TxAt w1 B a1 A2 Ab c1 ml c2 cb ent text) := hX1; have HB1 : Hid (Below w.heap.size w w1) := lb_trans hB0 hb1; have y0 := lkeep hb1 x0; have y1 := lkeep hb1 x1; clear hX1 hb1 i0 i1 i2 x0 x1)
    clear C
    have CI := isone_any B a1 A2 Ab c1 ml c2 cb ent text n A cP P w1 HX.out HR.out hl4 hc (HP.out.keep HB1.out) hPl hPc HPr.out
    unfold IsoP at CI
    go_wp2_with fail
    refine CI.mono ?_
    rintro e w2 ⟨⟨b, rfl, hb⟩, hb2⟩
    have HI : Hid (b = true ↔ OneP text n P) := hb
    have HB2 : Hid (Below w.heap.size w w2) := lb_trans HB1.out hb2
    have HX2 : Hid (TxAt w2 B a1 A2 Ab c1 ml c2 cb ent text) := HX.out.keep hb2
    have z0 := lkeep hb2 y0
    have z1 := lkeep hb2 y1
    clear hb hb2 y0 y1 CI HX
    cases b with
    | false =>
      have HFi : Hid (∀ w', Below w.heap.size w w' → SpotsR text ml ent n P w (.returned (.tuple #[.slice none 0 0, .int .i64 51])) w') := fun w' hb => ⟨hb, .inr (.inl ⟨HE.out, fun h => (by have := HI.out.2 h; cases this), rfl⟩)⟩
      clear HI
      go_wp2
      go_ret2
      exact HFi.out _ HB2.out
    | true =>
      have HO : Hid (OneP text n P) := HI.out.1 rfl
      clear HI
      obtain ⟨o1, o2, o3⟩ := HO.out
      obtain ⟨k1, k2, k3⟩ := fit_yes (o2 0 o1)
      obtain ⟨nn, rfl⟩ : ∃ nn : Nat, n = (nn : Int) := ⟨n.toNat, by omega⟩
      obtain ⟨m, hnm⟩ : ∃ m, nn = m + 1 := ⟨nn - 1, by omega⟩
      obtain ⟨aP, eP, -⟩ := HP.out 0 o1
      subst eP
      have o4 : ∀ i, i < P.length → cutN text (nth P i).toNat nn = cutN text (nth P 0).toNat nn := fun i hi => by
        cases i with
        | zero => rfl
        | succ i => exact (o3 i hi).2.1
      have CS := spots_any B a1 A2 Ab c1 ml c2 cb ent text nn m aP cP P w2 (HTz.out.below HB2.out) HX2.out HR.out HE.out hl4 hm hc hnm (HP.out.keep HB2.out) o1 hPl (fun i hi => (fit_yes (o2 i hi)).2) o4
      clear o1 o2 o3 o4 k1 k2 k3 hnm
      go_wp2_with (go_at_call 36; refine CS.mono ?_; rintro e w3 ⟨H, A3, c3, hG, rfl, hown, hb3⟩; have HFi : Hid (SpotsR text ml ent (nn : Int) P w (.returned (.tuple #[.slice A3 (spotsN text ent H nn P).length c3, .int .i64 0])) w3) := ⟨lb_trans HB2.out hb3, .inr (.inr ⟨HE.out, HO.out, H, A3, c3, hG, rfl, row_sps hown⟩)⟩; clear hG hown hb3)
      go_ret2
      exact HFi.out
  · have C := textof_no A1 A2 c1 ml c2 ent text W (hT.keep HB.out) hR hl hm hE
    have hne2 : ((checkI text ml ent).1 != 0) = true := by simpa using hE
    have HFi : Hid (∀ w', Below w.heap.size w w' → SpotsR text ml ent n P w (.returned (.tuple #[.slice none 0 0, .int .i64 (checkI text ml ent).1])) w') := fun w' hb => ⟨hb, .inl ⟨hE, rfl⟩⟩
    clear hT hR hE hTz hP hPr
    generalize (checkI text ml ent).1 = E at *
    go_enter Tryz.func14, Tryz.ntmps14
    go_upto_region 1 with fail
    rw [HW.out]
    clear HW
    go_wp2_with (go_at_call 34; refine C.mono ?_; rintro e w1 ⟨rfl, hb1⟩; have HB1 : Hid (Below w.heap.size w w1) := lb_trans hB0 hb1; clear hb1 x0 x1)
    go_ret2
    exact HFi.out _ HB1.out

end Go.Proofs.YtmlhnnmelopleaaGreatDoor

namespace Go.Proofs.YtmlhnnmelopleaaGreatDoor
open Go.RowKit

theorem copyints_any (O : Option Addr) (ca : Nat) (zs : List Int) (w : World) (hA : IntsAt w O .i64 zs) (h0 : O = none → ca = 0) (hz : zs.length ≤ 1048576) :
    Calls Tryz.prog 15 #[.slice O zs.length ca] w fun e w' => CopyP 3 1 zs.length (iNews .i64 zs) w e w' := by
  obtain ⟨i0, hi, hz0, hz1, hz2⟩ : ∃ i, Tryz.prog.info? 3 = some i ∧ i.zero = some (.int .i64 0) ∧ i.size = 1 ∧ i.bytes = 8 :=
    ⟨(Tryz.prog.info? 3).get (by kernel_rfl), by kernel_rfl, by kernel_rfl, by kernel_rfl, by kernel_rfl⟩
  cases O with
  | none =>
    obtain rfl := h0 rfl
    have hl : zs.length = 0 := by
      cases zs with
      | nil => rfl
      | cons x t => obtain ⟨a, e, _⟩ := hA 0 (by simp); cases e
    have hn : iNews .i64 zs = [] := by unfold iNews; rw [hl]; rfl
    rw [hl, hn]
    have hr := run_append_owned_none (P := Tryz.prog) (w := w) w.heap.size 32 32 3 i0 1 Tryz.underlying32 hi (.slice none 0 0) 0 [] (World.ownsRow_nil w _ _ _)
    go_enter Tryz.func15, Tryz.ntmps15
    go_wp2
    go_ret
    exact copyP_mk rfl (World.ownsRow_nil w _ _ _) (World.grownBy.refl w _)
  | some a =>
    go_enter Tryz.func15, Tryz.ntmps15
    go_wp2_with (at_builtin; refine wpList_append_own _ rfl (.tmp 4) (.tmp 5) 32 rfl w.heap.size 3 i0 (.int .i64 0) 1 8 Tryz.underlying32 hi hz0 hz1 hz2 rfl (by decide) (.slice none 0 0) 0 [] rfl (World.ownsRow_nil w _ _ _) a zs.length ca (iNews .i64 zs) rfl (by simp [iNews]) (iNews_cell hA) (iNews_one _ _) (by unfold maxLen; omega) (by omega) (Nat.le_refl _) ?_; intro v' w' hown hgrow hnil)
    go_ret
    exact copyP_mk rfl (by simpa using hown) hgrow
def costN (c : Int) : Int := if c = 1 ∨ c = 2 ∨ c = 3 then 1 else if c = 4 then 3 else 0
def sizeN (c n : Int) : Int := if n < 1 then 0 else if c = 1 ∨ c = 2 then n else if c = 3 ∨ c = 4 then n + 1 else 0
theorem cost_any (c : Int) (w : World) : Calls Tryz.prog 23 #[.int .i8 c] w fun e w' => e = .returned (.int .i64 (costN c)) ∧ w' = w := by
  by_cases h : c = 1 ∨ c = 2 ∨ c = 3
  · have HV : Hid (costN c = 1) := if_pos h
    rcases h with rfl | rfl | rfl
    all_goals (
      go_enter Tryz.func23, Tryz.ntmps23
      go_wp2
      go_ret
      exact ⟨by rw [HV.out]; rfl, rfl⟩)
  · have o1 : (c == 1) = false := by rw [beq_eq_false_iff_ne]; omega
    have o2 : (c == 2) = false := by rw [beq_eq_false_iff_ne]; omega
    have o3 : (c == 3) = false := by rw [beq_eq_false_iff_ne]; omega
    by_cases h4 : c = 4
    · have HV : Hid (costN c = 3) := by unfold Hid costN; rw [if_neg h, if_pos h4]
      subst h4
      clear h o1 o2 o3
      go_enter Tryz.func23, Tryz.ntmps23
      go_wp2
      go_ret
      exact ⟨by rw [HV.out]; rfl, rfl⟩
    · have HV : Hid (costN c = 0) := by unfold Hid costN; rw [if_neg h, if_neg h4]
      have o4 : (c == 4) = false := by rw [beq_eq_false_iff_ne]; omega
      clear h h4
      go_enter Tryz.func23, Tryz.ntmps23
      go_wp2
      go_ret
      exact ⟨by rw [HV.out]; rfl, rfl⟩
theorem size_any (c n : Int) (hn : n ≤ 1048576) (w : World) : Calls Tryz.prog 24 #[.int .i8 c, .int .i64 n] w fun e w' => e = .returned (.int .i64 (sizeN c n)) ∧ w' = w := by
  by_cases h0 : n < 1
  · have HV : Hid (sizeN c n = 0) := if_pos h0
    go_enter Tryz.func24, Tryz.ntmps24
    go_wp2
    go_ret
    exact ⟨by rw [HV.out]; rfl, rfl⟩
  · by_cases h : c = 1 ∨ c = 2
    · have HV : Hid (sizeN c n = n) := by unfold Hid sizeN; rw [if_neg h0, if_pos h]
      rcases h with rfl | rfl
      all_goals (
        go_enter Tryz.func24, Tryz.ntmps24
        go_wp2
        go_ret
        exact ⟨by rw [HV.out]; rfl, rfl⟩)
    · have o1 : (c == 1) = false := by rw [beq_eq_false_iff_ne]; omega
      have o2 : (c == 2) = false := by rw [beq_eq_false_iff_ne]; omega
      by_cases h4 : c = 3 ∨ c = 4
      · have HV : Hid (sizeN c n = n + 1) := by unfold Hid sizeN; rw [if_neg h0, if_neg h, if_pos h4]
        clear h o1 o2
        rcases h4 with rfl | rfl
        all_goals (
          go_enter Tryz.func24, Tryz.ntmps24
          go_wp2
          go_ret
          exact ⟨by rw [HV.out]; rfl, rfl⟩)
      · have HV : Hid (sizeN c n = 0) := by unfold Hid sizeN; rw [if_neg h0, if_neg h, if_neg h4]
        have o3 : (c == 3) = false := by rw [beq_eq_false_iff_ne]; omega
        have o4 : (c == 4) = false := by rw [beq_eq_false_iff_ne]; omega
        clear h h4
        go_enter Tryz.func24, Tryz.ntmps24
        go_wp2
        go_ret
        exact ⟨by rw [HV.out]; rfl, rfl⟩
theorem much_any (A1 A2 : Option Addr) (c1 c2 : Nat) (ent : Int) (text mem : List Int) (w : World) :
    Calls Tryz.prog 11 #[.agg #[.slice A1 text.length c1, .int .i64 ent, .slice A2 mem.length c2]] w fun e w' => e = .returned (.bool (muchB text mem)) ∧ Below w.heap.size w w' := by
  have hB0 : Below w.heap.size w (w.alloc (.cells #[.slice A1 text.length c1, .int .i64 ent, .slice A2 mem.length c2] 31)) := lb_alloc (Below.refl _ _) _
  unfold muchB
  by_cases h1 : 600 < text.length
  · rw [decide_eq_true h1]
    have h1' : (600 : Int) < (text.length : Int) := by omega
    go_enter Tryz.func11, Tryz.ntmps11
    go_wp2
    go_ret
    exact ⟨rfl, hB0⟩
  · rw [decide_eq_false h1]
    have h1' : decide ((600 : Int) < (text.length : Int)) = false := decide_eq_false (by omega)
    by_cases h2 : 16384 < mem.length
    · rw [decide_eq_true h2]
      have h2' : (16384 : Int) < (mem.length : Int) := by omega
      go_enter Tryz.func11, Tryz.ntmps11
      go_wp2
      go_ret
      exact ⟨rfl, hB0⟩
    · rw [decide_eq_false h2]
      have h2' : decide ((16384 : Int) < (mem.length : Int)) = false := decide_eq_false (by omega)
      go_enter Tryz.func11, Tryz.ntmps11
      go_wp2
      go_ret
      exact ⟨rfl, hB0⟩

end Go.Proofs.YtmlhnnmelopleaaGreatDoor

namespace Go.Proofs.YtmlhnnmelopleaaGreatDoor
open Go.RowKit

def wk3 : List Int := [142606341, 1879572480, 2818572288]
theorem wk3_in : ∀ i, i < wk3.length → 0 ≤ nth wk3 i ∧ nth wk3 i < 4294967296 := by
  intro i hi
  have : i = 0 ∨ i = 1 ∨ i = 2 := by simp [wk3] at hi; omega
  rcases this with rfl | rfl | rfl <;> exact ⟨by decide, by decide⟩
theorem wk3_ints {w : World} {g : Nat} (h : w.heap[g]? = some (.cells #[.int .u32 142606341, .int .u32 1879572480, .int .u32 2818572288] 63 (0, 0))) : IntsAt w (some ⟨g, 0, none⟩) .u32 wk3 := by
  intro i hi
  refine ⟨⟨g, 0, none⟩, rfl, ?_⟩
  rw [add0]
  have : i = 0 ∨ i = 1 ∨ i = 2 := by simp [wk3] at hi; omega
  rcases this with rfl | rfl | rfl <;> exact wbox_at h rfl
theorem wk3_chk : checkI wk3 0 0 = (0, 0) := by kernel_rfl
theorem wk3_beh {H : Int → Nat} (h : BhI wk3 0 H) : H ((1 : Nat) : Int) = 0 := by
  obtain ⟨F, G, h1, h2⟩ := h
  have hl : (blkL wk3 0).length = 1 := by kernel_rfl
  have hA : rAt (blkL wk3 0) 0 = 0 := by kernel_rfl
  have hS : rSym (blkL wk3 0) 0 = 3 := by kernel_rfl
  have hE : rowZ (edgT wk3 0 (blkL wk3 0).length) 0 = [] := by kernel_rfl
  have hG : G ((0 : Nat) : Int) = 0 := by
    have := h1.sol.out 0 (by omega)
    rw [hE] at this
    exact this
  have k := h2 0 (by omega)
  rw [hA, hS, hG] at k
  have e : setB wk3 3 0 (3 - 1 - ((1 : Nat) : Int)).toNat = 0 := by kernel_rfl
  rw [k 1 (by omega) (by omega), e]
theorem wk3_one (H : Int → Nat) : spotN wk3 0 H 3 0 = (1, 0) := by
  have e1 : inB wk3 0 3 0 = true := by kernel_rfl
  have e2 : kindN (cutN wk3 0 3) = 1 := by kernel_rfl
  unfold spotN
  rw [e1, e2]
  simp
theorem wk3_two {H : Int → Nat} (h : Gd wk3 0 H 2 0) : spotN wk3 0 H 2 0 = (3, 0) := by
  have e1 : inB wk3 0 2 0 = true := by kernel_rfl
  have e2 : kindN (cutN wk3 0 2) = 3 := by kernel_rfl
  have e3 := wk3_beh (h e2)
  unfold spotN
  rw [e1, e2, show 0 + 2 - 1 = 1 from rfl, e3]
  simp
theorem wk3_k : kindN wk3 = 1 := by kernel_rfl
set_option maxRecDepth 100000 in
set_option maxHeartbeats 4000000 in
theorem works_any (w : World) (hT : Tz w) : Calls Tryz.prog 6 #[] w fun e w' => e = .returned (.bool true) ∧ Below w.heap.size w w' := by
  obtain ⟨W, HW⟩ : ∃ W, Hid ((w.alloc (.cells #[.int .u32 142606341, .int .u32 1879572480, .int .u32 2818572288] 63)).alloc (.cells #[.slice (some ⟨w.heap.size, 0, none⟩) 3 3, .int .i64 0, .slice none 0 0] 31) = W) := ⟨_, rfl⟩
  have HB : Hid (Below w.heap.size w W) := by unfold Hid; rw [← HW.out]; exact lb_alloc (lb_alloc (Below.refl _ _) _) _
  have h1 : W.heap[w.heap.size]? = some (.cells #[.int .u32 142606341, .int .u32 1879572480, .int .u32 2818572288] 63 (0, 0)) := by rw [← HW.out]; exact old_at (new_at rfl)
  have h3 : W.heap[w.heap.size + 1]? = some (.cells #[.slice (some ⟨w.heap.size, 0, none⟩) 3 3, .int .i64 0, .slice none 0 0] 31 (0, 0)) := by rw [← HW.out]; exact new_at (by simp)
  have x0 : W.cell? ⟨w.heap.size + 1, 0, none⟩ = some (.slice (some ⟨w.heap.size, 0, none⟩) 3 3) := wbox_at h3 rfl
  have x1 : W.cell? ⟨w.heap.size + 1, 1, none⟩ = some (.int .i64 0) := wbox_at h3 rfl
  have x2 : W.cell? ⟨w.heap.size + 1, 2, none⟩ = some (.slice none 0 0) := wbox_at h3 rfl
  have hI := wk3_ints h1
  have CS : ∀ (n : Int) wx, Below W.heap.size W wx → Calls Tryz.prog 20 #[.agg #[.slice (some ⟨w.heap.size, 0, none⟩) 3 3, .int .i64 0, .slice none 0 0], .int .i64 n, .int .i64 0] wx (SpotP wk3 0 0 n 0 wx) := fun n wx hb => spot_any (some ⟨w.heap.size, 0, none⟩) none 3 0 0 0 wk3 n 0 wx (hT.below (lb_trans HB.out hb)) (hI.keep hb) wk3_in (by decide) (by decide) (by decide) (by decide)
  have CK : ∀ wx, Below W.heap.size W wx → Calls Tryz.prog 8 #[.slice (some ⟨w.heap.size, 0, none⟩) 3 3] wx fun e w' => e = .returned (.int .i8 1) ∧ Below wx.heap.size wx w' := fun wx hb => by
    have := kind_any (some ⟨w.heap.size, 0, none⟩) 3 wk3 wx (hI.keep hb) wk3_in (by decide) (by decide)
    rw [wk3_k] at this
    exact this
  have S1 : ∀ e wx wy, SpotP wk3 0 0 3 0 wx e wy → e = .returned (.tuple #[.agg #[.int .i64 0, .int .i8 1, .int .i8 0], .bool true, .int .i64 0]) ∧ Below wx.heap.size wx wy := fun e wx wy h => by
    obtain ⟨hb, h | h | h⟩ := h
    · exact absurd (by rw [wk3_chk]) h.1
    · exact absurd (show fitB wk3 3 0 = true by kernel_rfl) (by rw [h.2.1]; simp)
    · obtain ⟨-, -, H, -, he⟩ := h
      refine ⟨?_, hb⟩
      rw [he, show (3 : Int).toNat = 3 from rfl, show (0 : Int).toNat = 0 from rfl, wk3_one]
      rfl
  have S2 : ∀ e wx wy, SpotP wk3 0 0 2 0 wx e wy → e = .returned (.tuple #[.agg #[.int .i64 0, .int .i8 3, .int .i8 0], .bool true, .int .i64 0]) ∧ Below wx.heap.size wx wy := fun e wx wy h => by
    obtain ⟨hb, h | h | h⟩ := h
    · exact absurd (by rw [wk3_chk]) h.1
    · exact absurd (show fitB wk3 2 0 = true by kernel_rfl) (by rw [h.2.1]; simp)
    · obtain ⟨-, -, H, hG, he⟩ := h
      refine ⟨?_, hb⟩
      rw [he, show (2 : Int).toNat = 2 from rfl, show (0 : Int).toNat = 0 from rfl, wk3_two hG]
      rfl
  have C1 := (CS 3 W (Below.refl _ _)).mono (S1 · W ·)
  have C2 := fun wx hb => (CS 2 wx hb).mono (S2 · wx ·)
  clear CS S1 S2 hI h1 h3 hT
  go_enter Tryz.func6, Tryz.ntmps6
  go_upto_region 2 with fail
  rw [HW.out]
  clear HW
  go_upto_region 3 with (go_at_call 20; refine C1.mono ?_; rintro e w1 ⟨rfl, hb1⟩)
  obtain ⟨W1, HW1⟩ : ∃ W1, Hid (w1.alloc (.cells #[.int .i64 0, .int .i8 1, .int .i8 0] 54) = W1) := ⟨_, rfl⟩
  have HB1 : Hid (Below W.heap.size W W1) := by unfold Hid; rw [← HW1.out]; exact lb_alloc hb1 _
  have s0 : W1.cell? ⟨w1.heap.size, 0, none⟩ = some (.int .i64 0) := by rw [← HW1.out]; simp [go_sem]
  have s1 : W1.cell? ⟨w1.heap.size, 1, none⟩ = some (.int .i8 1) := by rw [← HW1.out]; simp [go_sem]
  have s2 : W1.cell? ⟨w1.heap.size, 2, none⟩ = some (.int .i8 0) := by rw [← HW1.out]; simp [go_sem]
  have y0 := lkeep HB1.out x0
  have y1 := lkeep HB1.out x1
  have y2 := lkeep HB1.out x2
  have C2 := C2 W1 HB1.out
  rw [HW1.out]
  clear HW1 C1 x0 x1 x2
  go_upto_region 4 with (go_at_call 20; refine C2.mono ?_; rintro e w2 ⟨rfl, hb2⟩)
  obtain ⟨W2, HW2⟩ : ∃ W2, Hid (w2.alloc (.cells #[.int .i64 0, .int .i8 3, .int .i8 0] 54) = W2) := ⟨_, rfl⟩
  have HB2 : Hid (Below W1.heap.size W1 W2) := by unfold Hid; rw [← HW2.out]; exact lb_alloc hb2 _
  have t0 : W2.cell? ⟨w2.heap.size, 0, none⟩ = some (.int .i64 0) := by rw [← HW2.out]; simp [go_sem]
  have t1 : W2.cell? ⟨w2.heap.size, 1, none⟩ = some (.int .i8 3) := by rw [← HW2.out]; simp [go_sem]
  have t2 : W2.cell? ⟨w2.heap.size, 2, none⟩ = some (.int .i8 0) := by rw [← HW2.out]; simp [go_sem]
  have z0 := lkeep HB2.out y0
  have u0 := lkeep HB2.out s0
  have u1 := lkeep HB2.out s1
  have u2 := lkeep HB2.out s2
  have CK := CK W2 (lb_trans HB1.out HB2.out)
  rw [HW2.out]
  clear HW2 C2 y0 y1 y2 s0 s1 s2 hb1 hb2
  have HBF : Hid (Below w.heap.size w W2) := lb_trans HB.out (lb_trans HB1.out HB2.out)
  go_wp2_with (go_at_call 8; refine CK.mono ?_; rintro e w3 ⟨rfl, hb3⟩)
  go_ret
  exact ⟨rfl, lb_trans HBF.out hb3⟩

end Go.Proofs.YtmlhnnmelopleaaGreatDoor

namespace Go.Proofs.YtmlhnnmelopleaaGreatDoor
open Go.RowKit

set_option maxRecDepth 100000 in
set_option maxHeartbeats 8000000 in
theorem refbehind_any (A1 A2 : Option Addr) (c1 ml c2 : Nat) (ent : Int) (text : List Int) (w : World) (hT : IntsAt w A1 .u32 text) (hR : ∀ i, i < text.length → 0 ≤ nth text i ∧ nth text i < 4294967296) (hM : MayI text ml ent) (hc : text.length ≤ c1) :
    Calls Tryz.prog 38 #[.agg #[.slice A1 text.length c1, .int .i64 ent, .slice A2 ml c2]] w (BhP text ent w) := by
  have hl : text.length ≤ 16384 := hM.past.len
  have hLt := blk_len_le text ent
  have hpos := hM.past.pos
  have HBi : Hid (∀ i, i < (blkL text ent).length → 0 ≤ rAt (blkL text ent) i ∧ rAt (blkL text ent) i < rSym (blkL text ent) i ∧ rSym (blkL text ent) i ≤ (text.length : Int)) := fun i hi => blk_in hi
  have HMo : Hid (∀ k, k < (blkL text ent).length → ∀ i, i < k → rSym (blkL text ent) i ≤ rAt (blkL text ent) k) := fun k hk => blkRise hpos hk
  obtain ⟨W, HW⟩ : ∃ W, Hid (w.alloc (.cells #[.slice A1 text.length c1, .int .i64 ent, .slice A2 ml c2] 31) = W) := ⟨_, rfl⟩
  have HB : Hid (Below w.heap.size w W) := by unfold Hid; rw [← HW.out]; exact lb_alloc (Below.refl _ _) _
  have i0 : W.cell? ⟨w.heap.size, 0, none⟩ = some (.slice A1 text.length c1) := by rw [← HW.out]; simp [go_sem]
  have i1 : W.cell? ⟨w.heap.size, 1, none⟩ = some (.int .i64 ent) := by rw [← HW.out]; simp [go_sem]
  have i2 : W.cell? ⟨w.heap.size, 2, none⟩ = some (.slice A2 ml c2) := by rw [← HW.out]; simp [go_sem]
  have C1 := refblocks_any A1 A2 c1 ml c2 ent text W (hT.keep HB.out) hR hM
  have C2 := fun wx (hx : Below w.heap.size w wx) => refsets_any A1 A2 c1 ml c2 ent text wx (hT.keep hx) hR hM hc
  have HT : Hid (IntsAt w A1 .u32 text) := hT
  have HR : Hid (∀ i, i < text.length → 0 ≤ nth text i ∧ nth text i < 4294967296) := hR
  have hmk := make_us text.length (by omega)
  clear hT hR hM hpos
  go_enter Tryz.func38, Tryz.ntmps38
  go_upto_region 1 with fail
  rw [HW.out]
  clear HW
  go_upto_region 3 with (first
    | (go_at_call 37; refine C1.mono ?_; rintro e w1 ⟨B, cB, rfl, hrl, hb1⟩; have HB1 : Hid (Below w.heap.size w w1) := lb_trans HB.out hb1; have HL1 : Hid (RelsAt w1 B (blkL text ent)) := hrl; have m0 := lkeep hb1 i0; have m1 := lkeep hb1 i1; have m2 := lkeep hb1 i2; clear hrl hb1 i0 i1 i2 C1)
    | (go_at_call 60; refine (C2 _ HB1.out).mono ?_; rintro e w2 ⟨g1, g2, F, G, rfl, hu1, hu2, hls, hGl, hb2⟩; have HB2 : Hid (Below w.heap.size w w2) := lb_trans HB1.out hb2; have HL2 : Hid (RelsAt w2 B (blkL text ent)) := HL1.out.keep hb2; have HG : Hid (UsAt w2 g2 (blkL text ent).length G) := hu2; have HLs : Hid (LstI text ent F G) := hls; have HGl : Hid (∀ x, G x < 65536) := hGl; have n0 := lkeep hb2 m0; clear hu1 hu2 hls hGl hb2 m0 m1 m2 C2 HL1))
  have HX0 : Hid (w2.cell? ⟨w.heap.size, 0, none⟩ = some (.slice A1 text.length c1)) := n0
  obtain ⟨X, HX⟩ : ∃ X, Hid (w2.alloc (.cells (madeCells #[.int .u16 0] text.length) 85) = X) := ⟨_, rfl⟩
  have HBX : Hid (Below w2.heap.size w2 X) := by unfold Hid; rw [← HX.out]; exact lb_alloc (Below.refl _ _) _
  have HSX : Hid (UsAt X w2.heap.size text.length zeroS) := by unfold Hid; rw [← HX.out]; exact UsAt.made w2 text.length
  go_upto_region 4 with fail
  rw [HX.out]
  clear HX hmk n0
  have HLs2 : Hid (LstI text ent F G) := HLs
  go_wp2
  go_loopw [7] (fun i wr => ∃ (k : Nat) (H : Int → Nat), i = .int .i64 k ∧ k ≤ (blkL text ent).length ∧ Hid (UsAt wr w2.heap.size text.length H) ∧ Hid (Dn text (blkL text ent) G H k) ∧ Hid (Below w2.heap.size w2 wr)) (fun i _ => (blkL text ent).length - (intOf i).toNat)
  case atStart => exact ⟨0, _, rfl, Nat.zero_le _, HSX, fun i hi => absurd hi (Nat.not_lt_zero _), HBX⟩
  case round =>
    clear HSX HBX
    obtain ⟨k, H, rfl, hk, HS, HD, HBr⟩ := hrel
    by_cases hlt : k < (blkL text ent).length
    · have hlt' : (k : Int) < ((blkL text ent).length : Int) := by omega
      have s0 := (HG.out.keep HBr.out).cellN hlt
      obtain ⟨b, eb, q0, q1⟩ := HL2.out k hlt
      subst eb
      have HQ0 : Hid (w2.cell? (b.add (k * 2)) = some (.int .i64 (rAt (blkL text ent) k))) := q0
      have q1 : wr.cell? ⟨(b.add (k * 2)).block, (b.add (k * 2)).off + 1, none⟩ = some (.int .i64 (rSym (blkL text ent) k)) := lkeep HBr.out q1
      clear q0
      obtain ⟨f0, f1, f2⟩ := HBi.out k hlt
      have HM : Hid (∀ i, i < k → rSym (blkL text ent) i ≤ rAt (blkL text ent) k) := HMo.out k hlt
      have HD0 : Hid (Dp text (blkL text ent) G H k (rSym (blkL text ent) k - 1)) := Dp.start HD.out
      have HDd : Hid (∀ H' x, Dp text (blkL text ent) G H' k x → x < rAt (blkL text ent) k → Dn text (blkL text ent) G H' (k + 1)) := fun H' x h hx => h.done hx
      have HDp : Hid (∀ H' (x : Nat) s, Dp text (blkL text ent) G H' k (x : Int) → rAt (blkL text ent) k ≤ (x : Int) → s = setB text (rSym (blkL text ent) k) (G (k : Int)) (rSym (blkL text ent) k - 1 - (x : Int)).toNat → Dp text (blkL text ent) G (putS H' (x : Int) s) k ((x : Int) - 1)) := fun H' x s h hx hs => h.put HM.out hx s hs
      have hgk := HGl.out (k : Int)
      generalize G (k : Int) = gk at *
      generalize rAt (blkL text ent) k = fr at *
      generalize rSym (blkL text ent) k = tt at *
      have hwr : IntKind.i64.wrap (tt - 1) = tt - 1 := by simp [IntKind.wrap, IntKind.signed, IntKind.bits]; omega
      go_wp2
      go_loopw [8, 9] (fun s i wr => ∃ (j : Nat) (x : Int) (H' : Int → Nat), s = .int .u16 ((setB text tt gk j : Nat) : Int) ∧ i = .int .i64 x ∧ x = tt - 1 - (j : Int) ∧ fr - 1 ≤ x ∧ Hid (UsAt wr w2.heap.size text.length H') ∧ Hid (Dp text (blkL text ent) G H' k x) ∧ Hid (Below w2.heap.size w2 wr)) (fun _ i _ => (intOf i - fr + 1).toNat)
      case atStart => exact ⟨0, tt - 1, H, rfl, by go_num, by omega, by omega, HS, HD0, HBr⟩
      case round =>
        clear HS HD HD0 HBr s0 q1
        obtain ⟨j, x, H', rfl, rfl, hx, hxf, HS, HD, HBr⟩ := hrel
        have q0 := lkeep HBr.out HQ0.out
        by_cases hge : fr ≤ x
        · obtain ⟨p, hp⟩ : ∃ p : Nat, x = (p : Int) := ⟨x.toNat, by omega⟩
          have hj : (tt - 1 - (p : Int)).toNat = j := by omega
          have hpl : p < text.length := by omega
          have HSt : Hid (setB text tt gk (j + 1) = insN (rdN (nth text p)) (wrN (nth text p)) (setB text tt gk j)) := by
            show insN _ _ _ = _
            rw [show (tt - 1 - (j : Int)).toNat = p by omega]
          have hxj : x - 1 = tt - 1 - ((j + 1 : Nat) : Int) := by omega
          subst hp
          have HD2 : Hid (Dp text (blkL text ent) G (putS H' (p : Int) (setB text tt gk j)) k ((p : Int) - 1)) := HDp.out H' p _ HD.out hge (by rw [hj])
          have HJ : Hid ((p : Int) - 1 = tt - 1 - ((j + 1 : Nat) : Int)) := hxj
          clear hx hxj hj
          have hpl' : (p : Int) < (text.length : Int) := by omega
          obtain ⟨a, ea, qt⟩ := (HT.out.keep HB2.out) p hpl
          subst ea
          have HQt : Hid (w2.cell? (a.add p) = some (.int .u32 (nth text p))) := qt
          clear qt
          obtain ⟨v0, v1⟩ := HR.out p hpl
          have D1 := fun wx => refreads_any (nth text p) v0 v1 wx
          have D2 := fun wx => refwrites_any (nth text p) v0 v1 wx
          have hsl := setB_lt text tt hgk j
          have hless := lessI hsl (wrN_lt (nth text p))
          have hor : bits .or .u16 ((rdN (nth text p) : Nat) : Int) ((lessN (setB text tt gk j) (wrN (nth text p)) : Nat) : Int) = ((insN (rdN (nth text p)) (wrN (nth text p)) (setB text tt gk j) : Nat) : Int) := orI (rdN_lt _) (lessN_lt hsl)
          have s0 := HS.out.cellN hpl
          have s1 := HS.out.fro p
          generalize insN (rdN (nth text p)) (wrN (nth text p)) (setB text tt gk j) = s2 at *
          generalize lessN (setB text tt gk j) (wrN (nth text p)) = lo at *
          generalize rdN (nth text p) = rd at *
          generalize wrN (nth text p) = wt at *
          generalize nth text p = v at *
          generalize setB text tt gk j = sj at *
          obtain ⟨Z, HZ⟩ : ∃ Z, Hid (wr.setCell ⟨w2.heap.size, p, none⟩ (.int .u16 (sj : Int)) = Z) := ⟨_, rfl⟩
          have HU : Hid (UsAt Z w2.heap.size text.length (putS H' (p : Int) sj)) := by unfold Hid; rw [← HZ.out]; exact HS.out.put hpl sj
          have HBZ : Hid (Below w2.heap.size w2 Z) := by unfold Hid; rw [← HZ.out]; exact below_setAt HBr.out (Nat.le_refl _) HBr.out.size
          go_upto_region 12 with fail
          rw [HZ.out]
          clear s0 s1 q0 HZ
          have x0 := lkeep HBZ.out HX0.out
          have qt := lkeep HBZ.out HQt.out
          go_wp2_with (first
            | (go_at_call 61; refine (D1 _).mono ?_; rintro e w5 ⟨rfl, hb5⟩; have HB5 : Hid (Below Z.heap.size Z w5) := hb5; clear hb5)
            | (go_at_call 62; refine (D2 _).mono ?_; rintro e w6 ⟨rfl, hb6⟩; have HB6 : Hid (Below Z.heap.size Z w6) := lb_trans HB5.out hb6; clear hb6))
          go_roundw
          case rel => exact ⟨j + 1, (p : Int) - 1, _, by rw [HSt.out], by go_num, HJ.out, by omega, HU.out.keep HB6.out, HD2, lb_trans HBZ.out HB6.out⟩
          case measure => simp [intOf]; omega
        · have hge' : ¬ fr ≤ x := hge
          have hlt2 : x < fr := by omega
          have HD2 : Hid (Dn text (blkL text ent) G H' (k + 1)) := HDd.out H' x HD.out hlt2
          have hxx : decide (fr ≤ x) = false := decide_eq_false hge
          clear hx
          go_wp2
          go_roundw
          case rel => exact ⟨k + 1, H', by go_num, by omega, HS, HD2, HBr⟩
          case measure => simp [intOf]; omega
    · obtain rfl : k = (blkL text ent).length := by omega
      go_wp2
      go_ret
      exact ⟨w2.heap.size, H, rfl, HS.out, ⟨F, G, HLs.out, fun i hi p a b => HD.out i hi p a b⟩, lb_trans HB2.out HBr.out⟩



end Go.Proofs.YtmlhnnmelopleaaGreatDoor
