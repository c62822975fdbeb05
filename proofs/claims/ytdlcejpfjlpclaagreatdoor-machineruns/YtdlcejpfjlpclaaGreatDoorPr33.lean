/-
  Run of the program's machine. The statements' small known run. A list of numbers copied into memory of its own, with marks behind it, by the document's helpers; it is at most 2^20 long.
-/
import Derived.Test.YtdlcejpfjlpclaaGreatDoorProg
import Derived.WalkKit
import Derived.WalkSpells
import Derived.WalkLawsBesides
import Derived.RowKit3
import Derived.Below
import Derived.Deep.QuietTactic
import Derived.BigQuiet
import Derived.WalkSmall
import Derived.Laws.Rows
import Derived.Test.YtdlcejpfjlpclaaGreatDoorPr32
import Derived.Test.YtdlcejpfjlpclaaGreatDoorPr17
import Derived.Laws.MakeOwn
import Derived.Test.YtdlcejpfjlpclaaGreatDoorPr04
namespace Go.Proofs.YtdlcejpfjlpclaaGreatDoor
open Go.RowKit

section
variable {w : World} {base P : Nat} {s : Loc} {m : Mach}
theorem NowP.then {w1 w2 : World} {m1 m2 : Mach} (h : NowP w base P s m1 w1) (k : ∀ s1, PAt w1 base P s1 m1 → NowP w1 base P s1 m2 w2) : NowP w base P s m2 w2 := by
  obtain ⟨s1, a1, a2, a3⟩ := h
  obtain ⟨s2, b1, b2, b3⟩ := k s1 a1
  refine ⟨s2, b1, a2.on b2 (fun x hx => a3 x hx), fun b hb => ?_⟩
  rcases b3 b hb with f | f
  · exact a3 b f
  · exact .inr (Nat.le_trans a2.size f)
theorem NowP.trans {w1 w2 : World} {m1 m2 : Mach} {s1 : Loc} (_a1 : PAt w1 base P s1 m1) (a2 : Upto (Foot s P) w w1) (a3 : ∀ b, Foot s1 P b → Foot s P b ∨ w.heap.size ≤ b) (k : NowP w1 base P s1 m2 w2) : NowP w base P s m2 w2 := by
  obtain ⟨s2, b1, b2, b3⟩ := k
  refine ⟨s2, b1, a2.on b2 (fun x hx => a3 x hx), fun b hb => ?_⟩
  rcases b3 b hb with f | f
  · exact a3 b f
  · exact .inr (Nat.le_trans a2.size f)
theorem now_drewN {m1 : Mach} {w1 : World} (h : NowP w base P s m1 w1) (n : Nat) : NowP w base P s m1 (w1.drewN n) := by
  obtain ⟨s1, a1, a2, a3⟩ := h
  exact ⟨s1, a1.drewN n, a2.drewN n, a3⟩
/-- What Run answers. -/
def RanP (w : World) (base P : Nat) (s : Loc) (m : Mach) (k : Nat) (e : Ending) (w' : World) : Prop := e = .returned (.tuple #[.int .i64 (((runM k m).steps : Int) - (m.steps : Int)), .int .i8 (runM k m).status]) ∧ NowP w base P s (runM k m) w'
theorem ran_of {j k : Nat} {w' : World} {e : Ending} (he : e = .returned (.tuple #[.int .i64 (((runM j m).steps : Int) - (m.steps : Int)), .int .i8 (runM j m).status])) (hn : NowP w base P s (runM j m) w') (hr : runM k m = runM j m) : RanP w base P s m k e w' := by
  unfold RanP
  rw [hr]
  exact ⟨he, hn⟩
set_option maxRecDepth 100000 in
set_option maxHeartbeats 4000000 in
theorem run_any (h : PAt w base P s m) (hm : Fine m) (most : Int) (hN : m.steps + most.toNat < 1048576) : Calls Tryz.prog 14 #[.pointer (some ⟨P, 0, none⟩), .int .i64 most] w (RanP w base P s m most.toNat) := by
  have C1 := made_yes h hm
  obtain ⟨c0, c1, c34, c35, c36, c37, c38, c39⟩ := h.cells hm.sixteen
  have HN : Hid (NowP w base P s (runM 0 m) w) := now_same h (Upto.refl _ _)
  clear h
  go_enter Tryz.func14, Tryz.ntmps14
  go_wp2_with (first
    | (go_at_call 29; refine C1.mono ?_; rintro e w1 ⟨rfl, hw1⟩; have hw1 := hw1.symm; subst hw1))
  clear c0 c1 c34 c35 c36 c37 c38 c39 C1
  go_loopw [15] (fun i wr => ∃ k : Nat, i = .int .i64 k ∧ k ≤ most.toNat ∧ Hid (NowP w base P s (runM k m) wr)) (fun i _ => most.toNat - (intOf i).toNat)
  case atStart => exact ⟨0, rfl, Nat.zero_le _, HN⟩
  case round =>
    clear HN
    obtain ⟨k, rfl, hk, HN⟩ := hrel
    obtain ⟨s1, a1, a2, a3⟩ := HN.out
    have HA : Hid (PAt wr base P s1 (runM k m) ∧ Upto (Foot s P) w wr ∧ ∀ b, Foot s1 P b → Foot s P b ∨ w.heap.size ≤ b) := ⟨a1, a2, a3⟩
    have hfk := fine_run hm k
    obtain ⟨st0, st1, -⟩ := run_steps m k
    by_cases hlt : (k : Int) < most
    · have C2 := step_any a1 hfk (by omega)
      rw [← run_snoc] at C2
      have HM2 : Hid (Fine (runM (k + 1) m)) := fine_run hm (k + 1)
      obtain ⟨su0, su1, -⟩ := run_steps m (k + 1)
      clear a1 a2 a3 hfk
      by_cases hz : (runM (k + 1) m).status = 0
      · rw [hz] at C2
        clear hz
        go_wp2_with (first
          | (go_at_call 11; refine C2.mono ?_; rintro e w1 ⟨rfl, hn⟩))
        go_roundw
        case rel => exact ⟨k + 1, by go_num, by omega, NowP.trans HA.out.1 HA.out.2.1 HA.out.2.2 hn⟩
        case measure => simp [intOf]; omega
      · have HE : Hid (runM most.toNat m = runM (k + 1) m) := run_end hz (by omega)
        have hz2 : ((runM (k + 1) m).status != 0) = true := by simpa using hz
        have hz3 : ((runM (k + 1) m).status == 0) = false := by simpa using hz
        clear hz
        go_upto_region 8 with (first
          | (go_at_call 11; refine C2.mono ?_; rintro e w1 ⟨rfl, hn⟩))
        have HN2 : Hid (NowP w base P s (runM (k + 1) m) w1) := NowP.trans HA.out.1 HA.out.2.1 HA.out.2.2 hn
        obtain ⟨s2, b1, -⟩ := hn
        obtain ⟨-, -, -, -, -, c37, -, c39⟩ := b1.cells HM2.out.sixteen
        have HR : Hid (∀ w2, NowP w base P s (runM (k + 1) m) w2 → RanP w base P s m most.toNat (.returned (.tuple #[.int .i64 (((runM (k + 1) m).steps : Int) - (m.steps : Int)), .int .i8 (runM (k + 1) m).status])) w2) := fun w2 h2 => ran_of rfl h2 HE.out
        clear b1 C2 HE
        generalize (runM (k + 1) m).steps = S at *
        generalize (runM (k + 1) m).status = Z at *
        go_quiet (fail)
        go_wp2
        go_ret2
        exact HR.out _ (now_drewN HN2.out _)
    · have HE : Hid (runM most.toNat m = runM k m) := by rw [show most.toNat = k by omega]; rfl
      obtain ⟨-, -, -, -, -, c37, -, c39⟩ := a1.cells hfk.sixteen
      have HR : Hid (∀ w2, NowP w base P s (runM k m) w2 → RanP w base P s m most.toNat (.returned (.tuple #[.int .i64 (((runM k m).steps : Int) - (m.steps : Int)), .int .i8 (runM k m).status])) w2) := fun w2 h2 => ran_of rfl h2 HE.out
      clear a1 a2 a3 hfk HE
      generalize (runM k m).steps = S at *
      generalize (runM k m).status = Z at *
      go_wp2_with fail
      go_quiet (fail)
      go_wp2
      go_ret2
      exact HR.out _ (now_drewN HN.out _)
end

end Go.Proofs.YtdlcejpfjlpclaaGreatDoor

namespace Go.Proofs.YtdlcejpfjlpclaaGreatDoor
open Go.RowKit

def wkT : List Int := [2281701378, 2818572288, 2558001152, 0]
def wkM : Mach := newM wkT [] [0] 0
theorem wk_new : newE wkT [] [0] 0 = 0 := by kernel_rfl
theorem wk_steps : (runM 10 wkM).steps = 3 := by kernel_rfl
theorem wk_status : (runM 10 wkM).status = 1 := by kernel_rfl
theorem wk_pc : (runM 10 wkM).pc = 1 := by kernel_rfl
theorem wk_v : wV (runM 10 wkM).regs 15 = 1 := by kernel_rfl
theorem wk_c : wC (runM 10 wkM).regs 15 = true := by kernel_rfl
theorem wk_in : ∀ i, i < wkT.length → 0 ≤ nth wkT i ∧ nth wkT i < 4294967296 := by
  intro i hi
  have : i = 0 ∨ i = 1 ∨ i = 2 ∨ i = 3 := by simp [wkT] at hi; omega
  rcases this with rfl | rfl | rfl | rfl <;> exact ⟨by decide, by decide⟩
theorem wk_fine : Fine wkM := newM_fine wk_in (by decide) (by decide) (by decide) (by decide) (by decide)
theorem wk_ints {w : World} {g : Nat} (h : w.heap[g]? = some (.cells #[.int .u32 2281701378, .int .u32 2818572288, .int .u32 2558001152, .int .u32 0] 36 (0, 0))) : IntsAt w (some ⟨g, 0, none⟩) .u32 wkT := by
  intro i hi
  refine ⟨⟨g, 0, none⟩, rfl, ?_⟩
  rw [add0]
  have : i = 0 ∨ i = 1 ∨ i = 2 ∨ i = 3 := by simp [wkT] at hi; omega
  rcases this with rfl | rfl | rfl | rfl <;> exact box_at h rfl
theorem wk_mem {w : World} {g : Nat} (h : w.heap[g]? = some (.cells #[.int .i64 0] 2 (0, 0))) : IntsAt w (some ⟨g, 0, none⟩) .i64 [0] := by
  intro i hi
  refine ⟨⟨g, 0, none⟩, rfl, ?_⟩
  rw [add0]
  have : i = 0 := by simp at hi; omega
  subst this
  exact box_at h rfl
set_option maxRecDepth 100000 in
set_option maxHeartbeats 4000000 in
theorem works_any (w : World) : Calls Tryz.prog 5 #[] w fun e w' => e = .returned (.bool true) ∧ Below w.heap.size w w' := by
  obtain ⟨W, HW⟩ : ∃ W, Hid (((w.alloc (.cells #[.int .u32 2281701378, .int .u32 2818572288, .int .u32 2558001152, .int .u32 0] 36)).alloc (.cells #[.int .i64 0] 2)).alloc (.cells #[.slice (some ⟨w.heap.size, 0, none⟩) 4 4, .int .i64 0, .slice (some ⟨w.heap.size + 1, 0, none⟩) 1 1] 25) = W) := ⟨_, rfl⟩
  have HB : Hid (Below w.heap.size w W) := by unfold Hid; rw [← HW.out]; exact lb_alloc (lb_alloc (lb_alloc (Below.refl _ _) _) _) _
  have h1 : W.heap[w.heap.size]? = some (.cells #[.int .u32 2281701378, .int .u32 2818572288, .int .u32 2558001152, .int .u32 0] 36 (0, 0)) := by rw [← HW.out]; exact oldAt (oldAt (newAt rfl))
  have h2 : W.heap[w.heap.size + 1]? = some (.cells #[.int .i64 0] 2 (0, 0)) := by rw [← HW.out]; exact oldAt (newAt (by simp))
  have h3 : W.heap[w.heap.size + 2]? = some (.cells #[.slice (some ⟨w.heap.size, 0, none⟩) 4 4, .int .i64 0, .slice (some ⟨w.heap.size + 1, 0, none⟩) 1 1] 25 (0, 0)) := by rw [← HW.out]; exact newAt (by simp)
  have x0 : W.cell? ⟨w.heap.size + 2, 0, none⟩ = some (.slice (some ⟨w.heap.size, 0, none⟩) 4 4) := box_at h3 rfl
  have x1 : W.cell? ⟨w.heap.size + 2, 1, none⟩ = some (.int .i64 0) := box_at h3 rfl
  have x2 : W.cell? ⟨w.heap.size + 2, 2, none⟩ = some (.slice (some ⟨w.heap.size + 1, 0, none⟩) 1 1) := box_at h3 rfl
  have C1 := new_any (some ⟨w.heap.size, 0, none⟩) (some ⟨w.heap.size + 1, 0, none⟩) none 4 1 0 0 wkT [0] [] W (wk_ints h1) (wk_mem h2) (fun i hi => by simp at hi) wk_in (by decide) (by decide) (by simp) (fun _ => rfl)
  have C1 : Calls Tryz.prog 8 #[.agg #[.slice (some ⟨w.heap.size, 0, none⟩) 4 4, .int .i64 0, .slice (some ⟨w.heap.size + 1, 0, none⟩) 1 1], .slice none 0 0] W fun e w' => ∃ P s, e = .returned (.tuple #[.pointer (some ⟨P, 0, none⟩), .int .i64 0]) ∧ PAt w' W.heap.size P s wkM ∧ Below W.heap.size W w' := C1.mono fun e w' k => by
    rcases k.2 with k2 | ⟨-, P, s, e1, e2⟩
    · exact absurd wk_new k2.1
    · exact ⟨P, s, e1, e2, k.1⟩
  clear h1 h2 h3
  go_enter Tryz.func5, Tryz.ntmps5
  go_upto_region 2 with fail
  rw [HW.out]
  clear HW
  go_wp2_with fail
  refine C1.mono ?_
  rintro e w1 ⟨P, s, rfl, hp, hb⟩
  have HB1 : Hid (Below w.heap.size w w1) := lb_trans HB.out hb
  have C2 := run_any hp wk_fine 10 (by decide)
  have HFt : Hid (∀ b, Foot s P b → w.heap.size ≤ b) := fun b hf => Nat.le_trans HB.out.size (hp.foot hf).1
  clear C1 x0 x1 x2 hp hb HB
  go_wp2_with fail
  refine C2.mono ?_
  rintro e w2 ⟨rfl, s2, hp, hu, hf⟩
  have e1 : (((runM (Int.toNat 10) wkM).steps : Int) - (wkM.steps : Int)) = 3 := by rw [show Int.toNat 10 = 10 from rfl, wk_steps]; rfl
  have e2 : (runM (Int.toNat 10) wkM).status = 1 := wk_status
  rw [e1, e2]
  have HB2 : Hid (Below w.heap.size w w2) := hu.below HB1.out HFt.out
  have hfr : Fine (runM (Int.toNat 10) wkM) := fine_run wk_fine 10
  have C3 := register_yes hp hfr 15 (by decide)
  have e3 : wV (runM (Int.toNat 10) wkM).regs 15 = 1 := wk_v
  have e4 : wC (runM (Int.toNat 10) wkM).regs 15 = true := wk_c
  rw [e3, e4] at C3
  clear e1 e2 e3 e4 hu hf C2 HB1 HFt
  go_wp2_with fail
  refine C3.mono ?_
  rintro e w3 ⟨rfl, hb⟩
  have hp3 := hp.keep hb
  have hp4 : PAt (w3.alloc (.cells #[.int .i64 1, .bool true] 71)) W.heap.size P s2 (runM (Int.toNat 10) wkM) := hp3.alloc _
  have C4 := at_yes hp4 hfr
  have e5 : (runM (Int.toNat 10) wkM).pc = 1 := wk_pc
  rw [e5] at C4
  have HB3 : Hid (Below w.heap.size w w3) := lb_trans HB2.out hb
  clear C3 hp hp3 hp4 hb e5
  go_wp2_with (first
    | (go_at_call 22; refine C4.mono ?_; rintro e w4 ⟨rfl, hw4⟩; have hw4 := hw4.symm; subst hw4))
  go_ret
  exact ⟨rfl, lb_alloc HB3.out _⟩

end Go.Proofs.YtdlcejpfjlpclaaGreatDoor

namespace Go.Proofs.YtdlcejpfjlpclaaGreatDoor
open Go.RowKit

theorem num_any (n i : Int) (h0 : 0 ≤ n) (h1 : n ≤ 9) (h2 : 0 ≤ i) (h3 : i ≤ 2097152) (w : World) : Calls Tryz.prog 67 #[.int .i64 n, .int .i64 i] w fun e w' => e = .returned (.int .i64 (1048576 * n + i + 1)) ∧ w' = w := by
  go_enter Tryz.func67, Tryz.ntmps67
  go_wp2
  go_ret
  exact ⟨rfl, rfl⟩
theorem made_wcur (f : Nat → Value) (z : Value) (N : Nat) : madeCells #[z] N = wcur f (fun _ => z) N 0 := by
  apply Array.ext_getElem?
  intro i
  by_cases hi : i < N
  · rw [wcur_get _ _ _ _ _ hi]; simp [madeCells, hi, Nat.mod_one]
  · rw [Array.getElem?_eq_none (by simp [madeCells]; omega), Array.getElem?_eq_none (by simp [wcur_size]; omega)]
theorem info45 : ∃ i, Tryz.prog.info? 36 = some i ∧ i.zero = some (.int .u32 0) ∧ i.size = 1 ∧ i.bytes = 4 :=
  ⟨(Tryz.prog.info? 36).get (by kernel_rfl), by kernel_rfl, by kernel_rfl, by kernel_rfl, by kernel_rfl⟩
theorem make22 (f : Nat → Value) (n : Nat) (hn : n ≤ 1048576) (w : World) : (Instr.makeSlice 22 (.int .i64 ((n : Int) + 64)) (.int .i64 ((n : Int) + 64))).run Tryz.prog w = .ok (.slice (some ⟨w.heap.size, 0, none⟩) (n + 64) (n + 64)) (w.alloc (.cells (wcur f (fun _ => .int .u32 0) (n + 64) 0) 36)) := by
  obtain ⟨i, hi, hz, hs, hb⟩ := info45
  have h := run_makeSlice (P := Tryz.prog) w 22 36 i _ Tryz.underlying22 hi hz .i64 .i64 ((n : Int) + 64) ((n : Int) + 64) (by omega) (by omega) (by rw [hs]; omega) (by rw [hb]; omega) (by omega)
  rw [hs, Nat.mul_one, show ((n : Int) + 64).toNat = n + 64 by omega] at h
  rw [h, ← made_wcur f (.int .u32 0) (n + 64)]
  rfl
theorem info2 : ∃ i, Tryz.prog.info? 2 = some i ∧ i.zero = some (.int .i64 0) ∧ i.size = 1 ∧ i.bytes = 8 :=
  ⟨(Tryz.prog.info? 2).get (by kernel_rfl), by kernel_rfl, by kernel_rfl, by kernel_rfl, by kernel_rfl⟩
theorem make23 (f : Nat → Value) (n : Nat) (hn : n ≤ 1048576) (w : World) : (Instr.makeSlice 23 (.int .i64 ((n : Int) + 64)) (.int .i64 ((n : Int) + 64))).run Tryz.prog w = .ok (.slice (some ⟨w.heap.size, 0, none⟩) (n + 64) (n + 64)) (w.alloc (.cells (wcur f (fun _ => .int .i64 0) (n + 64) 0) 2)) := by
  obtain ⟨i, hi, hz, hs, hb⟩ := info2
  have h := run_makeSlice (P := Tryz.prog) w 23 2 i _ Tryz.underlying23 hi hz .i64 .i64 ((n : Int) + 64) ((n : Int) + 64) (by omega) (by omega) (by rw [hs]; omega) (by rw [hb]; omega) (by omega)
  rw [hs, Nat.mul_one, show ((n : Int) + 64).toNat = n + 64 by omega] at h
  rw [h, ← made_wcur f (.int .i64 0) (n + 64)]
  rfl

end Go.Proofs.YtdlcejpfjlpclaaGreatDoor
