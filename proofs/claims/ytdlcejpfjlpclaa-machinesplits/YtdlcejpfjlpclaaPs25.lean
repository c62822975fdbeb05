/-
  Two machines of the program's that lie apart. The statements' small known run.
-/
import Derived.Test.YtdlcejpfjlpclaaProg
import Derived.WalkKit
import Derived.WalkSpells
import Derived.WalkLawsBesides
import Derived.RowKit3
import Derived.Below
import Derived.Deep.QuietTactic
import Derived.BigQuiet
import Derived.WalkSmall
import Derived.Laws.Rows
import Derived.Test.YtdlcejpfjlpclaaPs16
import Derived.Test.YtdlcejpfjlpclaaPs24
import Derived.Test.YtdlcejpfjlpclaaPs14
namespace Go.Proofs.Ytdlcejpfjlpclaa
open Go.RowKit

/-- Two machines, which share nothing. -/
structure Pair (w : World) (base P1 : Nat) (s1 : Loc) (m1 : Mach) (P2 : Nat) (s2 : Loc) (m2 : Mach) : Prop where
  p1 : PAt w base P1 s1 m1
  p2 : PAt w base P2 s2 m2
  apart : ∀ b, Foot s1 P1 b → ¬ Foot s2 P2 b
section
variable {w w' : World} {base P1 P2 : Nat} {s1 s2 : Loc} {m1 m2 m' : Mach}
theorem Pair.keep (h : Pair w base P1 s1 m1 P2 s2 m2) (hb : Below w.heap.size w w') : Pair w' base P1 s1 m1 P2 s2 m2 := ⟨h.p1.keep hb, h.p2.keep hb, h.apart⟩
theorem Pair.left (h : Pair w base P1 s1 m1 P2 s2 m2) (hn : NowP w base P1 s1 m' w') : ∃ s1', Pair w' base P1 s1' m' P2 s2 m2 := by
  obtain ⟨s', a1, a2, a3⟩ := hn
  refine ⟨s', a1, h.p2.other a2 fun b hb hf => h.apart b hf hb, fun b hb hf => ?_⟩
  rcases a3 b hb with k | k
  · exact h.apart b k hf
  · have := (h.p2.foot hf).2; omega
theorem Pair.right (h : Pair w base P1 s1 m1 P2 s2 m2) (hn : NowP w base P2 s2 m' w') : ∃ s2', Pair w' base P1 s1 m1 P2 s2' m' := by
  obtain ⟨s', a1, a2, a3⟩ := hn
  refine ⟨s', h.p1.other a2 fun b hb hf => h.apart b hb hf, a1, fun b hb hf => ?_⟩
  rcases a3 b hf with k | k
  · exact h.apart b hb k
  · have := (h.p1.foot hb).2; omega
theorem now_below {w0 : World} (h : NowP w base P1 s1 m' w') (p : PAt w base P1 s1 m1) (hb : Below w0.heap.size w0 w) (hB : w0.heap.size ≤ base) : Below w0.heap.size w0 w' := by
  obtain ⟨s', -, a2, -⟩ := h
  exact a2.below hb fun b hf => Nat.le_trans hB (p.foot hf).1
theorem Pair.two {w0 w1 : World} (h1 : PAt w0 base P1 s1 m1) (h2 : PAt w1 w0.heap.size P2 s2 m2) (hb : Below w0.heap.size w0 w1) (hB : base ≤ w0.heap.size) : Pair w1 base P1 s1 m1 P2 s2 m2 :=
  ⟨h1.keep hb, h2.mono hB, fun b k1 k2 => by have a := (h1.foot k1).2; have c := (h2.foot k2).1; omega⟩
end
theorem new_facts {text tape mem : List Int} {ent : Int} (hE : newE text tape mem ent = 0) (hR : ∀ i, i < text.length → 0 ≤ nth text i ∧ nth text i < 4294967296) : Fine (newM text tape mem ent) ∧ (newM text tape mem ent).steps = 0 ∧ (newM text tape mem ent).status = 0 := by
  have h1 : (checkI text mem.length ent).1 = 0 := by
    unfold newE at hE
    split at hE
    · assumption
    · exact hE
  have h2 : ¬ 4096 < tape.length := by
    intro h
    unfold newE at hE
    rw [if_pos h1, if_pos h] at hE
    cases hE
  have hp := (check_mayI h1).past
  have := hp.len
  have := hp.ent1
  exact ⟨newM_fine hR hp.len hp.pos (by omega) hp.mem (by omega), rfl, rfl⟩
theorem run_to {w : World} {base P : Nat} {s : Loc} {m m' : Mach} (h : PAt w base P s m) (hm : Fine m) (n D : Nat) (hN : m.steps + n < 1048576) (e : runM n m = m') (hD : m'.steps = m.steps + D) : Calls Try.prog 8 #[.pointer (some ⟨P, 0, none⟩), .int .i64 n] w fun e w' => e = .returned (.tuple #[.int .i64 D, .int .i8 m'.status]) ∧ NowP w base P s m' w' :=
  (run_any h hm n (by rw [Int.toNat_natCast]; exact hN)).mono fun r w' k => by
    obtain ⟨k1, k2⟩ := k
    rw [Int.toNat_natCast, e] at k1 k2
    refine ⟨?_, k2⟩
    have e2 : ((m'.steps : Int) - (m.steps : Int)) = (D : Int) := by rw [hD]; omega
    rw [k1, e2]
theorem splits_facts {m0 : Mach} (hF : Fine m0) (h0 : m0.steps = 0) (n0 n1 : Nat) : ∃ (M1 M : Mach) (A D : Nat), runM n0 m0 = M1 ∧ runM n1 M1 = M ∧ runM (n0 + n1) m0 = M ∧ M1.steps = A ∧ M.steps = A + D ∧ (Fine M1 ∧ Fine M) ∧ (M.status = 0 → A + D = n0 + n1) ∧ A ≤ n0 ∧ D ≤ n1 := by
  obtain ⟨-, a2, -⟩ := run_steps m0 n0
  obtain ⟨b1, b2, -⟩ := run_steps (runM n0 m0) n1
  obtain ⟨-, -, d3⟩ := run_steps m0 (n0 + n1)
  rw [← run_add] at b1 b2
  exact ⟨runM n0 m0, runM (n0 + n1) m0, (runM n0 m0).steps, (runM (n0 + n1) m0).steps - (runM n0 m0).steps, rfl, (run_add n0 n1 m0).symm, rfl, rfl, by omega, ⟨fine_run hF n0, fine_run hF (n0 + n1)⟩, fun h => by have := d3 h; omega, by omega, by omega⟩
/-- More than a statement looks at. -/
def muchB (text mem tape : List Int) : Bool := decide (32768 < text.length ∨ 16384 < mem.length ∨ 16384 < tape.length)
theorem much_any (A1 A2 A3 : Option Addr) (c1 c2 c3 : Nat) (ent : Int) (text mem tape : List Int) (w : World) : Calls Try.prog 5 #[.agg #[.slice A1 text.length c1, .int .i64 ent, .slice A2 mem.length c2], .slice A3 tape.length c3] w fun e w' => e = .returned (.bool (muchB text mem tape)) ∧ Below w.heap.size w w' := by
  have HE : Hid (∀ B : Bool, (B = true ↔ (32768 < text.length ∨ 16384 < mem.length ∨ 16384 < tape.length)) → B = muchB text mem tape) := fun B h => by
    unfold muchB
    rw [Bool.eq_iff_iff, h]
    simp
  by_cases h1 : 32768 < text.length
  · have h1' : (32768 : Int) < (text.length : Int) := by omega
    go_enter Try.func5, Try.ntmps5
    go_wp2
    go_ret
    exact ⟨retB (HE.out _ (by simp; omega)), lb_alloc (Below.refl _ _) _⟩
  by_cases h2 : 16384 < mem.length
  · have h1' : ¬ (32768 : Int) < (text.length : Int) := by omega
    have h2' : (16384 : Int) < (mem.length : Int) := by omega
    go_enter Try.func5, Try.ntmps5
    go_wp2
    go_ret
    exact ⟨retB (HE.out _ (by simp; omega)), lb_alloc (Below.refl _ _) _⟩
  by_cases h3 : 16384 < tape.length
  · have h1' : ¬ (32768 : Int) < (text.length : Int) := by omega
    have h2' : ¬ (16384 : Int) < (mem.length : Int) := by omega
    have h3' : (16384 : Int) < (tape.length : Int) := by omega
    go_enter Try.func5, Try.ntmps5
    go_wp2
    go_ret
    exact ⟨retB (HE.out _ (by simp; omega)), lb_alloc (Below.refl _ _) _⟩
  · have h1' : ¬ (32768 : Int) < (text.length : Int) := by omega
    have h2' : ¬ (16384 : Int) < (mem.length : Int) := by omega
    have h3' : ¬ (16384 : Int) < (tape.length : Int) := by omega
    go_enter Try.func5, Try.ntmps5
    go_wp2
    go_ret
    exact ⟨retB (HE.out _ (by simp; omega)), lb_alloc (Below.refl _ _) _⟩

end Go.Proofs.Ytdlcejpfjlpclaa

namespace Go.Proofs.Ytdlcejpfjlpclaa
open Go.RowKit

def wkT : List Int := [2281701378, 2818572288, 2558001152, 0]
def wkM : Mach := newM wkT [] [0] 0
theorem wk_new : newE wkT [] [0] 0 = 0 := by kernel_rfl
theorem wk_steps : (runM 10 wkM).steps = 3 := by kernel_rfl
theorem wk_status : (runM 10 wkM).status = 1 := by kernel_rfl
theorem wk_pc : (runM 10 wkM).pc = 1 := by kernel_rfl
theorem wk_v : wV (runM 10 wkM).regs 15 = 1 := by kernel_rfl
theorem wk_c : wC (runM 10 wkM).regs 15 = true := by kernel_rfl
theorem wk_in : ∀ i, i < wkT.length → 0 ≤ nth wkT i ∧ nth wkT i < 4294967296 := by
  intro i hi
  have : i = 0 ∨ i = 1 ∨ i = 2 ∨ i = 3 := by simp [wkT] at hi; omega
  rcases this with rfl | rfl | rfl | rfl <;> exact ⟨by decide, by decide⟩
theorem wk_fine : Fine wkM := newM_fine wk_in (by decide) (by decide) (by decide) (by decide) (by decide)
theorem wk_ints {w : World} {g : Nat} (h : w.heap[g]? = some (.cells #[.int .u32 2281701378, .int .u32 2818572288, .int .u32 2558001152, .int .u32 0] 54 (0, 0))) : IntsAt w (some ⟨g, 0, none⟩) .u32 wkT := by
  intro i hi
  refine ⟨⟨g, 0, none⟩, rfl, ?_⟩
  rw [add0]
  have : i = 0 ∨ i = 1 ∨ i = 2 ∨ i = 3 := by simp [wkT] at hi; omega
  rcases this with rfl | rfl | rfl | rfl <;> exact box_at h rfl
theorem wk_mem {w : World} {g : Nat} (h : w.heap[g]? = some (.cells #[.int .i64 0] 2 (0, 0))) : IntsAt w (some ⟨g, 0, none⟩) .i64 [0] := by
  intro i hi
  refine ⟨⟨g, 0, none⟩, rfl, ?_⟩
  rw [add0]
  have : i = 0 := by simp at hi; omega
  subst this
  exact box_at h rfl
set_option maxRecDepth 100000 in
set_option maxHeartbeats 4000000 in
theorem works_any (w : World) : Calls Try.prog 6 #[] w fun e w' => e = .returned (.bool true) ∧ Below w.heap.size w w' := by
  obtain ⟨W, HW⟩ : ∃ W, Hid (((w.alloc (.cells #[.int .u32 2281701378, .int .u32 2818572288, .int .u32 2558001152, .int .u32 0] 54)).alloc (.cells #[.int .i64 0] 2)).alloc (.cells #[.slice (some ⟨w.heap.size, 0, none⟩) 4 4, .int .i64 0, .slice (some ⟨w.heap.size + 1, 0, none⟩) 1 1] 25) = W) := ⟨_, rfl⟩
  have HB : Hid (Below w.heap.size w W) := by unfold Hid; rw [← HW.out]; exact lb_alloc (lb_alloc (lb_alloc (Below.refl _ _) _) _) _
  have h1 : W.heap[w.heap.size]? = some (.cells #[.int .u32 2281701378, .int .u32 2818572288, .int .u32 2558001152, .int .u32 0] 54 (0, 0)) := by rw [← HW.out]; exact oldAt (oldAt (newAt rfl))
  have h2 : W.heap[w.heap.size + 1]? = some (.cells #[.int .i64 0] 2 (0, 0)) := by rw [← HW.out]; exact oldAt (newAt (by simp))
  have h3 : W.heap[w.heap.size + 2]? = some (.cells #[.slice (some ⟨w.heap.size, 0, none⟩) 4 4, .int .i64 0, .slice (some ⟨w.heap.size + 1, 0, none⟩) 1 1] 25 (0, 0)) := by rw [← HW.out]; exact newAt (by simp)
  have x0 : W.cell? ⟨w.heap.size + 2, 0, none⟩ = some (.slice (some ⟨w.heap.size, 0, none⟩) 4 4) := box_at h3 rfl
  have x1 : W.cell? ⟨w.heap.size + 2, 1, none⟩ = some (.int .i64 0) := box_at h3 rfl
  have x2 : W.cell? ⟨w.heap.size + 2, 2, none⟩ = some (.slice (some ⟨w.heap.size + 1, 0, none⟩) 1 1) := box_at h3 rfl
  have C1 := new_any (some ⟨w.heap.size, 0, none⟩) (some ⟨w.heap.size + 1, 0, none⟩) none 4 1 0 0 wkT [0] [] W (wk_ints h1) (wk_mem h2) (fun i hi => by simp at hi) wk_in (by decide) (by decide) (by simp) (fun _ => rfl)
  have C1 : Calls Try.prog 7 #[.agg #[.slice (some ⟨w.heap.size, 0, none⟩) 4 4, .int .i64 0, .slice (some ⟨w.heap.size + 1, 0, none⟩) 1 1], .slice none 0 0] W fun e w' => ∃ P s, e = .returned (.tuple #[.pointer (some ⟨P, 0, none⟩), .int .i64 0]) ∧ PAt w' W.heap.size P s wkM ∧ Below W.heap.size W w' := C1.mono fun e w' k => by
    rcases k.2 with k2 | ⟨-, P, s, e1, e2⟩
    · exact absurd wk_new k2.1
    · exact ⟨P, s, e1, e2, k.1⟩
  clear h1 h2 h3
  go_enter Try.func6, Try.ntmps6
  go_upto_region 2 with fail
  rw [HW.out]
  clear HW
  go_wp2_with fail
  refine C1.mono ?_
  rintro e w1 ⟨P, s, rfl, hp, hb⟩
  have HB1 : Hid (Below w.heap.size w w1) := lb_trans HB.out hb
  have C2 := run_any hp wk_fine 10 (by decide)
  have HFt : Hid (∀ b, Foot s P b → w.heap.size ≤ b) := fun b hf => Nat.le_trans HB.out.size (hp.foot hf).1
  clear C1 x0 x1 x2 hp hb HB
  go_wp2_with fail
  refine C2.mono ?_
  rintro e w2 ⟨rfl, s2, hp, hu, hf⟩
  have e1 : (((runM (Int.toNat 10) wkM).steps : Int) - (wkM.steps : Int)) = 3 := by rw [show Int.toNat 10 = 10 from rfl, wk_steps]; rfl
  have e2 : (runM (Int.toNat 10) wkM).status = 1 := wk_status
  rw [e1, e2]
  have HB2 : Hid (Below w.heap.size w w2) := hu.below HB1.out HFt.out
  have hfr : Fine (runM (Int.toNat 10) wkM) := fine_run wk_fine 10
  have C3 := register_yes hp hfr 15 (by decide)
  have e3 : wV (runM (Int.toNat 10) wkM).regs 15 = 1 := wk_v
  have e4 : wC (runM (Int.toNat 10) wkM).regs 15 = true := wk_c
  rw [e3, e4] at C3
  clear e1 e2 e3 e4 hu hf C2 HB1 HFt
  go_wp2_with fail
  refine C3.mono ?_
  rintro e w3 ⟨rfl, hb⟩
  have hp3 := hp.keep hb
  have hp4 : PAt (w3.alloc (.cells #[.int .i64 1, .bool true] 47)) W.heap.size P s2 (runM (Int.toNat 10) wkM) := hp3.alloc _
  have C4 := at_yes hp4 hfr
  have e5 : (runM (Int.toNat 10) wkM).pc = 1 := wk_pc
  rw [e5] at C4
  have HB3 : Hid (Below w.heap.size w w3) := lb_trans HB2.out hb
  clear C3 hp hp3 hp4 hb e5
  go_wp2_with (first
    | (go_at_call 9; refine C4.mono ?_; rintro e w4 ⟨rfl, hw4⟩; have hw4 := hw4.symm; subst hw4))
  go_ret
  exact ⟨rfl, lb_alloc HB3.out _⟩

end Go.Proofs.Ytdlcejpfjlpclaa
