/-
  What the statements need of the program: Blocks and Behind of live, by what they answer. works, much and eq of the statements. Aim of the document.
-/
import Derived.Test.YtfnicgihpelhhaaGreatProg
import Derived.WalkKit
import Derived.WalkSpells
import Derived.WalkLawsBesides
import Derived.RowKit3
import Derived.Below
import Derived.Deep.QuietTactic
import Derived.BigQuiet
import Derived.WalkSmall
import Derived.Laws.Rows
import Derived.Test.YtfnicgihpelhhaaGreatPd20
import Derived.Test.YtfnicgihpelhhaaGreatPd32
import Derived.Test.YtfnicgihpelhhaaGreatPd04
import Derived.Test.YtfnicgihpelhhaaGreatPd17
import Derived.Test.YtfnicgihpelhhaaGreatPd07
import Derived.Test.YtfnicgihpelhhaaGreatPd16
namespace Go.Proofs.YtfnicgihpelhhaaGreat
open Go.RowKit

def SR (text : List Int) (ent : Int) (w : World) (e : Ending) (w' : World) : Prop := ∃ (A B : Option Addr) (c d : Nat) (F G : Int → Nat), e = .returned (.tuple #[.slice A (blkL text ent).length c, .slice B (blkL text ent).length d, .int .i64 0]) ∧ IntsAt w' A .u16 (setL F (blkL text ent).length) ∧ IntsAt w' B .u16 (setL G (blkL text ent).length) ∧ LstI text ent F G ∧ Below w.heap.size w w'
def SN (E : Int) (w : World) (e : Ending) (w' : World) : Prop := ∃ (A B : Option Addr) (c d : Nat), e = .returned (.tuple #[.slice A 0 c, .slice B 0 d, .int .i64 E]) ∧ Below w.heap.size w w'
def HR (text : List Int) (ent : Int) (w : World) (e : Ending) (w' : World) : Prop := ∃ (A : Option Addr) (c : Nat) (H : Int → Nat), e = .returned (.tuple #[.slice A text.length c, .int .i64 0]) ∧ IntsAt w' A .u16 (setL H text.length) ∧ BhI text ent H ∧ Below w.heap.size w w'
def HN (E : Int) (w : World) (e : Ending) (w' : World) : Prop := ∃ (A : Option Addr) (c : Nat), e = .returned (.tuple #[.slice A 0 c, .int .i64 E]) ∧ Below w.heap.size w w'
/-- Blocks, of an image that may be, and of one that may not. -/
structure BlocksOK : Prop where
  ok : ∀ (A1 A2 : Option Addr) (c1 ml c2 : Nat) (ent : Int) (text : List Int) (w : World), IntsAt w A1 .u32 text → (∀ i, i < text.length → 0 ≤ nth text i ∧ nth text i < 4294967296) → text.length ≤ c1 → text.length ≤ 1048576 → ml ≤ 1048576 → (checkI text ml ent).1 = 0 →
    Calls Tryz.prog 8 #[.agg #[.slice A1 text.length c1, .int .i64 ent, .slice A2 ml c2]] w (SR text ent w)
  no : ∀ (A1 A2 : Option Addr) (c1 ml c2 : Nat) (ent : Int) (text : List Int) (w : World), IntsAt w A1 .u32 text → (∀ i, i < text.length → 0 ≤ nth text i ∧ nth text i < 4294967296) → text.length ≤ c1 → text.length ≤ 1048576 → ml ≤ 1048576 → (checkI text ml ent).1 ≠ 0 →
    Calls Tryz.prog 8 #[.agg #[.slice A1 text.length c1, .int .i64 ent, .slice A2 ml c2]] w (SN (checkI text ml ent).1 w)
structure BehindOK : Prop where
  ok : ∀ (A1 A2 : Option Addr) (c1 ml c2 : Nat) (ent : Int) (text : List Int) (w : World), IntsAt w A1 .u32 text → (∀ i, i < text.length → 0 ≤ nth text i ∧ nth text i < 4294967296) → text.length ≤ c1 → text.length ≤ 1048576 → ml ≤ 1048576 → (checkI text ml ent).1 = 0 →
    Calls Tryz.prog 10 #[.agg #[.slice A1 text.length c1, .int .i64 ent, .slice A2 ml c2]] w (HR text ent w)
  no : ∀ (A1 A2 : Option Addr) (c1 ml c2 : Nat) (ent : Int) (text : List Int) (w : World), IntsAt w A1 .u32 text → (∀ i, i < text.length → 0 ≤ nth text i ∧ nth text i < 4294967296) → text.length ≤ c1 → text.length ≤ 1048576 → ml ≤ 1048576 → (checkI text ml ent).1 ≠ 0 →
    Calls Tryz.prog 10 #[.agg #[.slice A1 text.length c1, .int .i64 ent, .slice A2 ml c2]] w (HN (checkI text ml ent).1 w)
theorem own_cap {w : World} {base n c : Nat} {e : TypeId} {sz m : Nat} {A : Option Addr} {xs : List Value} (h : w.ownsRow base e sz (.slice A m c) n xs) : n ≤ c := by
  rcases h.2 with ⟨_, h0⟩ | ⟨g, cap, cur, hv, _, _, hc, _⟩
  · omega
  · cases hv; exact hc


end Go.Proofs.YtfnicgihpelhhaaGreat

namespace Go.Proofs.YtfnicgihpelhhaaGreat
open Go.RowKit

set_option maxRecDepth 100000 in
set_option maxHeartbeats 2000000 in
theorem eqsets_same (A B : Option Addr) (ca cb n : Nat) (F : Int → Nat) (w : World) (hA : IntsAt w A .u16 (setL F n)) (hB : IntsAt w B .u16 (setL F n)) (hn : n ≤ 65536) :
    Calls Tryz.prog 12 #[.slice A n ca, .slice B n cb] w fun e w' => e = .returned (.bool true) ∧ Below w.heap.size w w' := by
  have HA : Hid (IntsAt w A .u16 (setL F n)) := hA
  have HB : Hid (IntsAt w B .u16 (setL F n)) := hB
  clear hA hB
  go_enter Tryz.func12, Tryz.ntmps12
  go_wp2
  go_loopw [5] (fun i wr => ∃ k : Nat, i = .int .i64 k ∧ k ≤ n ∧ Hid (Below w.heap.size w wr)) (fun i _ => n - (intOf i).toNat)
  case atStart => exact ⟨0, rfl, Nat.zero_le _, Below.refl _ _⟩
  case round =>
    obtain ⟨k, rfl, hk, HW⟩ := hrel
    by_cases hlt : k < n
    · have hlt' : (k : Int) < (n : Int) := by omega
      obtain ⟨a, ea, c1⟩ := (HA.out.keep HW.out) k (by rw [setL_len]; exact hlt)
      obtain ⟨b, eb, c2⟩ := (HB.out.keep HW.out) k (by rw [setL_len]; exact hlt)
      subst ea eb
      generalize nth (setL F n) k = t at *
      go_upto_region 6 with fail
      go_quiet (fail)
      go_wp2
      go_roundw
      case rel => exact ⟨k + 1, by go_num, by omega, below_drewN HW.out _⟩
      case measure => simp [intOf]; omega
    · obtain rfl : k = n := by omega
      go_wp2
      go_ret
      exact ⟨rfl, HW.out⟩
def wkT : List Int := [142606341, 285736960, 1880096768, 2818572288]
theorem wk_in : ∀ i, i < wkT.length → 0 ≤ nth wkT i ∧ nth wkT i < 4294967296 := by
  intro i hi
  have : i = 0 ∨ i = 1 ∨ i = 2 ∨ i = 3 := by simp [wkT] at hi; omega
  rcases this with rfl | rfl | rfl | rfl <;> exact ⟨by decide, by decide⟩
theorem wbox_at {w : World} {g : Nat} {cs : Array Value} {t : TypeId} (h : w.heap[g]? = some (.cells cs t (0, 0))) {i : Nat} {v : Value} (hv : cs[i]? = some v) : w.cell? ⟨g, i, none⟩ = some v := by
  simp [World.cell?, h, hv]
theorem wk_ints {w : World} {g : Nat} (h : w.heap[g]? = some (.cells #[.int .u32 142606341, .int .u32 285736960, .int .u32 1880096768, .int .u32 2818572288] 45 (0, 0))) : IntsAt w (some ⟨g, 0, none⟩) .u32 wkT := by
  intro i hi
  refine ⟨⟨g, 0, none⟩, rfl, ?_⟩
  rw [add0]
  have : i = 0 ∨ i = 1 ∨ i = 2 ∨ i = 3 := by simp [wkT] at hi; omega
  rcases this with rfl | rfl | rfl | rfl <;> exact wbox_at h rfl
theorem wk_chk : checkI wkT 0 0 = (0, 0) := by kernel_rfl
theorem wk_beh {H : Int → Nat} (h : BhI wkT 0 H) : H (0 : Nat) = 2 ∧ H (1 : Nat) = 4 ∧ H (2 : Nat) = 0 ∧ H (3 : Nat) = 0 := by
  obtain ⟨F, G, h1, h2⟩ := h
  have hl : (blkL wkT 0).length = 1 := by kernel_rfl
  have hA : rAt (blkL wkT 0) 0 = 0 := by kernel_rfl
  have hS : rSym (blkL wkT 0) 0 = 4 := by kernel_rfl
  have hE : rowZ (edgT wkT 0 (blkL wkT 0).length) 0 = [] := by kernel_rfl
  have hG : G ((0 : Nat) : Int) = 0 := by
    have := h1.sol.out 0 (by omega)
    rw [hE] at this
    exact this
  have k := h2 0 (by omega)
  rw [hA, hS, hG] at k
  refine ⟨?_, ?_, ?_, ?_⟩
  · rw [k 0 (by omega) (by omega)]; kernel_rfl
  · rw [k 1 (by omega) (by omega)]; kernel_rfl
  · rw [k 2 (by omega) (by omega)]; kernel_rfl
  · rw [k 3 (by omega) (by omega)]; kernel_rfl
set_option maxRecDepth 100000 in
set_option maxHeartbeats 2000000 in
theorem works_any (HE : BehindOK) (w : World) : Calls Tryz.prog 6 #[] w fun e w' => e = .returned (.bool true) ∧ Below w.heap.size w w' := by
  obtain ⟨W, HW⟩ : ∃ W, Hid ((w.alloc (.cells #[.int .u32 142606341, .int .u32 285736960, .int .u32 1880096768, .int .u32 2818572288] 45)).alloc (.cells #[.slice (some ⟨w.heap.size, 0, none⟩) 4 4, .int .i64 0, .slice none 0 0] 25) = W) := ⟨_, rfl⟩
  have HB : Hid (Below w.heap.size w W) := by unfold Hid; rw [← HW.out]; exact lb_alloc (lb_alloc (Below.refl _ _) _) _
  have h1 : W.heap[w.heap.size]? = some (.cells #[.int .u32 142606341, .int .u32 285736960, .int .u32 1880096768, .int .u32 2818572288] 45 (0, 0)) := by rw [← HW.out]; exact old_at (new_at rfl)
  have h3 : W.heap[w.heap.size + 1]? = some (.cells #[.slice (some ⟨w.heap.size, 0, none⟩) 4 4, .int .i64 0, .slice none 0 0] 25 (0, 0)) := by rw [← HW.out]; exact new_at (by simp)
  have x0 : W.cell? ⟨w.heap.size + 1, 0, none⟩ = some (.slice (some ⟨w.heap.size, 0, none⟩) 4 4) := wbox_at h3 rfl
  have x1 : W.cell? ⟨w.heap.size + 1, 1, none⟩ = some (.int .i64 0) := wbox_at h3 rfl
  have x2 : W.cell? ⟨w.heap.size + 1, 2, none⟩ = some (.slice none 0 0) := wbox_at h3 rfl
  have C1 := HE.ok (some ⟨w.heap.size, 0, none⟩) none 4 0 0 0 wkT W (wk_ints h1) wk_in (by decide) (by decide) (by decide) (by rw [wk_chk])
  have C1 : Calls Tryz.prog 10 #[.agg #[.slice (some ⟨w.heap.size, 0, none⟩) 4 4, .int .i64 0, .slice none 0 0]] W (HR wkT 0 W) := C1
  clear h1 h3
  go_enter Tryz.func6, Tryz.ntmps6
  go_upto_region 2 with fail
  rw [HW.out]
  clear HW
  go_wp2_with fail
  refine C1.mono ?_
  rintro e w1 ⟨A, c, H, rfl, hz, hh, hb1⟩
  have HB1 : Hid (Below w.heap.size w w1) := lb_trans HB.out hb1
  obtain ⟨e0, e1, e2, e3⟩ := wk_beh hh
  obtain ⟨a, ea, q0⟩ := hz 0 (by rw [setL_len]; decide)
  obtain ⟨a1, ea1, q1⟩ := hz 1 (by rw [setL_len]; decide)
  obtain ⟨a2, ea2, q2⟩ := hz 2 (by rw [setL_len]; decide)
  obtain ⟨a3, ea3, q3⟩ := hz 3 (by rw [setL_len]; decide)
  rw [ea] at ea1 ea2 ea3
  obtain rfl := Option.some.inj ea1
  obtain rfl := Option.some.inj ea2
  obtain rfl := Option.some.inj ea3
  subst ea
  rw [setL_nth (by decide), e0] at q0
  rw [setL_nth (by decide), e1] at q1
  rw [setL_nth (by decide), e2] at q2
  rw [setL_nth (by decide), e3] at q3
  have q0 : w1.cell? a = some (.int .u16 2) := q0
  have q1 : w1.cell? ⟨a.block, a.off + 1, none⟩ = some (.int .u16 4) := q1
  have q2 : w1.cell? ⟨a.block, a.off + 2, none⟩ = some (.int .u16 0) := q2
  have q3 : w1.cell? ⟨a.block, a.off + 3, none⟩ = some (.int .u16 0) := q3
  clear hz hh hb1 x0 x1 x2 C1 HB e0 e1 e2 e3
  have hwl : wkT.length = 4 := rfl
  rw [hwl]
  go_wp2
  go_ret
  exact ⟨rfl, HB1.out⟩
def muchB (text mem : List Int) : Bool := decide (600 < text.length) || decide (16384 < mem.length)
theorem much_any (A1 A2 : Option Addr) (c1 c2 : Nat) (ent : Int) (text mem : List Int) (w : World) :
    Calls Tryz.prog 5 #[.agg #[.slice A1 text.length c1, .int .i64 ent, .slice A2 mem.length c2]] w fun e w' => e = .returned (.bool (muchB text mem)) ∧ Below w.heap.size w w' := by
  unfold muchB
  by_cases h1 : 600 < text.length
  · rw [decide_eq_true h1]
    have h1' : (600 : Int) < (text.length : Int) := by omega
    go_enter Tryz.func5, Tryz.ntmps5
    go_wp2
    go_ret
    exact ⟨rfl, lb_alloc (Below.refl _ _) _⟩
  · rw [decide_eq_false h1]
    have h1' : decide ((600 : Int) < (text.length : Int)) = false := decide_eq_false (by omega)
    have h1'' : ¬ (600 : Int) < (text.length : Int) := by omega
    by_cases h2 : 16384 < mem.length
    · rw [decide_eq_true h2]
      have h2' : (16384 : Int) < (mem.length : Int) := by omega
      go_enter Tryz.func5, Tryz.ntmps5
      go_wp2
      go_ret
      exact ⟨by simp, lb_alloc (Below.refl _ _) _⟩
    · rw [decide_eq_false h2]
      have h2' : ¬ (16384 : Int) < (mem.length : Int) := by omega
      go_enter Tryz.func5, Tryz.ntmps5
      go_wp2
      go_ret
      exact ⟨by simp, lb_alloc (Below.refl _ _) _⟩


end Go.Proofs.YtfnicgihpelhhaaGreat

namespace Go.Proofs.YtfnicgihpelhhaaGreat
open Go.RowKit

theorem refaim_any (v p : Int) (h0 : 0 ≤ v) (h1 : v < 4294967296) (w : World) : Calls Tryz.prog 17 #[.int .u32 v, .int .i64 p] w fun e w' => e = .returned (.tuple #[.int .u32 (aimV v p), .int .i64 (aimE v p)]) ∧ Below w.heap.size w w' := by
  have CE : ∀ wx : World, Calls Tryz.prog 20 #[.int .u32 v] wx fun e w' => e = .returned (.agg #[.int .i8 (dOp v), .int .i8 (dD v), .int .i8 (dA v), .int .i8 (dB v), .int .i64 (dN v)]) ∧ Below wx.heap.size wx w' := fun wx => refdecode_any v h0 h1 wx
  have CT : ∀ wx : World, Calls Tryz.prog 16 #[.int .u32 v] wx fun e w' => e = .returned (.tuple #[.int .i64 (tgV v), .bool (isT v)]) ∧ Below wx.heap.size wx w' := fun wx => reftarget_any v h0 h1 wx
  unfold aimV aimE
  cases hT : isT v with
  | false =>
    rw [hT] at CT
    clear hT
    go_enter Tryz.func17, Tryz.ntmps17
    go_wp2_with (go_at_call 16; refine (CT _).mono ?_; rintro e w1 ⟨rfl, hb⟩)
    go_ret2
    exact ⟨rfl, hb⟩
  | true =>
    rw [hT] at CT
    clear hT
    by_cases hp0 : p < 0
    · have e : decide (0 ≤ p ∧ p < 16384) = false := decide_eq_false (by omega)
      rw [e]
      clear e
      go_enter Tryz.func17, Tryz.ntmps17
      go_wp2_with (go_at_call 16; refine (CT _).mono ?_; rintro e w1 ⟨rfl, hb⟩)
      go_ret2
      exact ⟨rfl, hb⟩
    by_cases hp1 : 16384 ≤ p
    · have e : decide (0 ≤ p ∧ p < 16384) = false := decide_eq_false (by omega)
      rw [e]
      clear e
      go_enter Tryz.func17, Tryz.ntmps17
      go_wp2_with (go_at_call 16; refine (CT _).mono ?_; rintro e w1 ⟨rfl, hb⟩)
      go_ret2
      exact ⟨rfl, hb⟩
    · have e : decide (0 ≤ p ∧ p < 16384) = true := decide_eq_true (by omega)
      rw [e]
      clear e
      go_enter Tryz.func17, Tryz.ntmps17
      go_wp2_with (first | (go_at_call 16; refine (CT _).mono ?_; rintro e w1 ⟨rfl, hb⟩) | (go_at_call 20; refine (CE _).mono ?_; rintro e w2 ⟨rfl, hb2⟩) | (go_at_call 15; refine (refencode_any _ _ _ _ _ _).mono ?_; rintro e w3 ⟨rfl, hb3⟩))
      go_ret2
      exact ⟨rfl, bel_trans (bel_alloc (bel_trans hb hb2) _) hb3⟩


end Go.Proofs.YtfnicgihpelhhaaGreat
