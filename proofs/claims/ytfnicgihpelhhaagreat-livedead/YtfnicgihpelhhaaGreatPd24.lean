/-
  What a deed of the program's machine answers. Deeds of the program's machine: trap, set, jump, halt. Deeds of the program's machine: move. Deeds of the program's machine: call, calls, go, zero.
-/
import Derived.Test.YtfnicgihpelhhaaGreatProg
import Derived.WalkKit
import Derived.WalkSpells
import Derived.WalkLawsBesides
import Derived.RowKit3
import Derived.Below
import Derived.Deep.QuietTactic
import Derived.BigQuiet
import Derived.WalkSmall
import Derived.Laws.Rows
import Derived.Deep.RegionHeld3
import Derived.Laws.Pointers
import Derived.Outline
import Derived.StillTactics
import Derived.Test.YtfnicgihpelhhaaGreatPd22
namespace Go.Proofs.YtfnicgihpelhhaaGreat
open Go.RowKit

/-- A deed: it gives up, and nothing is other; or it tells the next place, and the machine is as r says. -/
def DidP (w : World) (base P : Nat) (s : Loc) (_m : Mach) (r : Did) (e : Ending) (w' : World) : Prop :=
  (¬ r.err = 0 ∧ e = stopM r.err ∧ Below w.heap.size w w') ∨ (r.err = 0 ∧ e = .returned (.int .i64 r.to) ∧ ∃ s', PAt w' base P s' r.m ∧ Upto (Foot s P) w w' ∧ ∀ b, Foot s' P b → Foot s P b ∨ w.heap.size ≤ b)
section
variable {w w' : World} {base P : Nat} {s : Loc} {m : Mach}
theorem did_no {f : Int} (hf : ¬ f = 0) (hb : Below w.heap.size w w') : DidP w base P s m (noD m f) (stopM f) w' := .inl ⟨hf, rfl, hb⟩
theorem did_yes {r : Did} {k : Int} (he : r.err = 0) (hk : k = r.to) (h : PAt w' base P s r.m) (hu : Upto (Foot s P) w w') : DidP w base P s m r (.returned (.int .i64 k)) w' := .inr ⟨he, by rw [hk], s, h, hu, fun _ hb => .inl hb⟩
theorem did_put {r : Nat} {x : Wd} {k : Int} (hk : k = (m.pc : Int) + 1) (h : PAt w' base P s (putM m r x)) (hu : Upto (Foot s P) w w') : DidP w base P s m (putD m r x) (.returned (.int .i64 k)) w' := did_yes rfl hk h hu
theorem wrap_pc {k : Nat} (h : k ≤ 16384) : IntKind.i64.wrap ((k : Int) + 1) = (k : Int) + 1 := by
  simp [IntKind.wrap, IntKind.signed, IntKind.bits]; omega
theorem have_wd {G : Prop} {w w1 : World} (p : Nat) (hb : Below w.heap.size w w1) (h : w.cell? ⟨p, 0, none⟩ = some (.int .i64 0) ∧ w.cell? ⟨p, 1, none⟩ = some (.bool false) ∧ w.frozen? ⟨p, 0, none⟩ = false ∧ w.frozen? ⟨p, 1, none⟩ = false) (k : w1.cell? ⟨p, 0, none⟩ = some (.int .i64 0) → w1.cell? ⟨p, 1, none⟩ = some (.bool false) → w1.frozen? ⟨p, 0, none⟩ = false → w1.frozen? ⟨p, 1, none⟩ = false → G) : G :=
  k (lkeep hb h.1) (lkeep hb h.2.1) ((hb.frozen (p := ⟨p, 0, none⟩) (World.block_lt_of_cell? w _ h.1)).trans h.2.2.1) ((hb.frozen (p := ⟨p, 1, none⟩) (World.block_lt_of_cell? w _ h.2.1)).trans h.2.2.2)
theorem lb_new {w w1 : World} {i : Nat} {v : Value} (h : Below w.heap.size w w1) : Below w.heap.size w (w1.setCell ⟨w.heap.size, i, none⟩ v) := h.setCell (p := ⟨w.heap.size, i, none⟩) (Nat.le_refl _) v
/-- The machine's box alone may be other, and of it the lists stand. -/
structure Near (P : Nat) (W0 W : World) : Prop where
  but : But P W0 W
  hdr : W.cell? ⟨P, 34, none⟩ = W0.cell? ⟨P, 34, none⟩
  tap : W.cell? ⟨P, 1, none⟩ = W0.cell? ⟨P, 1, none⟩
  tak : W.cell? ⟨P, 38, none⟩ = W0.cell? ⟨P, 38, none⟩
theorem Near.refl (P : Nat) (W : World) : Near P W W := ⟨But.refl _ _, rfl, rfl, rfl⟩
theorem Near.drew {P : Nat} {W0 W : World} (h : Near P W0 W) : Near P W0 W.drew := ⟨h.but, h.hdr, h.tap, h.tak⟩
theorem Near.trans {P : Nat} {a b c : World} (h : Near P a b) (k : Near P b c) : Near P a c := ⟨h.but.trans k.but, k.hdr.trans h.hdr, k.tap.trans h.tap, k.tak.trans h.tak⟩
theorem Near.below {P : Nat} {a b c : World} (h : Near P a b) (hb : Below b.heap.size b c) (hP : P < b.heap.size) : Near P a c := ⟨h.but.on hb, (hb.cell (p := ⟨P, 34, none⟩) hP).trans h.hdr, (hb.cell (p := ⟨P, 1, none⟩) hP).trans h.tap, (hb.cell (p := ⟨P, 38, none⟩) hP).trans h.tak⟩
theorem Near.box {P B i : Nat} {W0 W : World} {v : Value} (h : Near P W0 W) (hB : B ≠ P) (hc : W0.cell? ⟨B, i, none⟩ = some v) : W.cell? ⟨B, i, none⟩ = some v := h.but.cell (p := ⟨B, i, none⟩) hB hc
theorem Near.up {P : Nat} {W0 W : World} {s : Loc} (h : Near P W0 W) : Upto (Foot s P) W0 W := ⟨h.but.1, h.but.2.1, h.but.2.2.1, h.but.2.2.2.1, fun b hb hn => h.but.2.2.2.2 b hb (fun e => hn (.inl e))⟩
theorem put_near {base P : Nat} {s : Loc} {m : Mach} {w : World} (h : PAt w base P s m) (hm : Fine m) (r : Nat) (hr : r < 16) (x : Wd) : Calls Tryz.prog 115 #[.pointer (some ⟨P, 0, none⟩), .int .i8 r, .agg #[.int .i64 x.1, .bool x.2]] w fun e w' => e = .returned (.int .i64 ((m.pc : Int) + 1)) ∧ PAt w' base P s (putM m r x) ∧ Near P w w' := by
  have hq := ((h.put hm.sixteen hr x).alloc (.cells #[.int .i64 x.1, .bool x.2] 82)).drew
  obtain ⟨d0, d1⟩ := h.reg hm.sixteen hr
  obtain ⟨c0, c1, c34, c35, c36, c37, c38, c39⟩ := h.cells hm.sixteen
  have f0 := h.fro (2 + r * 2)
  have f1 := h.fro (2 + r * 2 + 1)
  have hP := h.lt
  have hpc := hm.pc
  have HC : Hid (w.cell? ⟨P, 34, none⟩ = some (.slice s.M m.mem.length s.mc) ∧ w.cell? ⟨P, 1, none⟩ = some (.slice s.X m.tape.length s.xc) ∧ w.cell? ⟨P, 38, none⟩ = some (.int .i64 m.taken)) := ⟨c34, c1, c38⟩
  have HN : Hid (But P w ((((w.setCell ⟨P, 2 + r * 2, none⟩ (.int .i64 x.1)).setCell ⟨P, 2 + r * 2 + 1, none⟩ (.bool x.2)).alloc (.cells #[.int .i64 x.1, .bool x.2] 82)).drew)) := (((But.refl P w).set _ _).set _ _).on (Below.drew (lb_alloc (Below.refl _ _) _))
  clear h
  go_enter Tryz.func115, Tryz.ntmps115
  go_wp2_with fail
  go_region
  all_goals (
    go_wp2
    go_ret
    obtain ⟨-, k1, k34, -, -, -, k38, -⟩ := hq.cells (m := putM m r x) (by simp [putM, hm.sixteen])
    exact ⟨rfl, hq, ⟨HN.out, k34.trans HC.out.1.symm, k1.trans HC.out.2.1.symm, k38.trans HC.out.2.2.symm⟩⟩)
theorem up_on {F : Nat → Prop} {w1 : World} (hb : Below w.heap.size w w1) (hu : Upto F w1 w') : Upto F w w' := (Upto.of hb).trans hu
end





end Go.Proofs.YtfnicgihpelhhaaGreat

namespace Go.Proofs.YtfnicgihpelhhaaGreat
open Go.RowKit

section
variable {w : World} {base P : Nat} {s : Loc} {m : Mach}
theorem trap_any (_h : PAt w base P s m) (op d a b n : Int) : Calls Tryz.prog 95 #[.pointer (some ⟨P, 0, none⟩), .agg #[.int .i8 op, .int .i8 d, .int .i8 a, .int .i8 b, .int .i64 n]] w (DidP w base P s m (noD m 2)) := by
  go_enter Tryz.func95, Tryz.ntmps95
  go_wp2
  exact ⟨rfl, did_no (by decide) (lb_alloc (Below.refl _ _) _)⟩
theorem jump_any (h : PAt w base P s m) (_hm : Fine m) (_hp : m.pc < 16384) {op d a b n : Int} (hi : InsIn op d a b n) (hq : op = 15) : Calls Tryz.prog 103 #[.pointer (some ⟨P, 0, none⟩), .agg #[.int .i8 op, .int .i8 d, .int .i8 a, .int .i8 b, .int .i64 n]] w (DidP w base P s m (goD m n)) := by
  have hn := (hi.pl (.inl hq)).1
  clear hq
  have h2 := h.alloc (.cells #[.int .i8 op, .int .i8 d, .int .i8 a, .int .i8 b, .int .i64 n] 50)
  go_enter Tryz.func103, Tryz.ntmps103
  go_wp2
  go_ret
  exact did_yes rfl (by simp [goD]; omega) h2 ((Upto.refl _ _).alloc _)
theorem halt_any (h : PAt w base P s m) (hm : Fine m) (_hp : m.pc < 16384) {op d a b n : Int} (_hi : InsIn op d a b n) : Calls Tryz.prog 109 #[.pointer (some ⟨P, 0, none⟩), .agg #[.int .i8 op, .int .i8 d, .int .i8 a, .int .i8 b, .int .i64 n]] w (DidP w base P s m (haltD m)) := by
  have h2 := (h.status hm.sixteen 1).alloc (.cells #[.int .i8 op, .int .i8 d, .int .i8 a, .int .i8 b, .int .i64 n] 50)
  obtain ⟨c0, c1, c34, c35, c36, c37, c38, c39⟩ := h.cells hm.sixteen
  have f9 := h.fro 39
  have hP := h.lt
  clear h
  go_enter Tryz.func109, Tryz.ntmps109
  go_wp2
  go_ret
  exact did_yes rfl rfl h2 (((Upto.refl _ _).set (Or.inl (Or.inl rfl)) _ _).alloc _)
theorem set_any (h : PAt w base P s m) (hm : Fine m) (_hp : m.pc < 16384) {op d a b n : Int} (hi : InsIn op d a b n) : Calls Tryz.prog 96 #[.pointer (some ⟨P, 0, none⟩), .agg #[.int .i8 op, .int .i8 d, .int .i8 a, .int .i8 b, .int .i64 n]] w (DidP w base P s m (putD m d (n, false))) := by
  have C1 := plain_any n
  obtain ⟨k, hk0⟩ := Int.eq_ofNat_of_zero_le hi.d0
  have hk : k < 16 := by have := hi.d1; omega
  subst hk0
  have C2 := fun (W : World) (h : PAt W base P s m) => put_any h hm k hk (n, false)
  have hP := h.lt
  go_enter Tryz.func96, Tryz.ntmps96
  go_wp2_with fail
  go_region_with (first
    | (go_at_call 37; refine (C1 _).mono ?_; rintro e w1 ⟨rfl, rfl⟩)
    | (go_at_call 115; refine (C2 _ (by repeat (first | assumption | apply PAt.drew | apply PAt.alloc))).mono ?_; rintro e w1 ⟨rfl, hq, hu⟩))
  all_goals (
    go_wp2
    go_ret
    exact did_put rfl hq (Upto.trans (by repeat (first | exact Upto.refl _ _ | apply Upto.drew | apply Upto.alloc)) hu))
theorem place_any (h : PAt w base P s m) (hm : Fine m) (_hp : m.pc < 16384) {op d a b n : Int} (hi : InsIn op d a b n) : Calls Tryz.prog 108 #[.pointer (some ⟨P, 0, none⟩), .agg #[.int .i8 op, .int .i8 d, .int .i8 a, .int .i8 b, .int .i64 n]] w (DidP w base P s m (putD m d (n, true))) := by
  have C1 := sealed_any n
  obtain ⟨k, hk0⟩ := Int.eq_ofNat_of_zero_le hi.d0
  have hk : k < 16 := by have := hi.d1; omega
  subst hk0
  have C2 := fun (W : World) (h : PAt W base P s m) => put_any h hm k hk (n, true)
  have hP := h.lt
  go_enter Tryz.func108, Tryz.ntmps108
  go_wp2_with fail
  go_region_with (first
    | (go_at_call 122; refine (C1 _).mono ?_; rintro e w1 ⟨rfl, rfl⟩)
    | (go_at_call 115; refine (C2 _ (by repeat (first | assumption | apply PAt.drew | apply PAt.alloc))).mono ?_; rintro e w1 ⟨rfl, hq, hu⟩))
  all_goals (
    go_wp2
    go_ret
    exact did_put rfl hq (Upto.trans (by repeat (first | exact Upto.refl _ _ | apply Upto.drew | apply Upto.alloc)) hu))
end





end Go.Proofs.YtfnicgihpelhhaaGreat

namespace Go.Proofs.YtfnicgihpelhhaaGreat
open Go.RowKit

section
variable {w : World} {base P : Nat} {s : Loc} {m : Mach}
theorem move_any (h : PAt w base P s m) (hm : Fine m) (_hp : m.pc < 16384) {op d a b n : Int} (hi : InsIn op d a b n) : Calls Tryz.prog 97 #[.pointer (some ⟨P, 0, none⟩), .agg #[.int .i8 op, .int .i8 d, .int .i8 a, .int .i8 b, .int .i64 n]] w (DidP w base P s m (putD m d (rV m a, rC m a))) := by
  obtain ⟨k, hk0⟩ := Int.eq_ofNat_of_zero_le hi.d0
  have hk : k < 16 := by have := hi.d1; omega
  obtain ⟨j, hj0⟩ := Int.eq_ofNat_of_zero_le hi.a0
  have hj : j < 16 := by have := hi.a1; omega
  subst hk0 hj0
  have C2 := fun (W : World) (h : PAt W base P s m) => put_any h hm k hk (wV m.regs j, wC m.regs j)
  obtain ⟨d0, d1⟩ := h.reg hm.sixteen hj
  have hP := h.lt
  go_enter Tryz.func97, Tryz.ntmps97
  go_wp2_with fail
  go_region_with (first
    | (go_at_call 115; refine (C2 _ (by repeat (first | assumption | apply PAt.drew | apply PAt.alloc))).mono ?_; rintro e w1 ⟨rfl, hq, hu⟩))
  all_goals (
    go_wp2
    go_ret
    exact did_put rfl hq (Upto.trans (by repeat (first | exact Upto.refl _ _ | apply Upto.drew | apply Upto.alloc)) hu))
end





end Go.Proofs.YtfnicgihpelhhaaGreat

namespace Go.Proofs.YtfnicgihpelhhaaGreat
open Go.RowKit

section
variable {w : World} {base P : Nat} {s : Loc} {m : Mach}
theorem link_any (h : PAt w base P s m) (hm : Fine m) : Calls Tryz.prog 120 #[.pointer (some ⟨P, 0, none⟩)] w fun e w' => e = .returned (.tuple #[]) ∧ PAt w' base P s (linkM m) ∧ Upto (Foot s P) w w' := by
  have hq := h.put hm.sixteen (show 15 < 16 by omega) ((m.pc : Int) + 1, true)
  have C1 := sealed_any ((m.pc : Int) + 1)
  obtain ⟨d0, d1⟩ := h.reg hm.sixteen (show 15 < 16 by omega)
  obtain ⟨c0, c1, c34, c35, c36, c37, c38, c39⟩ := h.cells hm.sixteen
  have f0 := h.fro (2 + 15 * 2)
  have f1 := h.fro (2 + 15 * 2 + 1)
  simp only [Nat.reduceMul, Nat.reduceAdd] at d0 d1 f0 f1 hq
  have hP := h.lt
  have hpc := hm.pc
  have hwr : IntKind.i64.wrap ((m.pc : Int) + 1) = (m.pc : Int) + 1 := wrap_pc hpc
  clear h
  go_enter Tryz.func120, Tryz.ntmps120
  go_wp2_with fail
  go_region_with (first
    | (go_at_call 122; refine (C1 _).mono ?_; rintro e w1 ⟨rfl, rfl⟩))
  all_goals (
    try go_wp2
    go_end0
    exact ⟨rfl, (hq.alloc _).drew, ((((Upto.refl _ _).set (Or.inl (Or.inl rfl)) _ _).set (Or.inl (Or.inl rfl)) _ _).alloc _).drew⟩)
theorem call_any (h : PAt w base P s m) (hm : Fine m) (_hp : m.pc < 16384) {op d a b n : Int} (hi : InsIn op d a b n) (hq : op = 17) : Calls Tryz.prog 105 #[.pointer (some ⟨P, 0, none⟩), .agg #[.int .i8 op, .int .i8 d, .int .i8 a, .int .i8 b, .int .i64 n]] w (DidP w base P s m (callD m n)) := by
  have hn := (hi.pl (.inr (.inr (.inl hq)))).1
  clear hq
  have C := link_any (h.alloc (.cells #[.int .i8 op, .int .i8 d, .int .i8 a, .int .i8 b, .int .i64 n] 50)) hm
  have hP := h.lt
  go_enter Tryz.func105, Tryz.ntmps105
  go_wp2_with fail
  refine C.mono ?_
  rintro e w1 ⟨rfl, h1, hu⟩
  have x4 : w1.cell? ⟨w.heap.size, 4, none⟩ = some (.int .i64 n) := by
    rw [World.cell?_of_block (hu.block _ (by simp) (fun hf => by have := (h.foot hf).2; simp at this))]
    simp [go_sem]
  clear C h
  go_wp2
  go_ret
  exact did_yes rfl (by simp [callD]; omega) h1 (up_on (lb_alloc (Below.refl _ _) _) hu)
theorem goto_any (h : PAt w base P s m) (hm : Fine m) (_hp : m.pc < 16384) {op d a b n : Int} (hi : InsIn op d a b n) : Calls Tryz.prog 107 #[.pointer (some ⟨P, 0, none⟩), .agg #[.int .i8 op, .int .i8 d, .int .i8 a, .int .i8 b, .int .i64 n]] w (DidP w base P s m (gotoD m a)) := by
  obtain ⟨j, hj0⟩ := Int.eq_ofNat_of_zero_le hi.a0
  have hj : j < 16 := by have := hi.a1; omega
  subst hj0
  by_cases hc : wC m.regs j = true
  · have C := goal_yes (h.alloc (.cells #[.int .i8 op, .int .i8 d, .int .i8 j, .int .i8 b, .int .i64 n] 50)) hm j hj hc
    have hv := (hm.regs j hc).1
    have e0 : gotoD m j = goD m (wV m.regs j) := by unfold gotoD; rw [if_pos (show rC m j = true from hc)]; rfl
    rw [e0]
    have hP := h.lt
    go_enter Tryz.func107, Tryz.ntmps107
    go_wp2_with fail
    refine C.mono ?_
    rintro e w1 ⟨rfl, hb⟩
    go_wp2
    go_ret
    exact did_yes rfl (by simp [goD]; omega) ((h.alloc _).keep hb) (Upto.of (lb_trans (lb_alloc (Below.refl _ _) _) hb))
  · have hc : wC m.regs j = false := by simpa using hc
    have C := goal_no (h.alloc (.cells #[.int .i8 op, .int .i8 d, .int .i8 j, .int .i8 b, .int .i64 n] 50)) hm j hj hc
    have e0 : gotoD m j = noD m 4 := by unfold gotoD; rw [if_neg (by show ¬ wC m.regs j = true; rw [hc]; decide)]
    rw [e0]
    go_enter Tryz.func107, Tryz.ntmps107
    go_wp2_with fail
    refine C.mono ?_
    rintro e w1 ⟨rfl, hb⟩
    have HB : Hid (Below w.heap.size w w1) := lb_trans (lb_alloc (Below.refl _ _) _) hb
    unfold stopM
    go_wp2
    exact ⟨rfl, did_no (by decide) HB.out⟩
theorem calls_any (h : PAt w base P s m) (hm : Fine m) (_hp : m.pc < 16384) {op d a b n : Int} (hi : InsIn op d a b n) : Calls Tryz.prog 106 #[.pointer (some ⟨P, 0, none⟩), .agg #[.int .i8 op, .int .i8 d, .int .i8 a, .int .i8 b, .int .i64 n]] w (DidP w base P s m (callsD m a)) := by
  obtain ⟨j, hj0⟩ := Int.eq_ofNat_of_zero_le hi.a0
  have hj : j < 16 := by have := hi.a1; omega
  subst hj0
  by_cases hc : wC m.regs j = true
  · have C := goal_yes (h.alloc (.cells #[.int .i8 op, .int .i8 d, .int .i8 j, .int .i8 b, .int .i64 n] 50)) hm j hj hc
    have hv := (hm.regs j hc).1
    have e0 : callsD m j = callD m (wV m.regs j) := by unfold callsD; rw [if_pos (show rC m j = true from hc)]; rfl
    rw [e0]
    have hP := h.lt
    go_enter Tryz.func106, Tryz.ntmps106
    go_wp2_with fail
    refine C.mono ?_
    rintro e w1 ⟨rfl, hb⟩
    have C3 := link_any ((h.alloc _).keep hb) hm
    go_wp2_with fail
    refine C3.mono ?_
    rintro e w2 ⟨rfl, h1, hu⟩
    go_wp2
    go_ret
    exact did_yes rfl (by simp [callD]; omega) h1 (up_on (lb_trans (lb_alloc (Below.refl _ _) _) hb) hu)
  · have hc : wC m.regs j = false := by simpa using hc
    have C := goal_no (h.alloc (.cells #[.int .i8 op, .int .i8 d, .int .i8 j, .int .i8 b, .int .i64 n] 50)) hm j hj hc
    have e0 : callsD m j = noD m 4 := by unfold callsD; rw [if_neg (by show ¬ wC m.regs j = true; rw [hc]; decide)]
    rw [e0]
    go_enter Tryz.func106, Tryz.ntmps106
    go_wp2_with fail
    refine C.mono ?_
    rintro e w1 ⟨rfl, hb⟩
    have HB : Hid (Below w.heap.size w w1) := lb_trans (lb_alloc (Below.refl _ _) _) hb
    unfold stopM
    go_wp2
    exact ⟨rfl, did_no (by decide) HB.out⟩
theorem zero_any (h : PAt w base P s m) (hm : Fine m) (hp : m.pc < 16384) {op d a b n : Int} (hi : InsIn op d a b n) (hq : op = 16) : Calls Tryz.prog 104 #[.pointer (some ⟨P, 0, none⟩), .agg #[.int .i8 op, .int .i8 d, .int .i8 a, .int .i8 b, .int .i64 n]] w (DidP w base P s m (zeroD m a n)) := by
  obtain ⟨j, hj0⟩ := Int.eq_ofNat_of_zero_le hi.a0
  have hj : j < 16 := by have := hi.a1; omega
  subst hj0
  have hn := (hi.pl (.inr (.inl hq))).1
  clear hq
  obtain ⟨c0, c1, c34, c35, c36, c37, c38, c39⟩ := h.cells hm.sixteen
  have hpc := hm.pc
  have hP := h.lt
  by_cases hc : wC m.regs j = true
  · have C := number_no (h.alloc (.cells #[.int .i8 op, .int .i8 d, .int .i8 j, .int .i8 b, .int .i64 n] 50)) hm j hj hc
    have e0 : zeroD m j n = noD m 4 := by unfold zeroD; rw [if_pos (show rC m j = true from hc)]
    rw [e0]
    go_enter Tryz.func104, Tryz.ntmps104
    go_wp2_with fail
    refine C.mono ?_
    rintro e w1 ⟨rfl, hb⟩
    have HB : Hid (Below w.heap.size w w1) := lb_trans (lb_alloc (Below.refl _ _) _) hb
    unfold stopM
    go_wp2
    exact ⟨rfl, did_no (by decide) HB.out⟩
  · have hc : wC m.regs j = false := by simpa using hc
    have C := number_yes (h.alloc (.cells #[.int .i8 op, .int .i8 d, .int .i8 j, .int .i8 b, .int .i64 n] 50)) hm j hj hc
    have e0 : zeroD m j n = if wV m.regs j = 0 then goD m n else ⟨0, m, m.pc + 1⟩ := by unfold zeroD; rw [if_neg (by show ¬ wC m.regs j = true; rw [hc]; decide)]; rfl
    rw [e0]
    by_cases hz : wV m.regs j = 0
    · rw [if_pos hz]
      rw [hz] at C
      go_enter Tryz.func104, Tryz.ntmps104
      go_wp2_with fail
      refine C.mono ?_
      rintro e w1 ⟨rfl, hb⟩
      have x4 : w1.cell? ⟨w.heap.size, 4, none⟩ = some (.int .i64 n) := lkeep hb (by simp [go_sem])
      go_wp2
      go_ret
      exact did_yes rfl (by simp [goD]; omega) ((h.alloc _).keep hb) (Upto.of (lb_trans (lb_alloc (Below.refl _ _) _) hb))
    · rw [if_neg hz]
      have hz2 : (wV m.regs j == 0) = false := by simpa using hz
      go_enter Tryz.func104, Tryz.ntmps104
      go_wp2_with fail
      refine C.mono ?_
      rintro e w1 ⟨rfl, hb⟩
      have k36 : w1.cell? ⟨P, 36, none⟩ = some (.int .i64 m.pc) := ((h.alloc _).keep hb |>.cells hm.sixteen).2.2.2.2.1
      clear c0 c1 c34 c35 c36 c37 c38 c39
      go_wp2
      go_ret
      exact did_yes rfl rfl ((h.alloc _).keep hb) (Upto.of (lb_trans (lb_alloc (Below.refl _ _) _) hb))
end





end Go.Proofs.YtfnicgihpelhhaaGreat
