/-
  What a deed of the program's machine answers. The program's machine: an address. Deeds of the program's machine: load.
-/
import Derived.Test.YtgkdagnpefgjcaaGreatProg
import Derived.WalkKit
import Derived.WalkSpells
import Derived.WalkLawsBesides
import Derived.RowKit3
import Derived.Below
import Derived.Deep.QuietTactic
import Derived.BigQuiet
import Derived.WalkSmall
import Derived.Laws.Rows
import Derived.Deep.RegionHeld3
import Derived.Laws.Pointers
import Derived.Outline
import Derived.StillTactics
import Derived.Test.YtgkdagnpefgjcaaGreatPr27
import Derived.Deep.DeepCutAuto
import Derived.Deep.RegionLaw
namespace Go.Proofs.YtgkdagnpefgjcaaGreat
open Go.RowKit

/-- A deed: it gives up, and nothing is other; or it tells the next place, and the machine is as r says. -/
def DidP (w : World) (base P : Nat) (s : Loc) (_m : Mach) (r : Did) (e : Ending) (w' : World) : Prop :=
  (¬ r.err = 0 ∧ e = stopM r.err ∧ Below w.heap.size w w') ∨ (r.err = 0 ∧ e = .returned (.int .i64 r.to) ∧ ∃ s', PAt w' base P s' r.m ∧ Upto (Foot s P) w w' ∧ ∀ b, Foot s' P b → Foot s P b ∨ w.heap.size ≤ b)
section
variable {w w' : World} {base P : Nat} {s : Loc} {m : Mach}
theorem did_no {f : Int} (hf : ¬ f = 0) (hb : Below w.heap.size w w') : DidP w base P s m (noD m f) (stopM f) w' := .inl ⟨hf, rfl, hb⟩
theorem did_yes {r : Did} {k : Int} (he : r.err = 0) (hk : k = r.to) (h : PAt w' base P s r.m) (hu : Upto (Foot s P) w w') : DidP w base P s m r (.returned (.int .i64 k)) w' := .inr ⟨he, by rw [hk], s, h, hu, fun _ hb => .inl hb⟩
theorem did_put {r : Nat} {x : Wd} {k : Int} (hk : k = (m.pc : Int) + 1) (h : PAt w' base P s (putM m r x)) (hu : Upto (Foot s P) w w') : DidP w base P s m (putD m r x) (.returned (.int .i64 k)) w' := did_yes rfl hk h hu
theorem wrap_pc {k : Nat} (h : k ≤ 16384) : IntKind.i64.wrap ((k : Int) + 1) = (k : Int) + 1 := by
  simp [IntKind.wrap, IntKind.signed, IntKind.bits]; omega
theorem have_wd {G : Prop} {w w1 : World} (p : Nat) (hb : Below w.heap.size w w1) (h : w.cell? ⟨p, 0, none⟩ = some (.int .i64 0) ∧ w.cell? ⟨p, 1, none⟩ = some (.bool false) ∧ w.frozen? ⟨p, 0, none⟩ = false ∧ w.frozen? ⟨p, 1, none⟩ = false) (k : w1.cell? ⟨p, 0, none⟩ = some (.int .i64 0) → w1.cell? ⟨p, 1, none⟩ = some (.bool false) → w1.frozen? ⟨p, 0, none⟩ = false → w1.frozen? ⟨p, 1, none⟩ = false → G) : G :=
  k (lkeep hb h.1) (lkeep hb h.2.1) ((hb.frozen (p := ⟨p, 0, none⟩) (World.block_lt_of_cell? w _ h.1)).trans h.2.2.1) ((hb.frozen (p := ⟨p, 1, none⟩) (World.block_lt_of_cell? w _ h.2.1)).trans h.2.2.2)
theorem lb_new {w w1 : World} {i : Nat} {v : Value} (h : Below w.heap.size w w1) : Below w.heap.size w (w1.setCell ⟨w.heap.size, i, none⟩ v) := h.setCell (p := ⟨w.heap.size, i, none⟩) (Nat.le_refl _) v
/-- The machine's box alone may be other, and of it the lists stand. -/
structure Near (P : Nat) (W0 W : World) : Prop where
  but : But P W0 W
  hdr : W.cell? ⟨P, 34, none⟩ = W0.cell? ⟨P, 34, none⟩
  tap : W.cell? ⟨P, 1, none⟩ = W0.cell? ⟨P, 1, none⟩
  tak : W.cell? ⟨P, 38, none⟩ = W0.cell? ⟨P, 38, none⟩
theorem Near.refl (P : Nat) (W : World) : Near P W W := ⟨But.refl _ _, rfl, rfl, rfl⟩
theorem Near.drew {P : Nat} {W0 W : World} (h : Near P W0 W) : Near P W0 W.drew := ⟨h.but, h.hdr, h.tap, h.tak⟩
theorem Near.trans {P : Nat} {a b c : World} (h : Near P a b) (k : Near P b c) : Near P a c := ⟨h.but.trans k.but, k.hdr.trans h.hdr, k.tap.trans h.tap, k.tak.trans h.tak⟩
theorem Near.below {P : Nat} {a b c : World} (h : Near P a b) (hb : Below b.heap.size b c) (hP : P < b.heap.size) : Near P a c := ⟨h.but.on hb, (hb.cell (p := ⟨P, 34, none⟩) hP).trans h.hdr, (hb.cell (p := ⟨P, 1, none⟩) hP).trans h.tap, (hb.cell (p := ⟨P, 38, none⟩) hP).trans h.tak⟩
theorem Near.box {P B i : Nat} {W0 W : World} {v : Value} (h : Near P W0 W) (hB : B ≠ P) (hc : W0.cell? ⟨B, i, none⟩ = some v) : W.cell? ⟨B, i, none⟩ = some v := h.but.cell (p := ⟨B, i, none⟩) hB hc
theorem Near.up {P : Nat} {W0 W : World} {s : Loc} (h : Near P W0 W) : Upto (Foot s P) W0 W := ⟨h.but.1, h.but.2.1, h.but.2.2.1, h.but.2.2.2.1, fun b hb hn => h.but.2.2.2.2 b hb (fun e => hn (.inl e))⟩
theorem put_near {base P : Nat} {s : Loc} {m : Mach} {w : World} (h : PAt w base P s m) (hm : Fine m) (r : Nat) (hr : r < 16) (x : Wd) : Calls Tryz.prog 70 #[.pointer (some ⟨P, 0, none⟩), .int .i8 r, .agg #[.int .i64 x.1, .bool x.2]] w fun e w' => e = .returned (.int .i64 ((m.pc : Int) + 1)) ∧ PAt w' base P s (putM m r x) ∧ Near P w w' := by
  have hq := ((h.put hm.sixteen hr x).alloc (.cells #[.int .i64 x.1, .bool x.2] 65)).drew
  obtain ⟨d0, d1⟩ := h.reg hm.sixteen hr
  obtain ⟨c0, c1, c34, c35, c36, c37, c38, c39⟩ := h.cells hm.sixteen
  have f0 := h.fro (2 + r * 2)
  have f1 := h.fro (2 + r * 2 + 1)
  have hP := h.lt
  have hpc := hm.pc
  have HC : Hid (w.cell? ⟨P, 34, none⟩ = some (.slice s.M m.mem.length s.mc) ∧ w.cell? ⟨P, 1, none⟩ = some (.slice s.X m.tape.length s.xc) ∧ w.cell? ⟨P, 38, none⟩ = some (.int .i64 m.taken)) := ⟨c34, c1, c38⟩
  have HN : Hid (But P w ((((w.setCell ⟨P, 2 + r * 2, none⟩ (.int .i64 x.1)).setCell ⟨P, 2 + r * 2 + 1, none⟩ (.bool x.2)).alloc (.cells #[.int .i64 x.1, .bool x.2] 65)).drew)) := (((But.refl P w).set _ _).set _ _).on (Below.drew (lb_alloc (Below.refl _ _) _))
  clear h
  go_enter Tryz.func70, Tryz.ntmps70
  go_wp2_with fail
  go_region
  all_goals (
    go_wp2
    go_ret
    obtain ⟨-, k1, k34, -, -, -, k38, -⟩ := hq.cells (m := putM m r x) (by simp [putM, hm.sixteen])
    exact ⟨rfl, hq, ⟨HN.out, k34.trans HC.out.1.symm, k1.trans HC.out.2.1.symm, k38.trans HC.out.2.2.symm⟩⟩)
theorem up_on {F : Nat → Prop} {w1 : World} (hb : Below w.heap.size w w1) (hu : Upto F w1 w') : Upto F w w' := (Upto.of hb).trans hu
end



end Go.Proofs.YtgkdagnpefgjcaaGreat

namespace Go.Proofs.YtgkdagnpefgjcaaGreat
open Go.RowKit

section
variable {w : World} {base P : Nat} {s : Loc} {m : Mach}
def AddrP (E V : Int) (w : World) (e : Ending) (w' : World) : Prop := ((E = 0 ∧ e = .returned (.int .i64 V)) ∨ (¬ E = 0 ∧ e = stopM E)) ∧ Below w.heap.size w w'
set_option maxHeartbeats 1000000 in
theorem address_any (h : PAt w base P s m) (hm : Fine m) {op d b n : Int} {j : Nat} (hj : j < 16) : Calls Tryz.prog 73 #[.pointer (some ⟨P, 0, none⟩), .agg #[.int .i8 op, .int .i8 d, .int .i8 j, .int .i8 b, .int .i64 n]] w (AddrP (aE m j n) (aV m j n) w) := by
  have zj : (0 : Int) ≤ (j : Int) := Int.natCast_nonneg _
  have yj : (j : Int) < 16 := by omega
  obtain ⟨W0, HW⟩ : ∃ W0, Hid (w.alloc (.cells #[.int .i8 op, .int .i8 d, .int .i8 j, .int .i8 b, .int .i64 n] 72) = W0) := ⟨_, rfl⟩
  have x0 : W0.cell? ⟨w.heap.size, 0, none⟩ = some (.int .i8 op) := by rw [← HW.out]; simp [go_sem]
  have x1 : W0.cell? ⟨w.heap.size, 1, none⟩ = some (.int .i8 d) := by rw [← HW.out]; simp [go_sem]
  have x2 : W0.cell? ⟨w.heap.size, 2, none⟩ = some (.int .i8 j) := by rw [← HW.out]; simp [go_sem]
  have x3 : W0.cell? ⟨w.heap.size, 3, none⟩ = some (.int .i8 b) := by rw [← HW.out]; simp [go_sem]
  have x4 : W0.cell? ⟨w.heap.size, 4, none⟩ = some (.int .i64 n) := by rw [← HW.out]; simp [go_sem]
  have h0 : PAt W0 base P s m := by rw [← HW.out]; exact h.alloc _
  have HB0 : Hid (Below w.heap.size w W0) := by unfold Hid; rw [← HW.out]; exact lb_alloc (Below.refl _ _) _
  have hz0 : w.heap.size < W0.heap.size := by rw [← HW.out]; simp
  have hP := h.lt
  have hWW := Below.refl W0.heap.size W0
  obtain ⟨d0, d1⟩ := h0.reg hm.sixteen hj
  have hml := hm.mlen
  obtain ⟨c0, c1, c34, c35, c36, c37, c38, c39⟩ := h0.cells hm.sixteen
  have C1 := addr_any (wV m.regs j) n m.mem.length (wC m.regs j)
  have HE : Hid (addrE (wV m.regs j) n m.mem.length (wC m.regs j) = aE m j n) := rfl
  have HV : Hid (addrV (wV m.regs j) n m.mem.length (wC m.regs j) = aV m j n) := rfl
  rw [HE.out, HV.out] at C1
  clear HE HV
  generalize aV m j n = V at *
  generalize aE m j n = E at *
  go_enter Tryz.func73, Tryz.ntmps73
  go_upto_region 1 with fail
  rw [HW.out]
  clear HW
  go_cut [5, 6] (fun x y wx => x = .int .i64 V ∧ y = .int .i8 E ∧ Hid (Below W0.heap.size W0 wx))
  case first =>
    go_region_held3 (fun W => Below W0.heap.size W0 W ∧ W.cell? ⟨w.heap.size, 2, none⟩ = some (.int .i8 j) ∧ W.cell? ⟨w.heap.size, 4, none⟩ = some (.int .i64 n) ∧ W.cell? ⟨P, 2 + j * 2, none⟩ = some (.int .i64 (wV m.regs j)) ∧ W.cell? ⟨P, 2 + j * 2 + 1, none⟩ = some (.bool (wC m.regs j)) ∧ W.cell? ⟨P, 34, none⟩ = some (.slice s.M m.mem.length s.mc))
      (first | (refine ⟨?_, lkeep ?_ x2, lkeep ?_ x4, lkeep ?_ d0, lkeep ?_ d1, lkeep ?_ c34⟩ <;> ((repeat (first | assumption | exact (‹Below _ _ _ ∧ _›).1 | apply Below.drew | apply lb_alloc | apply lb_new | refine lb_trans ?_ hb)); done)))
      (first | (go_at_call 90; refine (C1 _).mono ?_; rintro e w1 ⟨rfl, rfl⟩))

    all_goals (
      rename_i hS
      have sB : Hid _ := hS.1
      clear hS
      go_wp2_with fail
      go_meet
      exact ⟨rfl, rfl, sB⟩)
  case rest =>
    obtain ⟨rfl, rfl, HBc⟩ := hcut
    have HB9 : Hid (Below w.heap.size w wc) := lb_trans HB0.out HBc.out
    clear x0 x1 x2 x3 x4 d0 d1 c0 c1 c34 c35 c36 c37 c38 c39 C1
    by_cases he : E = 0
    · subst he
      have C3 := raise_yes wc
      go_wp2_with (first
        | (go_at_call 72; refine C3.mono ?_; rintro e w1 ⟨rfl, rfl⟩))
      go_ret
      exact ⟨.inl ⟨rfl, rfl⟩, HB9.out⟩
    · have C3 := raise_no E he wc
      go_wp2_with fail
      refine C3.mono ?_
      rintro e w1 ⟨rfl, rfl⟩
      unfold stopM
      go_wp2
      exact ⟨rfl, .inr ⟨he, rfl⟩, HB9.out⟩
end



end Go.Proofs.YtgkdagnpefgjcaaGreat

namespace Go.Proofs.YtgkdagnpefgjcaaGreat
open Go.RowKit

section
variable {w : World} {base P : Nat} {s : Loc} {m : Mach}
theorem address_yes (h : PAt w base P s m) (hm : Fine m) {op d b n : Int} {j : Nat} (hj : j < 16) (he : aE m j n = 0) : Calls Tryz.prog 73 #[.pointer (some ⟨P, 0, none⟩), .agg #[.int .i8 op, .int .i8 d, .int .i8 j, .int .i8 b, .int .i64 n]] w fun e w' => e = .returned (.int .i64 (aV m j n)) ∧ Below w.heap.size w w' :=
  (address_any h hm hj).mono fun _e _w' k => ⟨k.1.elim (fun x => x.2) (fun x => absurd he x.1), k.2⟩
theorem address_no (h : PAt w base P s m) (hm : Fine m) {op d b n : Int} {j : Nat} (hj : j < 16) (he : ¬ aE m j n = 0) : Calls Tryz.prog 73 #[.pointer (some ⟨P, 0, none⟩), .agg #[.int .i8 op, .int .i8 d, .int .i8 j, .int .i8 b, .int .i64 n]] w fun e w' => e = .panicked [{ v := .iface 75 (.int .i8 (aE m j n)), recovered := false }] ∧ Below w.heap.size w w' :=
  (address_any h hm hj).mono fun _e _w' k => ⟨k.1.elim (fun x => absurd x.1 he) (fun x => x.2), k.2⟩
/-- Where a region ends by a panic, nothing is left of it to be walked. -/
theorem by_stop {G : Prop} (g : G) (w : World) : wpAny Tryz.prog .any #[] (fun _ _ _ => True) 0 #[] ⟨#[], []⟩ w → G := fun _ => g
theorem PAt.word (h : PAt w base P s m) {k : Nat} (hk : k < m.mem.length) : ∃ g, s.M = some ⟨g, 0, none⟩ ∧ m.mem.length ≤ s.mc ∧ w.cell? ⟨g, k * 2, none⟩ = some (.int .i64 (wV m.mem k)) ∧ w.cell? ⟨g, k * 2 + 1, none⟩ = some (.bool (wC m.mem k)) ∧ w.frozen? ⟨g, k * 2, none⟩ = false ∧ w.frozen? ⟨g, k * 2 + 1, none⟩ = false := by
  obtain ⟨e1, e2⟩ := wVals_get hk
  have hl := wVals_len m.mem
  rcases h.mem.2 with ⟨e, e0⟩ | ⟨g, cap, cur, e, hb, hg, hc, _, hs, ht⟩
  · omega
  · simp only [Value.slice.injEq] at e
    obtain ⟨e3, -, e4⟩ := e
    subst e4
    have q : ∀ {i : Nat} {v : Value}, i < m.mem.length * 2 → (wVals m.mem)[i]? = some v → cur[i]? = some v := by
      intro i v hi hv
      rw [← ht, List.getElem?_take_of_lt hi] at hv
      simpa using hv
    exact ⟨g, e3, hc, box_at hg (q (by omega) e1), box_at hg (q (by omega) e2), box_fro hg _, box_fro hg _⟩
set_option maxHeartbeats 2000000 in
theorem load_did (h : PAt w base P s m) (hm : Fine m) (_hp : m.pc < 16384) {op d a b n : Int} (hi : InsIn op d a b n) : Calls Tryz.prog 54 #[.pointer (some ⟨P, 0, none⟩), .agg #[.int .i8 op, .int .i8 d, .int .i8 a, .int .i8 b, .int .i64 n]] w (DidP w base P s m (loadD m d a n)) := by
  obtain ⟨k, hk0⟩ := Int.eq_ofNat_of_zero_le hi.d0
  have hk : k < 16 := by have := hi.d1; omega
  subst hk0
  obtain ⟨j, hj0⟩ := Int.eq_ofNat_of_zero_le hi.a0
  have hj : j < 16 := by have := hi.a1; omega
  subst hj0
  have zk : (0 : Int) ≤ (k : Int) := Int.natCast_nonneg _
  have yk : (k : Int) < 16 := by omega
  have zj : (0 : Int) ≤ (j : Int) := Int.natCast_nonneg _
  have yj : (j : Int) < 16 := by omega
  by_cases he : aE m j n = 0
  · obtain ⟨r0, r1⟩ := aV_range he
    obtain ⟨q, hq0⟩ := Int.eq_ofNat_of_zero_le r0
    have hq : q < m.mem.length := by omega
    have e0 : loadD m k j n = putD m k (wV m.mem q, wC m.mem q) := by unfold loadD; rw [if_pos he, hq0]; rfl
    rw [e0]
    have C1 := fun (W : World) (h : PAt W base P s m) => address_yes (op := op) (d := k) (b := b) (n := n) h hm hj he
    rw [hq0] at C1
    have C2 := fun (W : World) (h : PAt W base P s m) => put_near h hm k hk (wV m.mem q, wC m.mem q)
    clear he hq0 e0 r0 r1
    have zq : (0 : Int) ≤ (q : Int) := Int.natCast_nonneg _
    have yq : (q : Int) < (m.mem.length : Int) := by omega
    obtain ⟨W0, HW⟩ : ∃ W0, Hid (w.alloc (.cells #[.int .i8 op, .int .i8 k, .int .i8 j, .int .i8 b, .int .i64 n] 72) = W0) := ⟨_, rfl⟩
    have x0 : W0.cell? ⟨w.heap.size, 0, none⟩ = some (.int .i8 op) := by rw [← HW.out]; simp [go_sem]
    have x1 : W0.cell? ⟨w.heap.size, 1, none⟩ = some (.int .i8 k) := by rw [← HW.out]; simp [go_sem]
    have x2 : W0.cell? ⟨w.heap.size, 2, none⟩ = some (.int .i8 j) := by rw [← HW.out]; simp [go_sem]
    have x3 : W0.cell? ⟨w.heap.size, 3, none⟩ = some (.int .i8 b) := by rw [← HW.out]; simp [go_sem]
    have x4 : W0.cell? ⟨w.heap.size, 4, none⟩ = some (.int .i64 n) := by rw [← HW.out]; simp [go_sem]
    have h0 : PAt W0 base P s m := by rw [← HW.out]; exact h.alloc _
    have HB0 : Hid (Below w.heap.size w W0) := by unfold Hid; rw [← HW.out]; exact lb_alloc (Below.refl _ _) _
    have hz0 : w.heap.size < W0.heap.size := by rw [← HW.out]; simp
    have hP := h.lt
    have hWW := Below.refl W0.heap.size W0
    obtain ⟨g, hM, hcap, m0, m1, -, -⟩ := h0.word hq
    have hgP : g ≠ P := own_ne h0.mem (by rw [own_aB, hM]; rfl) h0.box (by decide)
    have hml := hm.mlen
    obtain ⟨-, -, c34, -⟩ := h0.cells hm.sixteen
    rw [hM] at c34
    have hN0 := Near.refl P W0
    have hne : w.heap.size ≠ P := by omega
    clear hM hWW
    go_enter Tryz.func54, Tryz.ntmps54
    go_upto_region 1 with fail
    rw [HW.out]
    clear HW h
    go_region_held3 (fun W => Near P W0 W ∧ W.cell? ⟨w.heap.size, 0, none⟩ = some (.int .i8 op) ∧ W.cell? ⟨w.heap.size, 1, none⟩ = some (.int .i8 k) ∧ W.cell? ⟨w.heap.size, 2, none⟩ = some (.int .i8 j) ∧ W.cell? ⟨w.heap.size, 3, none⟩ = some (.int .i8 b) ∧ W.cell? ⟨w.heap.size, 4, none⟩ = some (.int .i64 n) ∧ W.cell? ⟨P, 34, none⟩ = some (.slice (some ⟨g, 0, none⟩) m.mem.length s.mc) ∧ W.cell? ⟨g, q * 2, none⟩ = some (.int .i64 (wV m.mem q)) ∧ W.cell? ⟨g, q * 2 + 1, none⟩ = some (.bool (wC m.mem q)))
      (first | exact ⟨hN2, hN2.box hne x0, hN2.box hne x1, hN2.box hne x2, hN2.box hne x3, hN2.box hne x4, hN2.hdr.trans c34, hN2.box hgP m0, hN2.box hgP m1⟩ | exact ⟨hN2.drew, hN2.drew.box hne x0, hN2.drew.box hne x1, hN2.drew.box hne x2, hN2.drew.box hne x3, hN2.drew.box hne x4, hN2.drew.hdr.trans c34, hN2.drew.box hgP m0, hN2.drew.box hgP m1⟩ | exact ⟨hN, hN.box hne x0, hN.box hne x1, hN.box hne x2, hN.box hne x3, hN.box hne x4, hN.hdr.trans c34, hN.box hgP m0, hN.box hgP m1⟩ | exact ⟨hN.drew, hN.drew.box hne x0, hN.drew.box hne x1, hN.drew.box hne x2, hN.drew.box hne x3, hN.drew.box hne x4, hN.drew.hdr.trans c34, hN.drew.box hgP m0, hN.drew.box hgP m1⟩ | exact ⟨hN0, hN0.box hne x0, hN0.box hne x1, hN0.box hne x2, hN0.box hne x3, hN0.box hne x4, hN0.hdr.trans c34, hN0.box hgP m0, hN0.box hgP m1⟩ | exact ⟨hN0.drew, hN0.drew.box hne x0, hN0.drew.box hne x1, hN0.drew.box hne x2, hN0.drew.box hne x3, hN0.drew.box hne x4, hN0.drew.hdr.trans c34, hN0.drew.box hgP m0, hN0.drew.box hgP m1⟩)
      (first
        | (go_at_call 73; refine (C1 _ (by first | exact h1 | exact h1.drew | exact h0 | exact h0.drew)).mono ?_; rintro e w1 ⟨rfl, hb⟩; have h1 : PAt w1 base P s m := PAt.keep (by first | exact h1 | exact h1.drew | exact h0 | exact h0.drew) hb; have hN : Near P W0 w1 := Near.below (by first | exact hN0 | exact hN0.drew) hb h0.lt)
        | (go_at_call 70; refine (C2 _ (by first | exact h1 | exact h1.drew | exact h0 | exact h0.drew)).mono ?_; rintro e w2 ⟨rfl, hq, hn⟩; have hN2 : Near P W0 w2 := Near.trans (by first | exact hN | exact hN.drew) hn))

    all_goals (
      rename_i hS
      clear hS
      go_wp2_with fail
      go_ret
      exact did_put rfl hq (up_on HB0.out hN2.up))
  · have e0 : loadD m k j n = noD m (aE m j n) := by unfold loadD; rw [if_neg he]
    rw [e0]
    have C1 := fun (W : World) (h : PAt W base P s m) => address_no (op := op) (d := k) (b := b) (n := n) h hm hj he
    have HE : Hid (¬ aE m j n = 0) := he
    clear he e0
    generalize aE m j n = E at *
    obtain ⟨W0, HW⟩ : ∃ W0, Hid (w.alloc (.cells #[.int .i8 op, .int .i8 k, .int .i8 j, .int .i8 b, .int .i64 n] 72) = W0) := ⟨_, rfl⟩
    have x0 : W0.cell? ⟨w.heap.size, 0, none⟩ = some (.int .i8 op) := by rw [← HW.out]; simp [go_sem]
    have x1 : W0.cell? ⟨w.heap.size, 1, none⟩ = some (.int .i8 k) := by rw [← HW.out]; simp [go_sem]
    have x2 : W0.cell? ⟨w.heap.size, 2, none⟩ = some (.int .i8 j) := by rw [← HW.out]; simp [go_sem]
    have x3 : W0.cell? ⟨w.heap.size, 3, none⟩ = some (.int .i8 b) := by rw [← HW.out]; simp [go_sem]
    have x4 : W0.cell? ⟨w.heap.size, 4, none⟩ = some (.int .i64 n) := by rw [← HW.out]; simp [go_sem]
    have h0 : PAt W0 base P s m := by rw [← HW.out]; exact h.alloc _
    have HB0 : Hid (Below w.heap.size w W0) := by unfold Hid; rw [← HW.out]; exact lb_alloc (Below.refl _ _) _
    have hz0 : w.heap.size < W0.heap.size := by rw [← HW.out]; simp
    have hP := h.lt
    have hWW := Below.refl W0.heap.size W0
    have hml := hm.mlen
    obtain ⟨-, -, c34, -⟩ := h0.cells hm.sixteen
    clear hWW
    go_enter Tryz.func54, Tryz.ntmps54
    go_upto_region 1 with fail
    rw [HW.out]
    clear HW h
    go_region_law (go_simp; go_at_call 73; refine (C1 _ (by first | exact h1 | exact h1.drew | exact h0 | exact h0.drew)).mono ?_; rintro e w1 ⟨rfl, hb⟩; refine by_stop ⟨rfl, did_no HE.out (lb_trans HB0.out (lb_trans (Below.drew (Below.refl _ _)) hb))⟩ w1 ?_)
    all_goals trivial
end



end Go.Proofs.YtgkdagnpefgjcaaGreat
