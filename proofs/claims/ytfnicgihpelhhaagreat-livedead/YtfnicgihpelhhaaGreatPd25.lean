/-
  Deeds of the program's machine: calc. The program's machine: an address. Deeds of the program's machine: load. Deeds of the program's machine: store.
-/
import Derived.Test.YtfnicgihpelhhaaGreatProg
import Derived.WalkKit
import Derived.WalkSpells
import Derived.WalkLawsBesides
import Derived.RowKit3
import Derived.Below
import Derived.Deep.QuietTactic
import Derived.BigQuiet
import Derived.WalkSmall
import Derived.Laws.Rows
import Derived.Deep.DeepCutAuto
import Derived.Deep.RegionHeld3
import Derived.Laws.Pointers
import Derived.Outline
import Derived.StillTactics
import Derived.Test.YtfnicgihpelhhaaGreatPd24
import Derived.Deep.RegionLaw
namespace Go.Proofs.YtfnicgihpelhhaaGreat
open Go.RowKit

section
variable {w : World} {base P : Nat} {s : Loc} {m : Mach}
set_option maxHeartbeats 1000000 in
theorem calc_did (h : PAt w base P s m) (hm : Fine m) (_hp : m.pc < 16384) {op d a b n : Int} (hi : InsIn op d a b n) : Calls Tryz.prog 98 #[.pointer (some ⟨P, 0, none⟩), .agg #[.int .i8 op, .int .i8 d, .int .i8 a, .int .i8 b, .int .i64 n]] w (DidP w base P s m (calcD m op d a b)) := by
  obtain ⟨k, hk0⟩ := Int.eq_ofNat_of_zero_le hi.d0
  have hk : k < 16 := by have := hi.d1; omega
  subst hk0
  obtain ⟨j, hj0⟩ := Int.eq_ofNat_of_zero_le hi.a0
  have hj : j < 16 := by have := hi.a1; omega
  subst hj0
  obtain ⟨i, hi0⟩ := Int.eq_ofNat_of_zero_le hi.b0
  have hi2 : i < 16 := by have := hi.b1; omega
  subst hi0
  have zk : (0 : Int) ≤ (k : Int) := Int.natCast_nonneg _
  have yk : (k : Int) < 16 := by omega
  have zj : (0 : Int) ≤ (j : Int) := Int.natCast_nonneg _
  have yj : (j : Int) < 16 := by omega
  have zi : (0 : Int) ≤ (i : Int) := Int.natCast_nonneg _
  have yi : (i : Int) < 16 := by omega
  obtain ⟨W0, HW⟩ : ∃ W0, Hid (w.alloc (.cells #[.int .i8 op, .int .i8 k, .int .i8 j, .int .i8 i, .int .i64 n] 50) = W0) := ⟨_, rfl⟩
  have x0 : W0.cell? ⟨w.heap.size, 0, none⟩ = some (.int .i8 op) := by rw [← HW.out]; simp [go_sem]
  have x1 : W0.cell? ⟨w.heap.size, 1, none⟩ = some (.int .i8 k) := by rw [← HW.out]; simp [go_sem]
  have x2 : W0.cell? ⟨w.heap.size, 2, none⟩ = some (.int .i8 j) := by rw [← HW.out]; simp [go_sem]
  have x3 : W0.cell? ⟨w.heap.size, 3, none⟩ = some (.int .i8 i) := by rw [← HW.out]; simp [go_sem]
  have x4 : W0.cell? ⟨w.heap.size, 4, none⟩ = some (.int .i64 n) := by rw [← HW.out]; simp [go_sem]
  have h0 : PAt W0 base P s m := by rw [← HW.out]; exact h.alloc _
  have HB0 : Hid (Below w.heap.size w W0) := by unfold Hid; rw [← HW.out]; exact lb_alloc (Below.refl _ _) _
  have hz0 : w.heap.size < W0.heap.size := by rw [← HW.out]; simp
  have hP := h.lt
  have hWW := Below.refl W0.heap.size W0
  obtain ⟨d0, d1⟩ := h0.reg hm.sixteen hj
  obtain ⟨b0, b1⟩ := h0.reg hm.sixteen hi2
  have C1 := calc_any op (wV m.regs j) (wV m.regs i) (wC m.regs j) (wC m.regs i)
  have HE : Hid (calcE op (wC m.regs j) (wC m.regs i) = cE m op j i) := rfl
  have HV : Hid (calcV op (wV m.regs j) (wV m.regs i) (wC m.regs j) (wC m.regs i) = cV m op j i) := rfl
  rw [HE.out, HV.out] at C1
  have HD : Hid (calcD m op k j i = if cE m op j i = 0 then putD m k (cV m op j i, false) else noD m (cE m op j i)) := rfl
  rw [HD.out]
  clear HE HV HD
  generalize cV m op j i = V at *
  generalize cE m op j i = E at *
  go_enter Tryz.func98, Tryz.ntmps98
  go_upto_region 1 with fail
  rw [HW.out]
  clear HW
  go_cut [5, 6] (fun x y wx => ∃ p, x = .pointer (some ⟨p, 0, none⟩) ∧ y = .int .i8 E ∧ wx.cell? ⟨p, 0, none⟩ = some (.int .i64 V) ∧ wx.cell? ⟨p, 1, none⟩ = some (.bool false) ∧ Hid (Below W0.heap.size W0 wx))
  case first =>
    go_region_held3 (fun W => Below W0.heap.size W0 W ∧ W.cell? ⟨w.heap.size, 0, none⟩ = some (.int .i8 op) ∧ W.cell? ⟨w.heap.size, 2, none⟩ = some (.int .i8 j) ∧ W.cell? ⟨w.heap.size, 3, none⟩ = some (.int .i8 i) ∧ W.cell? ⟨P, 2 + j * 2, none⟩ = some (.int .i64 (wV m.regs j)) ∧ W.cell? ⟨P, 2 + j * 2 + 1, none⟩ = some (.bool (wC m.regs j)) ∧ W.cell? ⟨P, 2 + i * 2, none⟩ = some (.int .i64 (wV m.regs i)) ∧ W.cell? ⟨P, 2 + i * 2 + 1, none⟩ = some (.bool (wC m.regs i)))
      (first | (refine ⟨?_, lkeep ?_ x0, lkeep ?_ x2, lkeep ?_ x3, lkeep ?_ d0, lkeep ?_ d1, lkeep ?_ b0, lkeep ?_ b1⟩ <;> ((repeat (first | assumption | exact (‹Below _ _ _ ∧ _›).1 | apply Below.drew | apply lb_alloc | apply lb_new | refine lb_trans ?_ hb)); done)))
      (first | (go_at_call 116; refine (C1 _).mono ?_; rintro e w1 ⟨rfl, hb⟩; (first | (refine have_wd W0.heap.size hb ?_ ?_; (refine ⟨?_, ?_, ?_, ?_⟩ <;> (simp [go_sem]; done)); intro e0 e1 e2 e3) | skip)))

    all_goals (
      rename_i hS
      have sB : Hid _ := hS.1
      clear hS
      go_wp2_with fail
      go_meet
      exact ⟨_, rfl, rfl, by first | (simp [go_sem]; done) | (simp [go_sem, *]; done), by first | (simp [go_sem]; done) | (simp [go_sem, *]; done), sB⟩)
  case rest =>
    obtain ⟨p, rfl, rfl, p0, p1, HBc⟩ := hcut
    have h9 : Hid (PAt wc base P s m) := h0.keep HBc.out
    have HB9 : Hid (Below w.heap.size w wc) := lb_trans HB0.out HBc.out
    have q1 : wc.cell? ⟨w.heap.size, 1, none⟩ = some (.int .i8 k) := lkeep HBc.out x1
    clear x0 x1 x2 x3 x4 d0 d1 b0 b1 C1
    by_cases he : E = 0
    · subst he
      have C2 := put_any h9.out hm k hk (V, false)
      have C3 := raise_yes wc
      go_wp2_with (first
        | (go_at_call 117; refine C3.mono ?_; rintro e w1 ⟨rfl, rfl⟩)
        | (go_at_call 115; refine C2.mono ?_; rintro e w1 ⟨rfl, hq, hu⟩))
      go_ret
      exact did_put rfl hq (up_on HB9.out hu)
    · have C3 := raise_no E he wc
      go_wp2_with fail
      refine C3.mono ?_
      rintro e w1 ⟨rfl, rfl⟩
      unfold stopM
      go_wp2
      exact ⟨rfl, did_no he HB9.out⟩
end





end Go.Proofs.YtfnicgihpelhhaaGreat

namespace Go.Proofs.YtfnicgihpelhhaaGreat
open Go.RowKit

section
variable {w : World} {base P : Nat} {s : Loc} {m : Mach}
def AddrP (E V : Int) (w : World) (e : Ending) (w' : World) : Prop := ((E = 0 ∧ e = .returned (.int .i64 V)) ∨ (¬ E = 0 ∧ e = stopM E)) ∧ Below w.heap.size w w'
set_option maxHeartbeats 1000000 in
theorem address_any (h : PAt w base P s m) (hm : Fine m) {op d b n : Int} {j : Nat} (hj : j < 16) : Calls Tryz.prog 118 #[.pointer (some ⟨P, 0, none⟩), .agg #[.int .i8 op, .int .i8 d, .int .i8 j, .int .i8 b, .int .i64 n]] w (AddrP (aE m j n) (aV m j n) w) := by
  have zj : (0 : Int) ≤ (j : Int) := Int.natCast_nonneg _
  have yj : (j : Int) < 16 := by omega
  obtain ⟨W0, HW⟩ : ∃ W0, Hid (w.alloc (.cells #[.int .i8 op, .int .i8 d, .int .i8 j, .int .i8 b, .int .i64 n] 50) = W0) := ⟨_, rfl⟩
  have x0 : W0.cell? ⟨w.heap.size, 0, none⟩ = some (.int .i8 op) := by rw [← HW.out]; simp [go_sem]
  have x1 : W0.cell? ⟨w.heap.size, 1, none⟩ = some (.int .i8 d) := by rw [← HW.out]; simp [go_sem]
  have x2 : W0.cell? ⟨w.heap.size, 2, none⟩ = some (.int .i8 j) := by rw [← HW.out]; simp [go_sem]
  have x3 : W0.cell? ⟨w.heap.size, 3, none⟩ = some (.int .i8 b) := by rw [← HW.out]; simp [go_sem]
  have x4 : W0.cell? ⟨w.heap.size, 4, none⟩ = some (.int .i64 n) := by rw [← HW.out]; simp [go_sem]
  have h0 : PAt W0 base P s m := by rw [← HW.out]; exact h.alloc _
  have HB0 : Hid (Below w.heap.size w W0) := by unfold Hid; rw [← HW.out]; exact lb_alloc (Below.refl _ _) _
  have hz0 : w.heap.size < W0.heap.size := by rw [← HW.out]; simp
  have hP := h.lt
  have hWW := Below.refl W0.heap.size W0
  obtain ⟨d0, d1⟩ := h0.reg hm.sixteen hj
  have hml := hm.mlen
  obtain ⟨c0, c1, c34, c35, c36, c37, c38, c39⟩ := h0.cells hm.sixteen
  have C1 := addr_any (wV m.regs j) n m.mem.length (wC m.regs j)
  have HE : Hid (addrE (wV m.regs j) n m.mem.length (wC m.regs j) = aE m j n) := rfl
  have HV : Hid (addrV (wV m.regs j) n m.mem.length (wC m.regs j) = aV m j n) := rfl
  rw [HE.out, HV.out] at C1
  clear HE HV
  generalize aV m j n = V at *
  generalize aE m j n = E at *
  go_enter Tryz.func118, Tryz.ntmps118
  go_upto_region 1 with fail
  rw [HW.out]
  clear HW
  go_cut [5, 6] (fun x y wx => x = .int .i64 V ∧ y = .int .i8 E ∧ Hid (Below W0.heap.size W0 wx))
  case first =>
    go_region_held3 (fun W => Below W0.heap.size W0 W ∧ W.cell? ⟨w.heap.size, 2, none⟩ = some (.int .i8 j) ∧ W.cell? ⟨w.heap.size, 4, none⟩ = some (.int .i64 n) ∧ W.cell? ⟨P, 2 + j * 2, none⟩ = some (.int .i64 (wV m.regs j)) ∧ W.cell? ⟨P, 2 + j * 2 + 1, none⟩ = some (.bool (wC m.regs j)) ∧ W.cell? ⟨P, 34, none⟩ = some (.slice s.M m.mem.length s.mc))
      (first | (refine ⟨?_, lkeep ?_ x2, lkeep ?_ x4, lkeep ?_ d0, lkeep ?_ d1, lkeep ?_ c34⟩ <;> ((repeat (first | assumption | exact (‹Below _ _ _ ∧ _›).1 | apply Below.drew | apply lb_alloc | apply lb_new | refine lb_trans ?_ hb)); done)))
      (first | (go_at_call 129; refine (C1 _).mono ?_; rintro e w1 ⟨rfl, rfl⟩))

    all_goals (
      rename_i hS
      have sB : Hid _ := hS.1
      clear hS
      go_wp2_with fail
      go_meet
      exact ⟨rfl, rfl, sB⟩)
  case rest =>
    obtain ⟨rfl, rfl, HBc⟩ := hcut
    have HB9 : Hid (Below w.heap.size w wc) := lb_trans HB0.out HBc.out
    clear x0 x1 x2 x3 x4 d0 d1 c0 c1 c34 c35 c36 c37 c38 c39 C1
    by_cases he : E = 0
    · subst he
      have C3 := raise_yes wc
      go_wp2_with (first
        | (go_at_call 117; refine C3.mono ?_; rintro e w1 ⟨rfl, rfl⟩))
      go_ret
      exact ⟨.inl ⟨rfl, rfl⟩, HB9.out⟩
    · have C3 := raise_no E he wc
      go_wp2_with fail
      refine C3.mono ?_
      rintro e w1 ⟨rfl, rfl⟩
      unfold stopM
      go_wp2
      exact ⟨rfl, .inr ⟨he, rfl⟩, HB9.out⟩
end





end Go.Proofs.YtfnicgihpelhhaaGreat

namespace Go.Proofs.YtfnicgihpelhhaaGreat
open Go.RowKit

section
variable {w : World} {base P : Nat} {s : Loc} {m : Mach}
theorem address_yes (h : PAt w base P s m) (hm : Fine m) {op d b n : Int} {j : Nat} (hj : j < 16) (he : aE m j n = 0) : Calls Tryz.prog 118 #[.pointer (some ⟨P, 0, none⟩), .agg #[.int .i8 op, .int .i8 d, .int .i8 j, .int .i8 b, .int .i64 n]] w fun e w' => e = .returned (.int .i64 (aV m j n)) ∧ Below w.heap.size w w' :=
  (address_any h hm hj).mono fun _e _w' k => ⟨k.1.elim (fun x => x.2) (fun x => absurd he x.1), k.2⟩
theorem address_no (h : PAt w base P s m) (hm : Fine m) {op d b n : Int} {j : Nat} (hj : j < 16) (he : ¬ aE m j n = 0) : Calls Tryz.prog 118 #[.pointer (some ⟨P, 0, none⟩), .agg #[.int .i8 op, .int .i8 d, .int .i8 j, .int .i8 b, .int .i64 n]] w fun e w' => e = .panicked [{ v := .iface 113 (.int .i8 (aE m j n)), recovered := false }] ∧ Below w.heap.size w w' :=
  (address_any h hm hj).mono fun _e _w' k => ⟨k.1.elim (fun x => absurd x.1 he) (fun x => x.2), k.2⟩
/-- Where a region ends by a panic, nothing is left of it to be walked. -/
theorem by_stop {G : Prop} (g : G) (w : World) : wpAny Tryz.prog .any #[] (fun _ _ _ => True) 0 #[] ⟨#[], []⟩ w → G := fun _ => g
theorem PAt.word (h : PAt w base P s m) {k : Nat} (hk : k < m.mem.length) : ∃ g, s.M = some ⟨g, 0, none⟩ ∧ m.mem.length ≤ s.mc ∧ w.cell? ⟨g, k * 2, none⟩ = some (.int .i64 (wV m.mem k)) ∧ w.cell? ⟨g, k * 2 + 1, none⟩ = some (.bool (wC m.mem k)) ∧ w.frozen? ⟨g, k * 2, none⟩ = false ∧ w.frozen? ⟨g, k * 2 + 1, none⟩ = false := by
  obtain ⟨e1, e2⟩ := wVals_get hk
  have hl := wVals_len m.mem
  rcases h.mem.2 with ⟨e, e0⟩ | ⟨g, cap, cur, e, hb, hg, hc, _, hs, ht⟩
  · omega
  · simp only [Value.slice.injEq] at e
    obtain ⟨e3, -, e4⟩ := e
    subst e4
    have q : ∀ {i : Nat} {v : Value}, i < m.mem.length * 2 → (wVals m.mem)[i]? = some v → cur[i]? = some v := by
      intro i v hi hv
      rw [← ht, List.getElem?_take_of_lt hi] at hv
      simpa using hv
    exact ⟨g, e3, hc, box_at hg (q (by omega) e1), box_at hg (q (by omega) e2), box_fro hg _, box_fro hg _⟩
set_option maxHeartbeats 2000000 in
theorem load_did (h : PAt w base P s m) (hm : Fine m) (_hp : m.pc < 16384) {op d a b n : Int} (hi : InsIn op d a b n) : Calls Tryz.prog 99 #[.pointer (some ⟨P, 0, none⟩), .agg #[.int .i8 op, .int .i8 d, .int .i8 a, .int .i8 b, .int .i64 n]] w (DidP w base P s m (loadD m d a n)) := by
  obtain ⟨k, hk0⟩ := Int.eq_ofNat_of_zero_le hi.d0
  have hk : k < 16 := by have := hi.d1; omega
  subst hk0
  obtain ⟨j, hj0⟩ := Int.eq_ofNat_of_zero_le hi.a0
  have hj : j < 16 := by have := hi.a1; omega
  subst hj0
  have zk : (0 : Int) ≤ (k : Int) := Int.natCast_nonneg _
  have yk : (k : Int) < 16 := by omega
  have zj : (0 : Int) ≤ (j : Int) := Int.natCast_nonneg _
  have yj : (j : Int) < 16 := by omega
  by_cases he : aE m j n = 0
  · obtain ⟨r0, r1⟩ := aV_range he
    obtain ⟨q, hq0⟩ := Int.eq_ofNat_of_zero_le r0
    have hq : q < m.mem.length := by omega
    have e0 : loadD m k j n = putD m k (wV m.mem q, wC m.mem q) := by unfold loadD; rw [if_pos he, hq0]; rfl
    rw [e0]
    have C1 := fun (W : World) (h : PAt W base P s m) => address_yes (op := op) (d := k) (b := b) (n := n) h hm hj he
    rw [hq0] at C1
    have C2 := fun (W : World) (h : PAt W base P s m) => put_near h hm k hk (wV m.mem q, wC m.mem q)
    clear he hq0 e0 r0 r1
    have zq : (0 : Int) ≤ (q : Int) := Int.natCast_nonneg _
    have yq : (q : Int) < (m.mem.length : Int) := by omega
    obtain ⟨W0, HW⟩ : ∃ W0, Hid (w.alloc (.cells #[.int .i8 op, .int .i8 k, .int .i8 j, .int .i8 b, .int .i64 n] 50) = W0) := ⟨_, rfl⟩
    have x0 : W0.cell? ⟨w.heap.size, 0, none⟩ = some (.int .i8 op) := by rw [← HW.out]; simp [go_sem]
    have x1 : W0.cell? ⟨w.heap.size, 1, none⟩ = some (.int .i8 k) := by rw [← HW.out]; simp [go_sem]
    have x2 : W0.cell? ⟨w.heap.size, 2, none⟩ = some (.int .i8 j) := by rw [← HW.out]; simp [go_sem]
    have x3 : W0.cell? ⟨w.heap.size, 3, none⟩ = some (.int .i8 b) := by rw [← HW.out]; simp [go_sem]
    have x4 : W0.cell? ⟨w.heap.size, 4, none⟩ = some (.int .i64 n) := by rw [← HW.out]; simp [go_sem]
    have h0 : PAt W0 base P s m := by rw [← HW.out]; exact h.alloc _
    have HB0 : Hid (Below w.heap.size w W0) := by unfold Hid; rw [← HW.out]; exact lb_alloc (Below.refl _ _) _
    have hz0 : w.heap.size < W0.heap.size := by rw [← HW.out]; simp
    have hP := h.lt
    have hWW := Below.refl W0.heap.size W0
    obtain ⟨g, hM, hcap, m0, m1, -, -⟩ := h0.word hq
    have hgP : g ≠ P := own_ne h0.mem (by rw [own_aB, hM]; rfl) h0.box (by decide)
    have hml := hm.mlen
    obtain ⟨-, -, c34, -⟩ := h0.cells hm.sixteen
    rw [hM] at c34
    have hN0 := Near.refl P W0
    have hne : w.heap.size ≠ P := by omega
    clear hM hWW
    go_enter Tryz.func99, Tryz.ntmps99
    go_upto_region 1 with fail
    rw [HW.out]
    clear HW h
    go_region_held3 (fun W => Near P W0 W ∧ W.cell? ⟨w.heap.size, 0, none⟩ = some (.int .i8 op) ∧ W.cell? ⟨w.heap.size, 1, none⟩ = some (.int .i8 k) ∧ W.cell? ⟨w.heap.size, 2, none⟩ = some (.int .i8 j) ∧ W.cell? ⟨w.heap.size, 3, none⟩ = some (.int .i8 b) ∧ W.cell? ⟨w.heap.size, 4, none⟩ = some (.int .i64 n) ∧ W.cell? ⟨P, 34, none⟩ = some (.slice (some ⟨g, 0, none⟩) m.mem.length s.mc) ∧ W.cell? ⟨g, q * 2, none⟩ = some (.int .i64 (wV m.mem q)) ∧ W.cell? ⟨g, q * 2 + 1, none⟩ = some (.bool (wC m.mem q)))
      (first | exact ⟨hN2, hN2.box hne x0, hN2.box hne x1, hN2.box hne x2, hN2.box hne x3, hN2.box hne x4, hN2.hdr.trans c34, hN2.box hgP m0, hN2.box hgP m1⟩ | exact ⟨hN2.drew, hN2.drew.box hne x0, hN2.drew.box hne x1, hN2.drew.box hne x2, hN2.drew.box hne x3, hN2.drew.box hne x4, hN2.drew.hdr.trans c34, hN2.drew.box hgP m0, hN2.drew.box hgP m1⟩ | exact ⟨hN, hN.box hne x0, hN.box hne x1, hN.box hne x2, hN.box hne x3, hN.box hne x4, hN.hdr.trans c34, hN.box hgP m0, hN.box hgP m1⟩ | exact ⟨hN.drew, hN.drew.box hne x0, hN.drew.box hne x1, hN.drew.box hne x2, hN.drew.box hne x3, hN.drew.box hne x4, hN.drew.hdr.trans c34, hN.drew.box hgP m0, hN.drew.box hgP m1⟩ | exact ⟨hN0, hN0.box hne x0, hN0.box hne x1, hN0.box hne x2, hN0.box hne x3, hN0.box hne x4, hN0.hdr.trans c34, hN0.box hgP m0, hN0.box hgP m1⟩ | exact ⟨hN0.drew, hN0.drew.box hne x0, hN0.drew.box hne x1, hN0.drew.box hne x2, hN0.drew.box hne x3, hN0.drew.box hne x4, hN0.drew.hdr.trans c34, hN0.drew.box hgP m0, hN0.drew.box hgP m1⟩)
      (first
        | (go_at_call 118; refine (C1 _ (by first | exact h1 | exact h1.drew | exact h0 | exact h0.drew)).mono ?_; rintro e w1 ⟨rfl, hb⟩; have h1 : PAt w1 base P s m := PAt.keep (by first | exact h1 | exact h1.drew | exact h0 | exact h0.drew) hb; have hN : Near P W0 w1 := Near.below (by first | exact hN0 | exact hN0.drew) hb h0.lt)
        | (go_at_call 115; refine (C2 _ (by first | exact h1 | exact h1.drew | exact h0 | exact h0.drew)).mono ?_; rintro e w2 ⟨rfl, hq, hn⟩; have hN2 : Near P W0 w2 := Near.trans (by first | exact hN | exact hN.drew) hn))

    all_goals (
      rename_i hS
      clear hS
      go_wp2_with fail
      go_ret
      exact did_put rfl hq (up_on HB0.out hN2.up))
  · have e0 : loadD m k j n = noD m (aE m j n) := by unfold loadD; rw [if_neg he]
    rw [e0]
    have C1 := fun (W : World) (h : PAt W base P s m) => address_no (op := op) (d := k) (b := b) (n := n) h hm hj he
    have HE : Hid (¬ aE m j n = 0) := he
    clear he e0
    generalize aE m j n = E at *
    obtain ⟨W0, HW⟩ : ∃ W0, Hid (w.alloc (.cells #[.int .i8 op, .int .i8 k, .int .i8 j, .int .i8 b, .int .i64 n] 50) = W0) := ⟨_, rfl⟩
    have x0 : W0.cell? ⟨w.heap.size, 0, none⟩ = some (.int .i8 op) := by rw [← HW.out]; simp [go_sem]
    have x1 : W0.cell? ⟨w.heap.size, 1, none⟩ = some (.int .i8 k) := by rw [← HW.out]; simp [go_sem]
    have x2 : W0.cell? ⟨w.heap.size, 2, none⟩ = some (.int .i8 j) := by rw [← HW.out]; simp [go_sem]
    have x3 : W0.cell? ⟨w.heap.size, 3, none⟩ = some (.int .i8 b) := by rw [← HW.out]; simp [go_sem]
    have x4 : W0.cell? ⟨w.heap.size, 4, none⟩ = some (.int .i64 n) := by rw [← HW.out]; simp [go_sem]
    have h0 : PAt W0 base P s m := by rw [← HW.out]; exact h.alloc _
    have HB0 : Hid (Below w.heap.size w W0) := by unfold Hid; rw [← HW.out]; exact lb_alloc (Below.refl _ _) _
    have hz0 : w.heap.size < W0.heap.size := by rw [← HW.out]; simp
    have hP := h.lt
    have hWW := Below.refl W0.heap.size W0
    have hml := hm.mlen
    obtain ⟨-, -, c34, -⟩ := h0.cells hm.sixteen
    clear hWW
    go_enter Tryz.func99, Tryz.ntmps99
    go_upto_region 1 with fail
    rw [HW.out]
    clear HW h
    go_region_law (go_simp; go_at_call 118; refine (C1 _ (by first | exact h1 | exact h1.drew | exact h0 | exact h0.drew)).mono ?_; rintro e w1 ⟨rfl, hb⟩; refine by_stop ⟨rfl, did_no HE.out (lb_trans HB0.out (lb_trans (Below.drew (Below.refl _ _)) hb))⟩ w1 ?_)
    all_goals trivial
end





end Go.Proofs.YtfnicgihpelhhaaGreat

namespace Go.Proofs.YtfnicgihpelhhaaGreat
open Go.RowKit

section
variable {w : World} {base P : Nat} {s : Loc} {m : Mach}
theorem PAt.store (h : PAt w base P s m) {g q : Nat} (hM : s.M = some ⟨g, 0, none⟩) (hq : q < m.mem.length) (x : Wd) : PAt ((w.setCell ⟨g, q * 2, none⟩ (.int .i64 x.1)).setCell ⟨g, q * 2 + 1, none⟩ (.bool x.2)) base P s (storeM m q x) := by
  have hl := wVals_len m.mem
  have hgb : (Value.slice s.M m.mem.length s.mc).ownBlock = some g := by rw [own_aB, hM]; rfl
  have ho : ∀ b, b ≠ g → ((w.setCell ⟨g, q * 2, none⟩ (.int .i64 x.1)).setCell ⟨g, q * 2 + 1, none⟩ (.bool x.2)).heap[b]? = w.heap[b]? := fun b hb => (Below.heap_setCell _ _ _ _ hb).trans (Below.heap_setCell _ _ _ _ hb)
  rcases h.mem.2 with ⟨e, e0⟩ | ⟨g2, cap, cur, e, hb, hg, hc, hx, hs, ht⟩
  · omega
  · simp only [Value.slice.injEq] at e
    obtain ⟨e3, -, e4⟩ := e
    rw [hM] at e3
    simp only [Option.some.injEq, Addr.mk.injEq, and_true] at e3
    subst e3 e4
    have hne : ∀ {e : TypeId} {z n b : Nat} {v : Value} {xs : List Value}, w.ownsRow base e z v n xs → v.ownBlock = some b → e ≠ 82 → b ≠ g := fun ho hv ne => own_ne ho hv hg ne
    have hgP : g ≠ P := own_ne h.mem hgb h.box (by decide)
    refine ⟨?_, h.bP, own_stay h.text fun b e => ho b (hne h.text e (by decide)), own_stay h.tape fun b e => ho b (hne h.tape e (by decide)), ?_, own_stay h.ports fun b e => ho b (hne h.ports e (by decide))⟩
    · rw [ho P (fun e => hgP e.symm), h.box]
      simp [boxM, hdM, tlM, storeM]
    · have hlen : (storeM m q x).mem.length = m.mem.length := by simp [storeM]
      rw [hlen]
      refine ⟨by rw [wVals_len, hlen], .inr ⟨g, s.mc, _, by rw [hM], hb, box_set (box_set hg _ _) _ _, hc, hx, by simpa using hs, ?_⟩⟩
      simp only [Array.toList_setIfInBounds, List.take_set]
      rw [ht]
      exact wVals_set x
theorem but_up {W0 W : World} {g : Nat} (h : But g W0 W) (hf : Foot s P g) : Upto (Foot s P) W0 W := ⟨h.1, h.2.1, h.2.2.1, h.2.2.2.1, fun b hb hn => h.2.2.2.2 b hb (fun e => hn (by rw [e]; exact hf))⟩
set_option maxHeartbeats 2000000 in
theorem store_did (h : PAt w base P s m) (hm : Fine m) (hp : m.pc < 16384) {op d a b n : Int} (hi : InsIn op d a b n) : Calls Tryz.prog 100 #[.pointer (some ⟨P, 0, none⟩), .agg #[.int .i8 op, .int .i8 d, .int .i8 a, .int .i8 b, .int .i64 n]] w (DidP w base P s m (storeD m a b n)) := by
  obtain ⟨j, hj0⟩ := Int.eq_ofNat_of_zero_le hi.a0
  have hj : j < 16 := by have := hi.a1; omega
  subst hj0
  obtain ⟨i, hi0⟩ := Int.eq_ofNat_of_zero_le hi.b0
  have hi2 : i < 16 := by have := hi.b1; omega
  subst hi0
  have zj : (0 : Int) ≤ (j : Int) := Int.natCast_nonneg _
  have yj : (j : Int) < 16 := by omega
  have zi : (0 : Int) ≤ (i : Int) := Int.natCast_nonneg _
  have yi : (i : Int) < 16 := by omega
  by_cases he : aE m j n = 0
  · obtain ⟨r0, r1⟩ := aV_range he
    obtain ⟨q, hq0⟩ := Int.eq_ofNat_of_zero_le r0
    have hq : q < m.mem.length := by omega
    have e0 : storeD m j i n = ⟨0, storeM m q (wV m.regs i, wC m.regs i), m.pc + 1⟩ := by unfold storeD; rw [if_pos he, hq0]; rfl
    rw [e0]
    have C1 := fun (W : World) (h : PAt W base P s m) => address_yes (op := op) (d := d) (b := i) (n := n) h hm hj he
    rw [hq0] at C1
    clear he hq0 e0 r0 r1
    have zq : (0 : Int) ≤ (q : Int) := Int.natCast_nonneg _
    have yq : (q : Int) < (m.mem.length : Int) := by omega
    obtain ⟨W0, HW⟩ : ∃ W0, Hid (w.alloc (.cells #[.int .i8 op, .int .i8 d, .int .i8 j, .int .i8 i, .int .i64 n] 50) = W0) := ⟨_, rfl⟩
    have x0 : W0.cell? ⟨w.heap.size, 0, none⟩ = some (.int .i8 op) := by rw [← HW.out]; simp [go_sem]
    have x1 : W0.cell? ⟨w.heap.size, 1, none⟩ = some (.int .i8 d) := by rw [← HW.out]; simp [go_sem]
    have x2 : W0.cell? ⟨w.heap.size, 2, none⟩ = some (.int .i8 j) := by rw [← HW.out]; simp [go_sem]
    have x3 : W0.cell? ⟨w.heap.size, 3, none⟩ = some (.int .i8 i) := by rw [← HW.out]; simp [go_sem]
    have x4 : W0.cell? ⟨w.heap.size, 4, none⟩ = some (.int .i64 n) := by rw [← HW.out]; simp [go_sem]
    have h0 : PAt W0 base P s m := by rw [← HW.out]; exact h.alloc _
    have HB0 : Hid (Below w.heap.size w W0) := by unfold Hid; rw [← HW.out]; exact lb_alloc (Below.refl _ _) _
    have hz0 : w.heap.size < W0.heap.size := by rw [← HW.out]; simp
    have hP := h.lt
    have hWW := Below.refl W0.heap.size W0
    obtain ⟨g, hM, hcap, m0, m1, m2, m3⟩ := h0.word hq
    have hgP : P ≠ g := fun e => own_ne h0.mem (by rw [own_aB, hM]; rfl) h0.box (by decide) e.symm
    have hml := hm.mlen
    have hpc := hm.pc
    obtain ⟨-, -, c34, -, -⟩ := h0.cells hm.sixteen
    obtain ⟨d0, d1⟩ := h0.reg hm.sixteen hi2
    have HM : Hid (s.M = some ⟨g, 0, none⟩) := hM
    have HF : Hid (Foot s P g) := .inr (.inr (.inr (.inl (by rw [hM]; rfl))))
    rw [hM] at c34
    have hN0 := But.refl g W0
    have hne : w.heap.size ≠ g := by
      have := (h.foot (b := g) (.inr (.inr (.inr (.inl (by rw [hM]; rfl)))))).2
      omega
    clear hM hWW
    go_enter Tryz.func100, Tryz.ntmps100
    go_upto_region 1 with fail
    rw [HW.out]
    clear HW h
    go_region_held3 (fun W => But g W0 W ∧ W.cell? ⟨w.heap.size, 0, none⟩ = some (.int .i8 op) ∧ W.cell? ⟨w.heap.size, 1, none⟩ = some (.int .i8 d) ∧ W.cell? ⟨w.heap.size, 2, none⟩ = some (.int .i8 j) ∧ W.cell? ⟨w.heap.size, 3, none⟩ = some (.int .i8 i) ∧ W.cell? ⟨w.heap.size, 4, none⟩ = some (.int .i64 n) ∧ W.cell? ⟨P, 34, none⟩ = some (.slice (some ⟨g, 0, none⟩) m.mem.length s.mc) ∧ W.cell? ⟨P, 2 + i * 2, none⟩ = some (.int .i64 (wV m.regs i)) ∧ W.cell? ⟨P, 2 + i * 2 + 1, none⟩ = some (.bool (wC m.regs i)))
      (first | exact ⟨((hN.set _ _).set _ _), But.cell ((hN.set _ _).set _ _) (p := ⟨w.heap.size, 0, none⟩) hne x0, But.cell ((hN.set _ _).set _ _) (p := ⟨w.heap.size, 1, none⟩) hne x1, But.cell ((hN.set _ _).set _ _) (p := ⟨w.heap.size, 2, none⟩) hne x2, But.cell ((hN.set _ _).set _ _) (p := ⟨w.heap.size, 3, none⟩) hne x3, But.cell ((hN.set _ _).set _ _) (p := ⟨w.heap.size, 4, none⟩) hne x4, But.cell ((hN.set _ _).set _ _) (p := ⟨P, 34, none⟩) hgP c34, But.cell ((hN.set _ _).set _ _) (p := ⟨P, 2 + i * 2, none⟩) hgP d0, But.cell ((hN.set _ _).set _ _) (p := ⟨P, 2 + i * 2 + 1, none⟩) hgP d1⟩ | exact ⟨hN, But.cell hN (p := ⟨w.heap.size, 0, none⟩) hne x0, But.cell hN (p := ⟨w.heap.size, 1, none⟩) hne x1, But.cell hN (p := ⟨w.heap.size, 2, none⟩) hne x2, But.cell hN (p := ⟨w.heap.size, 3, none⟩) hne x3, But.cell hN (p := ⟨w.heap.size, 4, none⟩) hne x4, But.cell hN (p := ⟨P, 34, none⟩) hgP c34, But.cell hN (p := ⟨P, 2 + i * 2, none⟩) hgP d0, But.cell hN (p := ⟨P, 2 + i * 2 + 1, none⟩) hgP d1⟩ | exact ⟨hN0, But.cell hN0 (p := ⟨w.heap.size, 0, none⟩) hne x0, But.cell hN0 (p := ⟨w.heap.size, 1, none⟩) hne x1, But.cell hN0 (p := ⟨w.heap.size, 2, none⟩) hne x2, But.cell hN0 (p := ⟨w.heap.size, 3, none⟩) hne x3, But.cell hN0 (p := ⟨w.heap.size, 4, none⟩) hne x4, But.cell hN0 (p := ⟨P, 34, none⟩) hgP c34, But.cell hN0 (p := ⟨P, 2 + i * 2, none⟩) hgP d0, But.cell hN0 (p := ⟨P, 2 + i * 2 + 1, none⟩) hgP d1⟩)
      (first
        | (go_at_call 118; refine (C1 _ (by first | exact h1 | exact h1.drew | exact h0 | exact h0.drew)).mono ?_; rintro e w1 ⟨rfl, hb⟩; have h1 : PAt w1 base P s m := PAt.keep (by first | exact h1 | exact h1.drew | exact h0 | exact h0.drew) hb; have hN : But g W0 w1 := But.on hN0 (lb_trans (Below.drew (Below.refl _ _)) hb); have m4 : w1.cell? ⟨g, q * 2, none⟩ = some (.int .i64 (wV m.mem q)) := lkeep hb m0; have m5 : w1.cell? ⟨g, q * 2 + 1, none⟩ = some (.bool (wC m.mem q)) := lkeep hb m1; have m6 : w1.frozen? ⟨g, q * 2, none⟩ = false := (hb.frozen (p := ⟨g, q * 2, none⟩) (World.block_lt_of_cell? W0 _ m0)).trans m2; have m7 : w1.frozen? ⟨g, q * 2 + 1, none⟩ = false := (hb.frozen (p := ⟨g, q * 2 + 1, none⟩) (World.block_lt_of_cell? W0 _ m1)).trans m3))
    all_goals (
      rename_i hS
      clear hS
      have h8 : Hid _ := PAt.store h1 HM.out hq (wV m.regs i, wC m.regs i)
      have k36 : ((w1.setCell ⟨g, q * 2, none⟩ (.int .i64 (wV m.regs i))).setCell ⟨g, q * 2 + 1, none⟩ (.bool (wC m.regs i))).cell? ⟨P, 36, none⟩ = some (.int .i64 m.pc) := (h8.out.cells hm.sixteen).2.2.2.2.1
      go_wp2
      go_ret
      exact did_yes rfl rfl h8.out (up_on HB0.out (but_up ((hN.set _ _).set _ _) HF.out)))
  · have e0 : storeD m j i n = noD m (aE m j n) := by unfold storeD; rw [if_neg he]
    rw [e0]
    have C1 := fun (W : World) (h : PAt W base P s m) => address_no (op := op) (d := d) (b := i) (n := n) h hm hj he
    have HE : Hid (¬ aE m j n = 0) := he
    clear he e0
    generalize aE m j n = E at *
    obtain ⟨W0, HW⟩ : ∃ W0, Hid (w.alloc (.cells #[.int .i8 op, .int .i8 d, .int .i8 j, .int .i8 i, .int .i64 n] 50) = W0) := ⟨_, rfl⟩
    have x0 : W0.cell? ⟨w.heap.size, 0, none⟩ = some (.int .i8 op) := by rw [← HW.out]; simp [go_sem]
    have x1 : W0.cell? ⟨w.heap.size, 1, none⟩ = some (.int .i8 d) := by rw [← HW.out]; simp [go_sem]
    have x2 : W0.cell? ⟨w.heap.size, 2, none⟩ = some (.int .i8 j) := by rw [← HW.out]; simp [go_sem]
    have x3 : W0.cell? ⟨w.heap.size, 3, none⟩ = some (.int .i8 i) := by rw [← HW.out]; simp [go_sem]
    have x4 : W0.cell? ⟨w.heap.size, 4, none⟩ = some (.int .i64 n) := by rw [← HW.out]; simp [go_sem]
    have h0 : PAt W0 base P s m := by rw [← HW.out]; exact h.alloc _
    have HB0 : Hid (Below w.heap.size w W0) := by unfold Hid; rw [← HW.out]; exact lb_alloc (Below.refl _ _) _
    have hz0 : w.heap.size < W0.heap.size := by rw [← HW.out]; simp
    have hP := h.lt
    have hWW := Below.refl W0.heap.size W0
    have hml := hm.mlen
    obtain ⟨-, -, c34, -⟩ := h0.cells hm.sixteen
    obtain ⟨d0, d1⟩ := h0.reg hm.sixteen hi2
    clear hWW
    go_enter Tryz.func100, Tryz.ntmps100
    go_upto_region 1 with fail
    rw [HW.out]
    clear HW h
    go_region_law (go_simp; go_at_call 118; refine (C1 _ (by first | exact h1 | exact h1.drew | exact h0 | exact h0.drew)).mono ?_; rintro e w1 ⟨rfl, hb⟩; refine by_stop ⟨rfl, did_no HE.out (lb_trans HB0.out (lb_trans (Below.drew (Below.refl _ _)) hb))⟩ w1 ?_)
    all_goals trivial
end





end Go.Proofs.YtfnicgihpelhhaaGreat
