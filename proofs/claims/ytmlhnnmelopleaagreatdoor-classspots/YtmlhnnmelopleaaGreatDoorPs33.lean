/-
  emptySets of package live; the sets in memory.
-/
import Derived.Test.YtmlhnnmelopleaaGreatDoorProg
import Derived.WalkKit
import Derived.WalkSpells
import Derived.WalkLawsBesides
import Derived.RowKit3
import Derived.Below
import Derived.Deep.QuietTactic
import Derived.BigQuiet
import Derived.WalkSmall
import Derived.Laws.Rows
import Derived.Test.YtmlhnnmelopleaaGreatDoorPs30
import Derived.Test.YtmlhnnmelopleaaGreatDoorPs13
namespace Go.Proofs.YtmlhnnmelopleaaGreatDoor
open Go.RowKit

/-- The sets of the blocks in memory. -/
structure SetsAt (w : World) (P : Nat) (A : Option Addr) (c N gr gw gi go : Nat) (R W F G : Int → Nat) : Prop where
  box : w.heap[P]? = some (.cells #[.slice (some ⟨gr, 0, none⟩) N N, .slice (some ⟨gw, 0, none⟩) N N, .slice (some ⟨gi, 0, none⟩) N N, .slice (some ⟨go, 0, none⟩) N N, .slice A N c] 150 (0, 0))
  rd : UsAt w gr N R
  wt : UsAt w gw N W
  inn : UsAt w gi N F
  out : UsAt w go N G
  rw : gr ≠ gw
  ri : gr ≠ gi
  ro : gr ≠ go
  wi : gw ≠ gi
  wo : gw ≠ go
  io : gi ≠ go
section
variable {w w1 : World} {P : Nat} {A : Option Addr} {c N gr gw gi go : Nat} {R W F G : Int → Nat}
theorem SetsAt.keep (h : SetsAt w P A c N gr gw gi go R W F G) (hb : Below w.heap.size w w1) : SetsAt w1 P A c N gr gw gi go R W F G :=
  { h with box := lb_box h.box hb, rd := h.rd.keep hb, wt := h.wt.keep hb, inn := h.inn.keep hb, out := h.out.keep hb }
theorem UsAt.kept {g n : Nat} (h : UsAt w g n F) {b : Nat} (hg : w.grownBy w1 (some b)) (hb : g ≠ b) : UsAt w1 g n F := by
  obtain ⟨cs, h1, h2⟩ := h
  exact ⟨cs, by rw [hg.block g (Array.getElem?_eq_some_iff.1 h1).1 (by intro e; cases e; exact hb rfl)]; exact h1, h2⟩
/-- A map is written, or an iterator: the sets stay. -/
theorem SetsAt.kept (h : SetsAt w P A c N gr gw gi go R W F G) {b : Nat} (hg : w.grownBy w1 (some b)) (hb : ∀ cs t, w.heap[b]? ≠ some (.cells cs t (0, 0))) : SetsAt w1 P A c N gr gw gi go R W F G := by
  have hne : ∀ {g : Nat} {cs : Array Value} {t : TypeId}, w.heap[g]? = some (.cells cs t (0, 0)) → g ≠ b := fun h1 e => by
    subst e
    exact hb _ _ h1
  have hU : ∀ {g n : Nat} {F : Int → Nat}, UsAt w g n F → UsAt w1 g n F := fun h => by
    have h2 := h
    obtain ⟨cs, h1, _⟩ := h2
    exact h.kept hg (hne h1)
  exact { h with box := (hg.block P (Array.getElem?_eq_some_iff.1 h.box).1 (by intro e; cases e; exact hne h.box rfl)).trans h.box, rd := hU h.rd, wt := hU h.wt, inn := hU h.inn, out := hU h.out }
theorem SetsAt.cells (h : SetsAt w P A c N gr gw gi go R W F G) : w.cell? ⟨P, 0, none⟩ = some (.slice (some ⟨gr, 0, none⟩) N N) ∧ w.cell? ⟨P, 1, none⟩ = some (.slice (some ⟨gw, 0, none⟩) N N) ∧ w.cell? ⟨P, 2, none⟩ = some (.slice (some ⟨gi, 0, none⟩) N N) ∧ w.cell? ⟨P, 3, none⟩ = some (.slice (some ⟨go, 0, none⟩) N N) ∧ w.cell? ⟨P, 4, none⟩ = some (.slice A N c) := by
  refine ⟨?_, ?_, ?_, ?_, ?_⟩ <;> simp [World.cell?, h.box]
theorem UsAt.neP {g n : Nat} {F : Int → Nat} (h : UsAt w g n F) {Q : Nat} {cs : Array Value} (hq : w.heap[Q]? = some (.cells cs 150 (0, 0))) : Q ≠ g := by
  rintro rfl
  obtain ⟨cs2, h1, _⟩ := h
  rw [hq] at h1
  injection h1 with h1
  injection h1 with _ h1
  exact absurd h1 (by decide)
theorem SetsAt.putR (h : SetsAt w P A c N gr gw gi go R W F G) {k : Nat} (hk : k < N) (v : Nat) : SetsAt (w.setCell ⟨gr, k, none⟩ (.int .u16 (v : Int))) P A c N gr gw gi go (putS R (k : Int) v) W F G :=
  { h with box := box_other h.box (h.rd.neP h.box) _ _, rd := h.rd.put hk v, wt := h.wt.other h.rw.symm, inn := h.inn.other h.ri.symm, out := h.out.other h.ro.symm }
theorem SetsAt.putW (h : SetsAt w P A c N gr gw gi go R W F G) {k : Nat} (hk : k < N) (v : Nat) : SetsAt (w.setCell ⟨gw, k, none⟩ (.int .u16 (v : Int))) P A c N gr gw gi go R (putS W (k : Int) v) F G :=
  { h with box := box_other h.box (h.wt.neP h.box) _ _, rd := h.rd.other h.rw, wt := h.wt.put hk v, inn := h.inn.other h.wi.symm, out := h.out.other h.wo.symm }
theorem SetsAt.putF (h : SetsAt w P A c N gr gw gi go R W F G) {k : Nat} (hk : k < N) (v : Nat) : SetsAt (w.setCell ⟨gi, k, none⟩ (.int .u16 (v : Int))) P A c N gr gw gi go R W (putS F (k : Int) v) G :=
  { h with box := box_other h.box (h.inn.neP h.box) _ _, rd := h.rd.other h.ri, wt := h.wt.other h.wi, inn := h.inn.put hk v, out := h.out.other h.io.symm }
theorem SetsAt.putG (h : SetsAt w P A c N gr gw gi go R W F G) {k : Nat} (hk : k < N) (v : Nat) : SetsAt (w.setCell ⟨go, k, none⟩ (.int .u16 (v : Int))) P A c N gr gw gi go R W F (putS G (k : Int) v) :=
  { h with box := box_other h.box (h.out.neP h.box) _ _, rd := h.rd.other h.ro, wt := h.wt.other h.wo, inn := h.inn.other h.io, out := h.out.put hk v }
end
set_option maxHeartbeats 1000000 in
theorem empty_any (b : Nat) (A : Option Addr) (N c : Nat) (hN : N ≤ 1048576) (w : World) (hc : w.cell? ⟨b, 0, none⟩ = some (.slice A N c)) :
    Calls Tryz.prog 103 #[.pointer (some ⟨b, 0, none⟩)] w fun e w' => ∃ g, e = .returned (.slice (some ⟨g, 0, none⟩) N N) ∧ UsAt w' g N zeroS ∧ w.heap.size ≤ g ∧ Below w.heap.size w w' := by
  have hmk := make_us N hN
  go_enter Tryz.func103, Tryz.ntmps103
  go_wp2
  go_ret
  exact ⟨_, rfl, UsAt.made w N, Nat.le_refl _, lb_alloc (Below.refl _ _) _⟩
theorem mkFnL : ∀ (fn : Fn) (first cap : Array Value) (w : World), (Instr.makeFunc fn first cap).run Tryz.prog w = .ok (.func fn first cap) w := fun _ _ _ _ => rfl
def EsP (A : Option Addr) (c N : Nat) (w : World) (e : Ending) (w' : World) : Prop := ∃ P gr gw gi go : Nat, e = .returned (.pointer (some ⟨P, 0, none⟩)) ∧ SetsAt w' P A c N gr gw gi go zeroS zeroS zeroS zeroS ∧ w.heap.size ≤ gr ∧ w.heap.size ≤ gw ∧ w.heap.size ≤ gi ∧ w.heap.size ≤ go ∧ Below w.heap.size w w'
theorem EsP.mk {A : Option Addr} {c N g1 g2 g3 g4 : Nat} {w w1 w2 w3 w4 W : World} (h1 : UsAt w1 g1 N zeroS) (h2 : UsAt w2 g2 N zeroS) (h3 : UsAt w3 g3 N zeroS) (h4 : UsAt w4 g4 N zeroS) (l1 : w.heap.size ≤ g1) (l2 : w1.heap.size ≤ g2) (l3 : w2.heap.size ≤ g3) (l4 : w3.heap.size ≤ g4) (b1 : Below w.heap.size w w1) (b2 : Below w1.heap.size w1 w2) (b3 : Below w2.heap.size w2 w3) (b4 : Below w3.heap.size w3 w4) (b5 : Below w4.heap.size w4 W) :
    EsP A c N w (.returned (.pointer (some ⟨W.heap.size, 0, none⟩))) (W.alloc (.cells #[.slice (some ⟨g1, 0, none⟩) N N, .slice (some ⟨g2, 0, none⟩) N N, .slice (some ⟨g3, 0, none⟩) N N, .slice (some ⟨g4, 0, none⟩) N N, .slice A N c] 150)) := by
  have k1 := h1.lt
  have k2 := h2.lt
  have k3 := h3.lt
  have s1 := b1.size
  have s2 := b2.size
  have s3 := b3.size
  have hb : Below W.heap.size W (W.alloc (.cells #[.slice (some ⟨g1, 0, none⟩) N N, .slice (some ⟨g2, 0, none⟩) N N, .slice (some ⟨g3, 0, none⟩) N N, .slice (some ⟨g4, 0, none⟩) N N, .slice A N c] 150)) := lb_alloc (Below.refl _ _) _
  refine ⟨_, g1, g2, g3, g4, rfl, ⟨new_at rfl, ((((h1.keep b2).keep b3).keep b4).keep b5).keep hb, (((h2.keep b3).keep b4).keep b5).keep hb, ((h3.keep b4).keep b5).keep hb, (h4.keep b5).keep hb, by omega, by omega, by omega, by omega, by omega, by omega⟩, by omega, by omega, by omega, by omega, lb_trans (lb_trans (lb_trans (lb_trans (lb_trans b1 b2) b3) b4) b5) hb⟩
set_option maxRecDepth 100000 in
set_option maxHeartbeats 4000000 in
theorem empties_any (A : Option Addr) (N c : Nat) (hN : N ≤ 1048576) (w : World) : Calls Tryz.prog 99 #[.slice A N c] w (EsP A c N w) := by
  have hmf := mkFnL
  obtain ⟨W, HW⟩ : ∃ W, Hid (w.alloc (.cells #[.slice A N c] 127) = W) := ⟨_, rfl⟩
  have HB : Hid (Below w.heap.size w W) := by unfold Hid; rw [← HW.out]; exact lb_alloc (Below.refl _ _) _
  have i0 : W.cell? ⟨w.heap.size, 0, none⟩ = some (.slice A N c) := by rw [← HW.out]; simp [go_sem]
  have HI : Hid (∀ Y, Below W.heap.size W Y → Y.cell? ⟨w.heap.size, 0, none⟩ = some (.slice A N c)) := fun Y h => lkeep h i0
  have C := fun wx hx => empty_any w.heap.size A N c hN wx hx
  go_enter Tryz.func99, Tryz.ntmps99
  go_upto_region 1 with fail
  rw [HW.out]
  clear HW
  go_upto_region 2 with fail
  go_region_law (go_simp; go_at_call 103; first
      | (revert HB4; intro HB4; fail)
      | (revert HB3; intro HB3; refine (C _ (HI.out _ (by first | exact HB3.out | exact Below.drew HB3.out))).mono ?_; rintro e w4 ⟨g4, rfl, hu4, hl4, hb4⟩; have HU4 : Hid (UsAt w4 g4 N zeroS) := hu4; have HL4 : Hid (w3.heap.size ≤ g4) := hl4; have HC4 : Hid (Below w3.heap.size w3 w4) := hb4; have HB4 : Hid (Below W.heap.size W w4) := lb_trans HB3.out hb4; have i4 := HI.out _ HB4.out; clear hu4 hl4 hb4)
      | (revert HB2; intro HB2; refine (C _ (HI.out _ (by first | exact HB2.out | exact Below.drew HB2.out))).mono ?_; rintro e w3 ⟨g3, rfl, hu3, hl3, hb3⟩; have HU3 : Hid (UsAt w3 g3 N zeroS) := hu3; have HL3 : Hid (w2.heap.size ≤ g3) := hl3; have HC3 : Hid (Below w2.heap.size w2 w3) := hb3; have HB3 : Hid (Below W.heap.size W w3) := lb_trans HB2.out hb3; have i3 := HI.out _ HB3.out; clear hu3 hl3 hb3)
      | (revert HB1; intro HB1; refine (C _ (HI.out _ (by first | exact HB1.out | exact Below.drew HB1.out))).mono ?_; rintro e w2 ⟨g2, rfl, hu2, hl2, hb2⟩; have HU2 : Hid (UsAt w2 g2 N zeroS) := hu2; have HL2 : Hid (w1.heap.size ≤ g2) := hl2; have HC2 : Hid (Below w1.heap.size w1 w2) := hb2; have HB2 : Hid (Below W.heap.size W w2) := lb_trans HB1.out hb2; have i2 := HI.out _ HB2.out; clear hu2 hl2 hb2)
      | (refine (C _ (HI.out _ (Below.drew (Below.refl _ _)))).mono ?_; rintro e w1 ⟨g1, rfl, hu1, hl1, hb1⟩; have HU1 : Hid (UsAt w1 g1 N zeroS) := hu1; have HL1 : Hid (W.heap.size ≤ g1) := hl1; have HB1 : Hid (Below W.heap.size W w1) := lb_trans (Below.drew (Below.refl _ _)) hb1; have i1 := HI.out _ HB1.out; clear hu1 hl1 hb1))
  all_goals (
    have HE := fun (W' : World) (hw : Below w4.heap.size w4 W') => EsP.mk (A := A) (c := c) HU1.out HU2.out HU3.out HU4.out (Nat.le_trans HB.out.size HL1.out) HL2.out HL3.out HL4.out (lb_trans HB.out HB1.out) HC2.out HC3.out HC4.out hw
    go_wp2_with fail
    go_ret
    exact HE _ (by first | exact Below.refl _ _ | exact Below.drew (Below.refl _ _)))


end Go.Proofs.YtmlhnnmelopleaaGreatDoor
