/-
  Write of package image, by what it returns. Takers of package image in memory: the closures and what they capture; no Go in sight.
-/
import Derived.Test.YtfaekkbblpfbhaaDoorProg
import Derived.WalkKit
import Derived.WalkSpells
import Derived.WalkLawsBesides
import Derived.RowKit3
import Derived.Below
import Derived.Deep.QuietTactic
import Derived.BigQuiet
import Derived.WalkSmall
import Derived.Laws.Rows
import Derived.Test.YtfaekkbblpfbhaaDoorIt09
import Derived.Test.YtfaekkbblpfbhaaDoorIt18
import Derived.Test.YtfaekkbblpfbhaaDoorIt08
import Derived.Test.YtfaekkbblpfbhaaDoorIt02
import Derived.Test.YtfaekkbblpfbhaaDoorIt07
namespace Go.Proofs.YtfaekkbblpfbhaaDoor
open Go.RowKit

/-- What Write answers. -/
def WroteP (text : List Int) (ent : Int) (mem : List Int) (w : World) (r : Ending) (w' : World) : Prop :=
  if (checkI text mem.length ent).1 = 0 then ∃ v, r = .returned (.tuple #[v, .int .i64 0]) ∧ w'.ownsRow w.heap.size 5 1 v (bytesI text ent mem).length (bNews (bytesI text ent mem)) ∧ Below w.heap.size w w'
  else r = .returned (.tuple #[.slice none 0 0, .int .i64 (checkI text mem.length ent).1]) ∧ Below w.heap.size w w'
set_option maxRecDepth 100000 in
set_option maxHeartbeats 1000000 in
theorem write_any (A1 A2 : Option Addr) (c1 c2 : Nat) (text mem : List Int) (ent : Int) (w : World) (hG : Beg w)
    (hT : IntsAt w A1 .u32 text) (hM : IntsAt w A2 .i64 mem) (hR : ∀ i, i < text.length → 0 ≤ nth text i ∧ nth text i < 4294967296) (hl : text.length ≤ 1048576) (hm : mem.length ≤ 1048576) :
    Calls Tryd.prog 11 #[.agg #[.slice A1 text.length c1, .int .i64 ent, .slice A2 mem.length c2]] w (WroteP text ent mem w) := by
  have C := fun (wx : World) (hb : Below w.heap.size w wx) => check_any A1 A2 c1 mem.length c2 ent text wx (hT.keep hb) hR hl hm
  by_cases h0 : (checkI text mem.length ent).1 = 0
  · have hp := (check_mayI h0).past
    have hl1 := hp.len
    have hm1 := hp.mem
    have hlen : (bodyI text ent mem).length ≤ 200000 := by rw [bodyI_len]; omega
    have hareB := bodyI_areB text ent mem
    have hsum := sum_range (bodyI text ent mem)
    have HP : Hid (∀ r w', WroteP text ent mem w r w' = (∃ v, r = .returned (.tuple #[v, .int .i64 0]) ∧ w'.ownsRow w.heap.size 5 1 v (bytesI text ent mem).length (bNews (bytesI text ent mem)) ∧ Below w.heap.size w w')) := fun r w' => by unfold WroteP; rw [if_pos h0]
    rw [h0] at C
    generalize (checkI text mem.length ent).2 = q at C
    clear h0 hp
    go_enter Tryd.func11, Tryd.ntmps11
    go_wp2_with fail
    refine (C _ (lb_alloc (Below.refl _ _) _)).mono ?_
    rintro e w1 ⟨rfl, h1⟩
    have hb1 : Hid (Below w.heap.size w w1) := lb_trans (lb_alloc (Below.refl _ _) _) h1
    have hx1 := lb_box0 (heap_alloc_new _ _) h1
    obtain ⟨d0, d1, d2⟩ := box3_cell hx1
    have hz1 : w.heap.size < w1.heap.size := by have := h1.size; simp at this; omega
    clear h1 hx1
    have hgb : Hid (Below w1.heap.size w1 (w1.alloc (.cells #[.slice none 0 0] 77))) := lb_alloc (Below.refl _ _) _
    have hgv : Hid (OutAt (w1.alloc (.cells #[.slice none 0 0] 77)) w1.heap.size []) := ⟨_, heap_alloc_new _ _, World.ownsRow_nil _ _ _ _⟩
    go_wp2_with fail
    refine (wImage w1.heap.size A1 A2 c1 c2 text mem ent w _ (hG.below (lb_trans hb1.out hgb.out)) hT hM hR (lb_trans hb1.out hgb.out) (by omega) (by omega) (by omega) hgv.out).mono ?_
    rintro e w2 ⟨rfl, h2, t2⟩
    have t2 : Hid _ := t2
    have h2 : OutAt w2 w1.heap.size (bodyI text ent mem) := h2
    obtain ⟨v, hv, hr⟩ := h2
    have HO : Hid (OutAt w2 w1.heap.size (bodyI text ent mem)) := ⟨v, hv, hr⟩
    obtain ⟨A', c', rfl, hI, hcap⟩ := own_ints hr
    have hcell := (box_cell hv).1
    have hfro := (box_cell hv).2
    clear hv hr
    go_wp2_with fail
    refine (sum_any A' c' (bodyI text ent mem) _ hI hareB (by omega)).mono ?_
    rintro e w3 ⟨rfl, rfl⟩
    go_wp2_with fail
    refine (wNumber w1.heap.size (bodyI text ent mem) _ hsum.1 hsum.2 (by omega) _ HO.out).mono ?_
    rintro e w3 ⟨rfl, h3, t3⟩
    have t3 : Hid _ := t3
    have h3 : OutAt w3 w1.heap.size (bytesI text ent mem) := h3
    obtain ⟨v, hv, hr⟩ := h3
    obtain ⟨A2', c2', rfl, hI2, hcap2⟩ := own_ints hr
    have hcell2 := (box_cell hv).1
    have HR : Hid _ := hr
    clear hv hr
    go_wp2
    go_ret2
    rw [HP.out]
    refine ⟨_, rfl, ownsRow_mono HR.out (by omega), ?_⟩
    have q1 := (OutTo.of (g := w1.heap.size) hgb.out).trans (t2.out.trans t3.out)
    exact hb1.out.trans ⟨q1.os, q1.tape, q1.output, q1.size, fun k hk => q1.block k (by omega) (by omega) (Or.inl (by omega))⟩
  · have HP : Hid (∀ r w', WroteP text ent mem w r w' = (r = .returned (.tuple #[.slice none 0 0, .int .i64 (checkI text mem.length ent).1]) ∧ Below w.heap.size w w')) := fun r w' => by unfold WroteP; rw [if_neg h0]
    have h0b : ((checkI text mem.length ent).1 != 0) = true := by simpa using h0
    generalize (checkI text mem.length ent).1 = E at C h0b HP
    generalize (checkI text mem.length ent).2 = q at C
    clear h0
    go_enter Tryd.func11, Tryd.ntmps11
    go_wp2_with fail
    refine (C _ (lb_alloc (Below.refl _ _) _)).mono ?_
    rintro e w1 ⟨rfl, h1⟩
    have hb1 : Hid (Below w.heap.size w w1) := lb_trans (lb_alloc (Below.refl _ _) _) h1
    clear h1
    go_wp2
    go_ret2
    rw [HP.out]
    exact ⟨rfl, hb1.out⟩

end Go.Proofs.YtfaekkbblpfbhaaDoor

namespace Go.Proofs.YtfaekkbblpfbhaaDoor
open Go.RowKit

/-- What a taker gives up with: why, and where. -/
def stopI (e p : Int) : Ending := .panicked [{ v := .iface 85 (.agg #[.int .i64 e, .int .i64 p]), recovered := false }]
/-- The boxes of takers over the bytes b, which lie at A: b's at gb, the place p at ga, the closures at gn and gm. -/
structure TkBy (w0 : World) (ga gb gn gm : Nat) (A : Option Addr) (c : Nat) (b : List Int) (p : Nat) (w : World) : Prop where
  hat : w.heap[ga]? = some (.cells #[.int .i64 p] 3 (0, 0))
  hbx : w.heap[gb]? = some (.cells #[.slice A b.length c] 32 (0, 0))
  hnx : w.heap[gn]? = some (.cells #[.func (.func 93) #[] #[.pointer (some ⟨ga, 0, none⟩), .pointer (some ⟨gb, 0, none⟩)]] 145 (0, 0))
  hnu : w.heap[gm]? = some (.cells #[.func (.func 94) #[] #[.pointer (some ⟨gn, 0, none⟩)]] 93 (0, 0))
  ints : IntsAt w0 A .u8 b
  below : Below w0.heap.size w0 w
  le : w0.heap.size ≤ ga
  areB : AreB b
  len : b.length ≤ 1048576
  cap : b.length ≤ c
  pos : p ≤ b.length
section
variable {w0 w w1 : World} {ga gb gn gm c p : Nat} {A : Option Addr} {b : List Int}
theorem TkBy.offs (h : TkBy w0 ga gb gn gm A c b p w) : gb ≠ ga ∧ gn ≠ ga ∧ gm ≠ ga := by
  have e := h.hat
  refine ⟨fun q => ?_, fun q => ?_, fun q => ?_⟩
  · have := h.hbx; rw [q, e] at this; cases this
  · have := h.hnx; rw [q, e] at this; cases this
  · have := h.hnu; rw [q, e] at this; cases this
theorem TkBy.lt (h : TkBy w0 ga gb gn gm A c b p w) : ga < w.heap.size := (Array.getElem?_eq_some_iff.1 h.hat).1
theorem one_cell {w : World} {g : Nat} {v : Value} {t : TypeId} (h : w.heap[g]? = some (.cells #[v] t (0, 0))) : w.cell? ⟨g, 0, none⟩ = some v := by simp [World.cell?, h]
theorem one_fro {w : World} {g : Nat} {v : Value} {t : TypeId} (h : w.heap[g]? = some (.cells #[v] t (0, 0))) : w.frozen? ⟨g, 0, none⟩ = false := by simp [World.frozen?, h]
theorem TkBy.cells (h : TkBy w0 ga gb gn gm A c b p w) : w.cell? ⟨ga, 0, none⟩ = some (.int .i64 p) ∧ w.cell? ⟨gb, 0, none⟩ = some (.slice A b.length c) ∧ w.frozen? ⟨ga, 0, none⟩ = false ∧
    w.cell? ⟨gn, 0, none⟩ = some (.func (.func 93) #[] #[.pointer (some ⟨ga, 0, none⟩), .pointer (some ⟨gb, 0, none⟩)]) ∧ w.cell? ⟨gm, 0, none⟩ = some (.func (.func 94) #[] #[.pointer (some ⟨gn, 0, none⟩)]) :=
  ⟨one_cell h.hat, one_cell h.hbx, one_fro h.hat, one_cell h.hnx, one_cell h.hnu⟩
theorem TkBy.keep (h : TkBy w0 ga gb gn gm A c b p w) (hb : Below w.heap.size w w1) : TkBy w0 ga gb gn gm A c b p w1 :=
  ⟨lb_box h.hat hb, lb_box h.hbx hb, lb_box h.hnx hb, lb_box h.hnu hb, h.ints, h.below.trans (hb.mono h.below.size), h.le, h.areB, h.len, h.cap, h.pos⟩
theorem TkBy.to (h : TkBy w0 ga gb gn gm A c b p w) (q : Nat) (hq : q ≤ b.length) : TkBy w0 ga gb gn gm A c b q (w.setCell ⟨ga, 0, none⟩ (.int .i64 q)) := by
  obtain ⟨o1, o2, o3⟩ := h.offs
  have hb : But ga w (w.setCell ⟨ga, 0, none⟩ (.int .i64 q)) := (But.refl ga w).set 0 _
  refine ⟨?_, but_box hb h.hbx o1, but_box hb h.hnx o2, but_box hb h.hnu o3, h.ints, hb.below h.below h.le, h.le, h.areB, h.len, h.cap, hq⟩
  simp [World.setCell, Array.getElem?_modify, h.hat]
theorem TkBy.byte (h : TkBy w0 ga gb gn gm A c b p w) (hp : p < b.length) : ∃ a : Addr, A = some a ∧ w.cell? (a.add p) = some (.int .u8 (nth b p)) ∧ 0 ≤ nth b p ∧ nth b p < 256 := by
  obtain ⟨a, e, q⟩ := (h.ints.keep h.below) p hp
  exact ⟨a, e, q, h.areB _ (by simp [nth, List.getD, hp])⟩
theorem TkBy.drewN (h : TkBy w0 ga gb gn gm A c b p w) (n : Nat) : TkBy w0 ga gb gn gm A c b p (w.drewN n) :=
  ⟨h.hat, h.hbx, h.hnx, h.hnu, h.ints, ⟨h.below.os, h.below.tape, h.below.output, h.below.size, h.below.block⟩, h.le, h.areB, h.len, h.cap, h.pos⟩
end
/-- What a taker answers. -/
def TakesI {α : Type} (w0 : World) (ga gb gn gm : Nat) (A : Option Addr) (c : Nat) (b : List Int) (res : α × Tk) (val : α → Value) (w : World) (r : Ending) (w' : World) : Prop :=
  But ga w w' ∧ ((res.2.bad = 0 ∧ r = .returned (val res.1) ∧ TkBy w0 ga gb gn gm A c b res.2.pos w') ∨ (¬ res.2.bad = 0 ∧ r = stopI res.2.bad res.2.place))
section
variable {α : Type} {w0 w w' : World} {ga gb gn gm c : Nat} {A : Option Addr} {b : List Int} {res : α × Tk} {val : α → Value} {r : Ending}
theorem takesI_yes {v : Value} (hb : But ga w w') (h : res.2.bad = 0) (hv : v = val res.1) (hi : TkBy w0 ga gb gn gm A c b res.2.pos w') : TakesI w0 ga gb gn gm A c b res val w (.returned v) w' := ⟨hb, Or.inl ⟨h, by rw [hv], hi⟩⟩
theorem takesI_no {x y : Int} (hb : But ga w w') (h : ¬ res.2.bad = 0) (hx : res.2.bad = x) (hy : res.2.place = y) : TakesI w0 ga gb gn gm A c b res val w (.panicked [{ v := .iface 85 (.agg #[.int .i64 x, .int .i64 y]), recovered := false }]) w' := ⟨hb, Or.inr ⟨h, by rw [hx, hy]; rfl⟩⟩
theorem TakesI.ok (h : TakesI w0 ga gb gn gm A c b res val w r w') (e : res.2.bad = 0) : r = .returned (val res.1) ∧ TkBy w0 ga gb gn gm A c b res.2.pos w' ∧ But ga w w' := by
  obtain ⟨hb, ⟨_, h1, h2⟩ | ⟨h0, _⟩⟩ := h
  · exact ⟨h1, h2, hb⟩
  · exact absurd e h0
theorem TakesI.err (h : TakesI w0 ga gb gn gm A c b res val w r w') (e : ¬ res.2.bad = 0) : r = .panicked [{ v := .iface 85 (.agg #[.int .i64 res.2.bad, .int .i64 res.2.place]), recovered := false }] ∧ But ga w w' := by
  obtain ⟨hb, ⟨h0, _⟩ | ⟨_, h1⟩⟩ := h
  · exact absurd h0 e
  · exact ⟨h1, hb⟩
end

end Go.Proofs.YtfaekkbblpfbhaaDoor
