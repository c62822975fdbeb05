/-
  What recovers a refusal: the deferred closure of taken, entered of a frame that panics, and of one that returns. taken of package image, by what it returns.
-/
import Derived.Test.YtfaekkbblpfbhaaDoorProg
import Derived.WalkKit
import Derived.WalkSpells
import Derived.WalkLawsBesides
import Derived.RowKit3
import Derived.Below
import Derived.Deep.QuietTactic
import Derived.BigQuiet
import Derived.WalkSmall
import Derived.Laws.Rows
import Derived.Test.YtfaekkbblpfbhaaDoorIt08
import Derived.Defers
import Derived.Recover
import Derived.Test.YtfaekkbblpfbhaaDoorIt35
namespace Go.Proofs.YtfaekkbblpfbhaaDoor
open Go.RowKit

theorem ta_nil (w : World) : (Instr.typeAssert .nilIface 20 85 true).run Tryd.prog w = .ok (.tuple #[.agg #[.int .i64 0, .int .i64 0], .bool false]) w := by kernel_rfl
theorem ta_stop (e q : Int) (w : World) : (Instr.typeAssert (.iface 85 (.agg #[.int .i64 e, .int .i64 q])) 20 85 true).run Tryd.prog w = .ok (.tuple #[.agg #[.int .i64 e, .int .i64 q], .bool true]) w := by kernel_rfl
set_option maxRecDepth 100000 in
set_option maxHeartbeats 1000000 in
theorem catch_idle (p : Addr) (w : World) :
    CallsD Tryd.prog 78 #[.pointer (some p)] .returning w fun e u' w' => e = .returned (.tuple #[]) ∧ u' = .returning ∧ w' = w.alloc (.cells #[.int .i64 0, .int .i64 0] 85) := by
  refine callsD_of_wpS Tryd.func78 rfl fun c₀ cs hu => ?_
  apply wpS_seq
  apply wpS_region
  simp [wpOpsS, go_sem, recoverD, hu, Tryd.ntmps78, Exit.thenS, ta_nil]
  apply wpS_seq
  apply wpS_region
  simp [wpOpsS, go_sem, Exit.thenS]
  refine wpS_cond (t := false) (by simp [Act.eval, Array.replicate]) ?_
  simp only [Bool.false_eq_true, if_false]
  refine wpS_of_wp (wp_skip ?_)
  cases c₀
  simp_all [bodyPostS, results, Tryd.results78]
set_option maxRecDepth 100000 in
set_option maxHeartbeats 1000000 in
theorem catch_stop (g : Nat) (e q : Int) (x y : Value) (older : List PanicEntry) (w : World) (hb : w.heap[g]? = some (.cells #[x, y] 85 (0, 0))) :
    CallsD Tryd.prog 78 #[.pointer (some ⟨g, 0, none⟩)] (.panicking ({ v := .iface 85 (.agg #[.int .i64 e, .int .i64 q]), recovered := false } :: older)) w fun r u' w' =>
      r = .returned (.tuple #[]) ∧ u' = .panicking ({ v := .iface 85 (.agg #[.int .i64 e, .int .i64 q]), recovered := true } :: older) ∧ w' = ((w.alloc (.cells #[.int .i64 e, .int .i64 q] 85)).setCell ⟨g, 0, none⟩ (.int .i64 e)).setCell ⟨g, 1, none⟩ (.int .i64 q) := by
  refine callsD_of_wpS Tryd.func78 rfl fun c₀ cs hu => ?_
  apply wpS_seq
  apply wpS_region
  simp [wpOpsS, go_sem, recoverD, hu, Tryd.ntmps78, Exit.thenS, ta_stop]
  have hb1 : (w.alloc (.cells #[.int .i64 e, .int .i64 q] 85)).heap[g]? = some (.cells #[x, y] 85 (0, 0)) := lb_box hb (lb_alloc (Below.refl _ _) _)
  have d0 : (w.alloc (.cells #[.int .i64 e, .int .i64 q] 85)).cell? ⟨g, 0, none⟩ = some x := by simp [World.cell?, hb1]
  have d1 : (w.alloc (.cells #[.int .i64 e, .int .i64 q] 85)).cell? ⟨g, 1, none⟩ = some y := by simp [World.cell?, hb1]
  have f0 : (w.alloc (.cells #[.int .i64 e, .int .i64 q] 85)).frozen? ⟨g, 0, none⟩ = false := by simp [World.frozen?, hb1]
  have f1 : (w.alloc (.cells #[.int .i64 e, .int .i64 q] 85)).frozen? ⟨g, 1, none⟩ = false := by simp [World.frozen?, hb1]
  clear hb hb1
  apply wpS_seq
  apply wpS_region
  simp [wpOpsS, go_sem, Exit.thenS]
  refine wpS_cond (t := true) (by simp [Act.eval, Array.replicate]) ?_
  simp only [if_true]
  apply wpS_region
  simp [wpOpsS, go_sem, d0, d1, f0, f1, bodyPostS, results, Tryd.results78, Array.replicate]

end Go.Proofs.YtfaekkbblpfbhaaDoor

namespace Go.Proofs.YtfaekkbblpfbhaaDoor
open Go.RowKit

/-- An image, whatever it is. -/
def IsImg (u : Value) : Prop := ∃ (A1 A2 : Option Addr) (n1 n2 c1 c2 : Nat) (e : Int), u = .agg #[.slice A1 n1 c1, .int .i64 e, .slice A2 n2 c2]
/-- What taken answers. -/
def TakenP (b : List Int) (w : World) (r : Ending) (w' : World) : Prop :=
  Below w.heap.size w w' ∧ (((tookI b).t.bad = 0 ∧ ∃ (A1 A2 : Option Addr) (c1 c2 : Nat), r = .returned (.tuple #[.agg #[.slice A1 (tookI b).text.length c1, .int .i64 (s32 (tookI b).ent), .slice A2 (tookI b).mem.length c2], .agg #[.int .i64 0, .int .i64 0]]) ∧ RowsI w' w.heap.size A1 A2 c1 c2 (tookI b).text (tookI b).mem) ∨
    (¬ (tookI b).t.bad = 0 ∧ ∃ u, IsImg u ∧ r = .returned (.tuple #[u, .agg #[.int .i64 (tookI b).t.bad, .int .i64 (tookI b).t.place]])))
theorem tookI_begin {b : List Int} (h : ¬ (tBegin b begI).bad = 0) : (tookI b).t = tBegin b begI := by
  show tEnd b (jMem b (tBegin b begI)).2 = _
  have e : (jMem b (tBegin b begI)).2 = tBegin b begI := by
    have e1 : (jText b (tBegin b begI)).2 = tBegin b begI := all_stick h
    rw [jmem_text (by rw [e1]; exact h), e1]
  rw [e, end_stick h]
theorem begin_good {b : List Int} (h : (tBegin b begI).bad = 0) : tBegin b begI = ⟨4, 0, 0⟩ := by
  unfold tBegin at h ⊢
  split at h
  · cases h
  · rfl
theorem tookI_mem {b : List Int} (h : (tBegin b begI).bad = 0) (h2 : ¬ (jMem b ⟨4, 0, 0⟩).2.bad = 0) : (tookI b).t = (jMem b ⟨4, 0, 0⟩).2 := by
  show tEnd b (jMem b (tBegin b begI)).2 = _
  rw [begin_good h, end_stick h2]
theorem tookI_parts {b : List Int} (h : (tBegin b begI).bad = 0) : tookI b = ⟨(jText b ⟨4, 0, 0⟩).1, (jEnt b ⟨4, 0, 0⟩).1, (jMem b ⟨4, 0, 0⟩).1, tEnd b (jMem b ⟨4, 0, 0⟩).2⟩ := by
  have e := begin_good h
  show TookI.mk (jText b (tBegin b begI)).1 (jEnt b (tBegin b begI)).1 (jMem b (tBegin b begI)).1 (tEnd b (jMem b (tBegin b begI)).2) = _
  rw [e]
theorem plain_jmem {b : List Int} {p : Nat} (h : (jMem b ⟨p, 0, 0⟩).2.bad = 0) : (jMem b ⟨p, 0, 0⟩).2 = ⟨(jMem b ⟨p, 0, 0⟩).2.pos, 0, 0⟩ := by
  have h1 : (jEnt b ⟨p, 0, 0⟩).2.bad = 0 := by
    by_cases k : (jEnt b ⟨p, 0, 0⟩).2.bad = 0
    · exact k
    · rw [jmem_ent k] at h; exact absurd h k
  have h2 : (jText b ⟨p, 0, 0⟩).2.bad = 0 := by
    by_cases k : (jText b ⟨p, 0, 0⟩).2.bad = 0
    · exact k
    · unfold jEnt at h1; rw [four_stick k] at h1; exact absurd h1 k
  have e2 : (jText b ⟨p, 0, 0⟩).2 = ⟨(jText b ⟨p, 0, 0⟩).2.pos, 0, 0⟩ := plain_tk (plain_all (plain_four b) b 16384) h2
  have e1 : (jEnt b ⟨p, 0, 0⟩).2 = ⟨(jEnt b ⟨p, 0, 0⟩).2.pos, 0, 0⟩ := by
    unfold jEnt at h1 ⊢
    rw [e2] at h1 ⊢
    exact plain_tk (plain_four b) h1
  unfold jMem at h ⊢
  rw [e1] at h ⊢
  exact plain_tk (plain_all (plain_eight b) b 4096) h
theorem box_other {w : World} {B P : Nat} {o : Obj} (h : w.heap[B]? = some o) (hB : B ≠ P) (i : Nat) (v : Value) : (w.setCell ⟨P, i, none⟩ v).heap[B]? = some o := (Below.heap_setCell _ _ _ _ hB).trans h
theorem TkBy.home {w w2 w3 : World} {ga gb gn gm c p : Nat} {A : Option Addr} {b : List Int} (h : TkBy w2 ga gb gn gm A c b p w3) (hB : IntsAt w A .u8 b) (hb : Below w.heap.size w w2) : TkBy w ga gb gn gm A c b p w3 :=
  ⟨h.hat, h.hbx, h.hnx, h.hnu, hB, lb_trans hb h.below, Nat.le_trans hb.size h.le, h.areB, h.len, h.cap, h.pos⟩
theorem TkBy.setX {w0 w : World} {ga gb gn gm c p P : Nat} {A : Option Addr} {b : List Int} {cs : Array Value} (h : TkBy w0 ga gb gn gm A c b p w) (hx : w.heap[P]? = some (.cells cs 25 (0, 0))) (hP : w0.heap.size ≤ P) (i : Nat) (v : Value) : TkBy w0 ga gb gn gm A c b p (w.setCell ⟨P, i, none⟩ v) := by
  have o1 : ga ≠ P := fun e => by have k := h.hat; rw [e, hx] at k; cases k
  have o2 : gb ≠ P := fun e => by have k := h.hbx; rw [e, hx] at k; cases k
  have o3 : gn ≠ P := fun e => by have k := h.hnx; rw [e, hx] at k; cases k
  have o4 : gm ≠ P := fun e => by have k := h.hnu; rw [e, hx] at k; cases k
  exact h.sameAt (Below.heap_setCell _ _ _ _ o1) (Below.heap_setCell _ _ _ _ o2) (Below.heap_setCell _ _ _ _ o3) (Below.heap_setCell _ _ _ _ o4) (h.below.setCell hP _)
theorem but_below2 {w w1 w2 : World} {g : Nat} (hb : Below w.heap.size w w1) (hg : w.heap.size ≤ g) (h : But g w1 w2) : Below w.heap.size w w2 := h.below hb hg
/-- The end of a frame whose refusal is recovered: the place and the error stand in the second result. -/
theorem stop_end {b : List Int} {w wx : World} {t : Tk} {A1 A2 : Option Addr} {n1 n2 c1 c2 : Nat} {y : Int} (hb : Below w.heap.size w wx) (e : (tookI b).t = t) (h : ¬ t.bad = 0)
    (_hx : wx.heap[w.heap.size]? = some (.cells #[.slice A1 n1 c1, .int .i64 y, .slice A2 n2 c2] 25 (0, 0))) :
    TakenP b w (.returned (.tuple #[.agg #[.slice A1 n1 c1, .int .i64 y, .slice A2 n2 c2], .agg #[.int .i64 t.bad, .int .i64 t.place]])) wx := by
  subst e
  exact ⟨hb, Or.inr ⟨h, _, ⟨A1, A2, n1, n2, c1, c2, y, rfl⟩, rfl⟩⟩
theorem box2_cell {w : World} {B : Nat} {x y : Value} {t : TypeId} (h : w.heap[B]? = some (.cells #[x, y] t (0, 0))) : w.cell? ⟨B, 0, none⟩ = some x ∧ w.cell? ⟨B, 1, none⟩ = some y := by
  refine ⟨?_, ?_⟩ <;> simp [World.cell?, h]
set_option maxRecDepth 100000 in
theorem leave_ok {R : Ending → World → Prop} {wx : World} {tmps : Array Value} {g g2 : Nat} {X0 X1 X2 Y0 Y1 : Value} (h2 : tmps[2]? = some (.pointer (some ⟨g, 0, none⟩))) (h3 : tmps[3]? = some (.pointer (some ⟨g2, 0, none⟩)))
    (hx : wx.heap[g]? = some (.cells #[X0, X1, X2] 25 (0, 0))) (hy : wx.heap[g2]? = some (.cells #[Y0, Y1] 85 (0, 0))) (hR : R (.returned (.tuple #[.agg #[X0, X1, X2], .agg #[Y0, Y1]])) wx) : Leaves Tryd.prog Tryd.f59 tmps R [] .returning wx := by
  obtain ⟨x0, x1, x2⟩ := box3_cell hx
  obtain ⟨y0, y1⟩ := box2_cell hy
  clear hx hy
  refine ⟨_, ?_, hR⟩
  simp [results, Tryd.results59, go_sem, h2, h3, x0, x1, x2, y0, y1]
/-- A refusal goes through the door: it is recovered, and told. -/
theorem stop_leave {b : List Int} {w w5 : World} {tmps : Array Value} {t : Tk} {A1 A2 : Option Addr} {n1 n2 c1 c2 : Nat} {y : Int} (HB5 : Below w.heap.size w w5) (e : (tookI b).t = t) (h : ¬ t.bad = 0) (HX5 : w5.heap[w.heap.size]? = some (.cells #[.slice A1 n1 c1, .int .i64 y, .slice A2 n2 c2] 25 (0, 0))) (HY5 : w5.heap[w.heap.size + 1]? = some (.cells #[.int .i64 0, .int .i64 0] 85 (0, 0)))
    (h2 : tmps[2]? = some (.pointer (some ⟨w.heap.size, 0, none⟩))) (h3 : tmps[3]? = some (.pointer (some ⟨w.heap.size + 1, 0, none⟩))) :
    bodyPostD Tryd.prog Tryd.f59 (TakenP b w) (.panic [{ v := .iface 85 (.agg #[.int .i64 t.bad, .int .i64 t.place]), recovered := false }]) { tmps := tmps, defers := [{ target := Target.fn (Fn.func 78) #[.pointer (some ⟨w.heap.size + 1, 0, none⟩)], args := #[] }] } w5 := by
  refine leaves_cons (f := 78) (args := #[.pointer (some ⟨w.heap.size + 1, 0, none⟩)]) (by simp) (by simp [go_sem]) ?_
  refine (catch_stop (w.heap.size + 1) t.bad t.place (.int .i64 0) (.int .i64 0) [] _ HY5).mono ?_
  rintro e u' w'' ⟨rfl, rfl, rfl⟩
  have HY6 := box_set (box_set (old_at (o' := .cells #[.int .i64 t.bad, .int .i64 t.place] 85) HY5) 0 (.int .i64 t.bad)) 1 (.int .i64 t.place)
  have HX6 := box_other (box_other (old_at (o' := .cells #[.int .i64 t.bad, .int .i64 t.place] 85) HX5) (show w.heap.size ≠ w.heap.size + 1 by omega) 0 (.int .i64 t.bad)) (show w.heap.size ≠ w.heap.size + 1 by omega) 1 (.int .i64 t.place)
  refine leave_ok (g := w.heap.size) (g2 := w.heap.size + 1) h2 h3 HX6 HY6 ?_
  exact stop_end (t := t) (((lb_alloc HB5 _).setCell (Nat.le_succ _) _).setCell (Nat.le_succ _) _) (by assumption) h HX6
set_option maxRecDepth 100000 in
set_option maxHeartbeats 4000000 in
theorem taken_any (A : Option Addr) (c : Nat) (b : List Int) (w : World) (hG : Beg w) (hB : IntsAt w A .u8 b) (hA : AreB b) (hN : b.length ≤ 1048576) (hc : b.length ≤ c) :
    Calls Tryd.prog 59 #[.slice A b.length c] w (TakenP b w) := by
  have hmf : ∀ (fn : Fn) (first cap : Array Value) (w : World), (Instr.makeFunc fn first cap).run Tryd.prog w = .ok (.func fn first cap) w := fun _ _ _ _ => rfl
  obtain ⟨w2, hw2⟩ : ∃ w2, Hid ((w.alloc (.cells #[.slice none 0 0, .int .i64 0, .slice none 0 0] 25)).alloc (.cells #[.int .i64 0, .int .i64 0] 85) = w2) := ⟨_, rfl⟩
  have HB2 : Hid (Below w.heap.size w w2) := by rw [Hid, ← hw2.out]; exact lb_alloc (lb_alloc (Below.refl _ _) _) _
  have HX2 : Hid (w2.heap[w.heap.size]? = some (.cells #[.slice none 0 0, .int .i64 0, .slice none 0 0] 25 (0, 0))) := by rw [Hid, ← hw2.out]; exact old_at (new_at rfl)
  have HY2 : Hid (w2.heap[w.heap.size + 1]? = some (.cells #[.int .i64 0, .int .i64 0] 85 (0, 0))) := by rw [Hid, ← hw2.out]; exact new_at (by simp)
  have HS2 : Hid (w2.heap.size = w.heap.size + 2) := by rw [Hid, ← hw2.out]; simp
  have C1 := of_any A c b ((w.alloc (.cells #[.slice none 0 0, .int .i64 0, .slice none 0 0] 25)).alloc (.cells #[.int .i64 0, .int .i64 0] 85)) (by rw [hw2.out]; exact hB.keep HB2.out) hA hN hc
  rw [hw2.out] at C1
  have hG2 : Hid (Beg w2) := hG.below HB2.out
  have Hga : Hid (w2.heap.size ≤ w2.heap.size + 1 + 1) := by show _ ≤ _; omega
  generalize w2.heap.size + 1 + 1 + 1 + 1 = gm at C1
  generalize w2.heap.size + 1 + 1 + 1 = gn at C1
  generalize w2.heap.size + 1 + 1 = ga at C1 Hga
  have HgX : Hid (w.heap.size ≠ ga ∧ w.heap.size + 1 ≠ ga ∧ w.heap.size ≤ ga) := by
    have := Hga.out
    have := HS2.out
    exact ⟨by omega, by omega, by omega⟩
  clear hG
  have hB : Hid (IntsAt w A .u8 b) := hB
  go_enter_defers Tryd.func59, Tryd.ntmps59
  go_wp2_with fail
  rw [hw2.out]
  refine C1.mono ?_
  rintro r w3 ⟨rfl, hi, hb⟩
  have hi := hi.home hB.out HB2.out
  have HB3 : Hid (Below w2.heap.size w2 (w3.alloc (.cells #[.func (.func 92) #[] #[.pointer (some ⟨ga, 0, none⟩)], .func (.func 93) #[] #[.pointer (some ⟨ga, 0, none⟩), .pointer (some ⟨w2.heap.size, 0, none⟩)], .func (.func 94) #[] #[.pointer (some ⟨gn, 0, none⟩)], .func (.func 95) #[] #[.pointer (some ⟨gm, 0, none⟩)], .func (.func 96) #[] #[.pointer (some ⟨ga, 0, none⟩), .pointer (some ⟨gm, 0, none⟩)]] 148))) := lb_alloc hb _
  have HI3 : Hid _ := hi.keep (lb_alloc (Below.refl _ _) (.cells #[.func (.func 92) #[] #[.pointer (some ⟨ga, 0, none⟩)], .func (.func 93) #[] #[.pointer (some ⟨ga, 0, none⟩), .pointer (some ⟨w2.heap.size, 0, none⟩)], .func (.func 94) #[] #[.pointer (some ⟨gn, 0, none⟩)], .func (.func 95) #[] #[.pointer (some ⟨gm, 0, none⟩)], .func (.func 96) #[] #[.pointer (some ⟨ga, 0, none⟩), .pointer (some ⟨gm, 0, none⟩)]] 148))
  have HT3 : Hid ((w3.alloc (.cells #[.func (.func 92) #[] #[.pointer (some ⟨ga, 0, none⟩)], .func (.func 93) #[] #[.pointer (some ⟨ga, 0, none⟩), .pointer (some ⟨w2.heap.size, 0, none⟩)], .func (.func 94) #[] #[.pointer (some ⟨gn, 0, none⟩)], .func (.func 95) #[] #[.pointer (some ⟨gm, 0, none⟩)], .func (.func 96) #[] #[.pointer (some ⟨ga, 0, none⟩), .pointer (some ⟨gm, 0, none⟩)]] 148)).heap[w3.heap.size]? = some (.cells #[.func (.func 92) #[] #[.pointer (some ⟨ga, 0, none⟩)], .func (.func 93) #[] #[.pointer (some ⟨ga, 0, none⟩), .pointer (some ⟨w2.heap.size, 0, none⟩)], .func (.func 94) #[] #[.pointer (some ⟨gn, 0, none⟩)], .func (.func 95) #[] #[.pointer (some ⟨gm, 0, none⟩)], .func (.func 96) #[] #[.pointer (some ⟨ga, 0, none⟩), .pointer (some ⟨gm, 0, none⟩)]] 148 (0, 0))) := heap_alloc_new _ _
  have HX3 : Hid _ := lb_box HX2.out HB3.out
  have HY3 : Hid _ := lb_box HY2.out HB3.out
  have H3a : Hid (w3.heap.size ≠ ga ∧ w3.heap.size ≠ w.heap.size) := by
    have h1 := hi.lt
    have h2 := hb.size
    have h3 := HS2.out
    exact ⟨by omega, by omega⟩
  have CB := begin_any w ga w2.heap.size gn gm A c b _ (hG2.out.below HB3.out) HI3.out
  clear hi hb C1 hw2 HX2 HY2
  go_wp2_with fail
  refine CB.mono ?_
  intro r w4 hr
  by_cases hz : (tBegin b begI).bad = 0
  · have hk := begin_good hz
    rw [hk] at hr
    obtain ⟨rfl, hi, hb⟩ := hr.ok rfl
    have HTK : Hid _ := tookI_parts hz
    have HB4 : Hid (Below w2.heap.size w2 w4) := hb.below HB3.out Hga.out
    have HT4 : Hid _ := but_box hb HT3.out H3a.out.1
    have HX4 : Hid _ := but_box hb HX3.out HgX.out.1
    have HY4 : Hid _ := but_box hb HY3.out HgX.out.2.1
    have HI4 : Hid (TkBy w ga w2.heap.size gn gm A c b 4 w4) := hi
    obtain ⟨t0, t1, t2, t3, t4⟩ := box5_cell HT4.out
    have hga4 : Hid (ga < w4.heap.size) := HI4.out.lt
    have CI := image_any w ga w2.heap.size gn gm A c b 4 _ HI4.out
    clear hr hi hb CB HT3 HX3 HY3 HI3 HB3 hz hk
    go_wp2_with fail
    refine CI.mono ?_
    intro r w5 hr
    obtain ⟨hb, ⟨hz, A1, A2, k1, k2, rfl, hrow, hi⟩ | ⟨hz, hr⟩⟩ := hr
    · have HE : Hid (tookI b = ⟨(jText b ⟨4, 0, 0⟩).1, (jEnt b ⟨4, 0, 0⟩).1, (jMem b ⟨4, 0, 0⟩).1, tEnd b ⟨(jMem b ⟨4, 0, 0⟩).2.pos, 0, 0⟩⟩) := by
        rw [Hid, HTK.out, ← plain_jmem hz]
      have HY5 : Hid _ := but_box hb HY4.out HgX.out.2.1
      have HX5 : Hid _ := but_box hb HX4.out HgX.out.1
      have HT5 : Hid _ := but_box hb HT4.out H3a.out.1
      have HB5 : Hid (Below w2.heap.size w2 w5) := hb.below HB4.out Hga.out
      have HR5 : Hid _ := hrow
      have hz4 : w2.heap.size ≤ w4.heap.size := HB4.out.size
      have HI5 : Hid _ := hi
      obtain ⟨x0, x1, x2⟩ := box3_cell HX5.out
      obtain ⟨t0, t1, t2, t3, t4⟩ := box5_cell HT5.out
      have f0 := box_fro HX5.out 0
      have f1 := box_fro HX5.out 1
      have f2 := box_fro HX5.out 2
      generalize (jText b ⟨4, 0, 0⟩).1 = text at *
      generalize (jEnt b ⟨4, 0, 0⟩).1 = ent at *
      generalize (jMem b ⟨4, 0, 0⟩).1 = mem at *
      generalize (jMem b ⟨4, 0, 0⟩).2.pos = q at *
      clear hb hrow hi hz CI HTK HT4 HX4 HY4 HI4
      have hne := H3a.out.2
      have HI6 : Hid _ := ((HI5.out.setX HX5.out (Nat.le_refl _) 0 (.slice A1 text.length k1)).setX (box_set HX5.out 0 _) (Nat.le_refl _) 1 (.int .i64 (s32 ent))).setX (box_set (box_set HX5.out 0 _) 1 _) (Nat.le_refl _) 2 (.slice A2 mem.length k2)
      have HX6 : Hid _ := box_set (box_set (box_set HX5.out 0 (.slice A1 text.length k1)) 1 (.int .i64 (s32 ent))) 2 (.slice A2 mem.length k2)
      have HX6 : Hid ((((w5.setCell ⟨w.heap.size, 0, none⟩ (.slice A1 text.length k1)).setCell ⟨w.heap.size, 1, none⟩ (.int .i64 (s32 ent))).setCell ⟨w.heap.size, 2, none⟩ (.slice A2 mem.length k2)).heap[w.heap.size]? = some (.cells #[.slice A1 text.length k1, .int .i64 (s32 ent), .slice A2 mem.length k2] 25 (0, 0))) := HX6.out
      have HY6 : Hid _ := box_other (box_other (box_other HY5.out (show w.heap.size + 1 ≠ w.heap.size by omega) 0 (.slice A1 text.length k1)) (show w.heap.size + 1 ≠ w.heap.size by omega) 1 (.int .i64 (s32 ent))) (show w.heap.size + 1 ≠ w.heap.size by omega) 2 (.slice A2 mem.length k2)
      have HB6 : Hid _ := (((lb_trans HB2.out HB5.out).setCell (Nat.le_refl _) (p := ⟨w.heap.size, 0, none⟩) (.slice A1 text.length k1)).setCell (Nat.le_refl _) (p := ⟨w.heap.size, 1, none⟩) (.int .i64 (s32 ent))).setCell (Nat.le_refl _) (p := ⟨w.heap.size, 2, none⟩) (.slice A2 mem.length k2)
      have HR6 : Hid _ := ((HR5.out.set (show w.heap.size < w4.heap.size by have := HS2.out; omega) 0 (.slice A1 text.length k1)).set (show w.heap.size < w4.heap.size by have := HS2.out; omega) 1 (.int .i64 (s32 ent))).set (show w.heap.size < w4.heap.size by have := HS2.out; omega) 2 (.slice A2 mem.length k2)
      have CE := end_any w ga w2.heap.size gn gm A c b q _ HI6.out
      go_wp2_with fail
      refine CE.mono ?_
      intro r w7 hr
      by_cases hz : (tEnd b ⟨q, 0, 0⟩).bad = 0
      · obtain ⟨rfl, hi, hb⟩ := hr.ok hz
        have HB7 : Hid (Below w.heap.size w w7) := hb.below HB6.out HgX.out.2.2
        have HX7 : Hid _ := but_box hb HX6.out HgX.out.1
        have HY7 : Hid _ := but_box hb HY6.out HgX.out.2.1
        have HR7 : Hid _ := HR6.out.but hb hga4.out
        have HZ : Hid _ := hz
        clear hr hi hb hz CE x0 x1 x2 t0 t1 t2 t3 t4 f0 f1 f2
        obtain ⟨x0, x1, x2⟩ := box3_cell HX7.out
        obtain ⟨y0, y1⟩ := box2_cell HY7.out
        have f0 := box_fro HX7.out 0
        have f1 := box_fro HX7.out 1
        have f2 := box_fro HX7.out 2
        have g0 := box_fro HY7.out 0
        have g1 := box_fro HY7.out 1
        have HX8 : Hid _ := box_other (box_other (box_set (box_set (box_set HX7.out 0 (.slice A1 text.length k1)) 1 (.int .i64 (s32 ent))) 2 (.slice A2 mem.length k2)) (show w.heap.size ≠ w.heap.size + 1 by omega) 0 (.int .i64 0)) (show w.heap.size ≠ w.heap.size + 1 by omega) 1 (.int .i64 0)
        have HY8 : Hid _ := box_set (box_set (box_other (box_other (box_other HY7.out (show w.heap.size + 1 ≠ w.heap.size by omega) 0 (.slice A1 text.length k1)) (show w.heap.size + 1 ≠ w.heap.size by omega) 1 (.int .i64 (s32 ent))) (show w.heap.size + 1 ≠ w.heap.size by omega) 2 (.slice A2 mem.length k2)) 0 (.int .i64 0)) 1 (.int .i64 0)
        have HW : Hid (w.heap.size < w4.heap.size ∧ w.heap.size + 1 < w4.heap.size) := by
          have h1 := HS2.out
          exact ⟨by omega, by omega⟩
        have HR8 : Hid _ := ((((HR7.out.set HW.out.1 0 (.slice A1 text.length k1)).set HW.out.1 1 (.int .i64 (s32 ent))).set HW.out.1 2 (.slice A2 mem.length k2)).set HW.out.2 0 (.int .i64 0)).set HW.out.2 1 (.int .i64 0)
        have HB8 : Hid _ := ((((HB7.out.setCell (Nat.le_refl _) (p := ⟨w.heap.size, 0, none⟩) (.slice A1 text.length k1)).setCell (Nat.le_refl _) (p := ⟨w.heap.size, 1, none⟩) (.int .i64 (s32 ent))).setCell (Nat.le_refl _) (p := ⟨w.heap.size, 2, none⟩) (.slice A2 mem.length k2)).setCell (Nat.le_succ _) (p := ⟨w.heap.size + 1, 0, none⟩) (.int .i64 0)).setCell (Nat.le_succ _) (p := ⟨w.heap.size + 1, 1, none⟩) (.int .i64 0)
        go_wp2_with fail
        go_region
        all_goals (
          go_wp2
          refine leaves_cons (f := 78) (args := #[.pointer (some ⟨w.heap.size + 1, 0, none⟩)]) (by simp) (by simp [go_sem]) ?_
          refine (catch_idle ⟨w.heap.size + 1, 0, none⟩ _).mono ?_
          rintro e u' w'' ⟨rfl, rfl, rfl⟩
          refine leave_ok (g := w.heap.size) (g2 := w.heap.size + 1) rfl rfl (old_at HX8.out) (old_at HY8.out) ?_
          have hb9 := lb_alloc (Below.refl _ (((((w7.setCell ⟨w.heap.size, 0, none⟩ (.slice A1 text.length k1)).setCell ⟨w.heap.size, 1, none⟩ (.int .i64 (s32 ent))).setCell ⟨w.heap.size, 2, none⟩ (.slice A2 mem.length k2)).setCell ⟨w.heap.size + 1, 0, none⟩ (.int .i64 0)).setCell ⟨w.heap.size + 1, 1, none⟩ (.int .i64 0))) (.cells #[.int .i64 0, .int .i64 0] 85)
          have hb := lb_trans HB8.out hb9
          have hr := (HR8.out.keep hb9).mono (show w.heap.size ≤ w4.heap.size by have := HW.out; omega)
          refine ⟨⟨hb.os, hb.tape, hb.output, hb.size, hb.block⟩, Or.inl ?_⟩
          rw [HE.out]
          exact ⟨HZ.out, A1, A2, k1, k2, rfl, ⟨hr.r1, hr.r2⟩⟩)
      · have HZ : Hid _ := hz
        obtain ⟨rfl, hb⟩ := hr.err hz
        have HEt : Hid ((tookI b).t = tEnd b ⟨q, 0, 0⟩) := by rw [Hid, HE.out]
        have HY7 := but_box hb HY6.out HgX.out.2.1
        have HX7 := but_box hb HX6.out HgX.out.1
        have HB7 : Hid (Below w.heap.size w w7) := hb.below HB6.out HgX.out.2.2
        clear hr hz CE HE
        simp only
        generalize tEnd b ⟨q, 0, 0⟩ = T at *
        go_wp2
        exact stop_leave HB7.out HEt.out HZ.out HX7 HY7 rfl rfl
    · have hr : r = .panicked [{ v := .iface 85 (.agg #[.int .i64 (jMem b ⟨4, 0, 0⟩).2.bad, .int .i64 (jMem b ⟨4, 0, 0⟩).2.place]), recovered := false }] := hr
      subst hr
      have HE : Hid ((tookI b).t = (jMem b ⟨4, 0, 0⟩).2) := by rw [Hid, HTK.out]; exact end_stick hz
      have HY5 := but_box hb HY4.out HgX.out.2.1
      have HX5 := but_box hb HX4.out HgX.out.1
      have HB5 : Hid (Below w.heap.size w w5) := lb_trans HB2.out (hb.below HB4.out Hga.out)
      have HZ : Hid _ := hz
      generalize (jMem b ⟨4, 0, 0⟩).2 = T at *
      go_wp2
      exact stop_leave HB5.out HE.out HZ.out HX5 HY5 rfl rfl
  · have HE : Hid _ := tookI_begin hz
    obtain ⟨rfl, hb⟩ := hr.err hz
    have HY5 := but_box hb HY3.out HgX.out.2.1
    have HX5 := but_box hb HX3.out HgX.out.1
    have HB5 : Hid (Below w.heap.size w w4) := lb_trans HB2.out (hb.below HB3.out Hga.out)
    have HZ : Hid _ := hz
    clear hr hz CB
    simp only
    generalize tBegin b begI = T at *
    go_wp2
    exact stop_leave HB5.out HE.out HZ.out HX5 HY5 rfl rfl

end Go.Proofs.YtfaekkbblpfbhaaDoor
