/-
  The program takes the sum, and looks that nothing is behind it. What recovers a refusal: the deferred closure of taken, entered of a frame that panics, and of one that returns.
-/
import Derived.Test.YtfaekkbblpfbhaaDoorProg
import Derived.WalkKit
import Derived.WalkSpells
import Derived.WalkLawsBesides
import Derived.RowKit3
import Derived.Below
import Derived.Deep.QuietTactic
import Derived.BigQuiet
import Derived.WalkSmall
import Derived.Laws.Rows
import Derived.Test.YtfaekkbblpfbhaaDoorIo28
import Derived.Test.YtfaekkbblpfbhaaDoorIo09
import Derived.Test.YtfaekkbblpfbhaaDoorIo08
import Derived.Defers
import Derived.Recover
namespace Go.Proofs.YtfaekkbblpfbhaaDoor
open Go.RowKit

theorem ints_taken {w : World} {A : Option Addr} {K : IntKind} {l : List Int} (h : IntsAt w A K l) (p : Nat) : IntsAt w A K (l.take p) := fun i hi => by
  have hi' : i < p ∧ i < l.length := by rw [List.length_take] at hi; omega
  obtain ⟨a, e, q⟩ := h i hi'.2
  exact ⟨a, e, by rw [show nth (l.take p) i = nth l i by simp [nth, List.getD, hi'.1]]; exact q⟩
set_option maxRecDepth 100000 in
set_option maxHeartbeats 2000000 in
theorem end_any (w0 : World) (ga gb gn gm : Nat) (A : Option Addr) (c : Nat) (b : List Int) (p : Nat) (w : World) (h : TkBy w0 ga gb gn gm A c b p w) :
    Calls Tryd.prog 82 #[.agg #[.func (.func 92) #[] #[.pointer (some ⟨ga, 0, none⟩)], .func (.func 93) #[] #[.pointer (some ⟨ga, 0, none⟩), .pointer (some ⟨gb, 0, none⟩)], .func (.func 94) #[] #[.pointer (some ⟨gn, 0, none⟩)], .func (.func 95) #[] #[.pointer (some ⟨gm, 0, none⟩)], .func (.func 96) #[] #[.pointer (some ⟨ga, 0, none⟩), .pointer (some ⟨gm, 0, none⟩)]], .slice A b.length c] w (TakesI w0 ga gb gn gm A c b ((), tEnd b ⟨p, 0, 0⟩) (fun _ => .tuple #[]) w) := by
  have hB0 : Below w.heap.size w (w.alloc (.cells #[.func (.func 92) #[] #[.pointer (some ⟨ga, 0, none⟩)], .func (.func 93) #[] #[.pointer (some ⟨ga, 0, none⟩), .pointer (some ⟨gb, 0, none⟩)], .func (.func 94) #[] #[.pointer (some ⟨gn, 0, none⟩)], .func (.func 95) #[] #[.pointer (some ⟨gm, 0, none⟩)], .func (.func 96) #[] #[.pointer (some ⟨ga, 0, none⟩), .pointer (some ⟨gm, 0, none⟩)]] 148)) := lb_alloc (Below.refl _ _) _
  have HI : Hid (TkBy w0 ga gb gn gm A c b p (w.alloc (.cells #[.func (.func 92) #[] #[.pointer (some ⟨ga, 0, none⟩)], .func (.func 93) #[] #[.pointer (some ⟨ga, 0, none⟩), .pointer (some ⟨gb, 0, none⟩)], .func (.func 94) #[] #[.pointer (some ⟨gn, 0, none⟩)], .func (.func 95) #[] #[.pointer (some ⟨gm, 0, none⟩)], .func (.func 96) #[] #[.pointer (some ⟨ga, 0, none⟩), .pointer (some ⟨gm, 0, none⟩)]] 148))) := h.keep hB0
  have HX : Hid ((w.alloc (.cells #[.func (.func 92) #[] #[.pointer (some ⟨ga, 0, none⟩)], .func (.func 93) #[] #[.pointer (some ⟨ga, 0, none⟩), .pointer (some ⟨gb, 0, none⟩)], .func (.func 94) #[] #[.pointer (some ⟨gn, 0, none⟩)], .func (.func 95) #[] #[.pointer (some ⟨gm, 0, none⟩)], .func (.func 96) #[] #[.pointer (some ⟨ga, 0, none⟩), .pointer (some ⟨gm, 0, none⟩)]] 148)).heap[w.heap.size]? = some (.cells #[.func (.func 92) #[] #[.pointer (some ⟨ga, 0, none⟩)], .func (.func 93) #[] #[.pointer (some ⟨ga, 0, none⟩), .pointer (some ⟨gb, 0, none⟩)], .func (.func 94) #[] #[.pointer (some ⟨gn, 0, none⟩)], .func (.func 95) #[] #[.pointer (some ⟨gm, 0, none⟩)], .func (.func 96) #[] #[.pointer (some ⟨ga, 0, none⟩), .pointer (some ⟨gm, 0, none⟩)]] 148 (0, 0))) := heap_alloc_new _ _
  have HB0 : Hid (But ga w (w.alloc (.cells #[.func (.func 92) #[] #[.pointer (some ⟨ga, 0, none⟩)], .func (.func 93) #[] #[.pointer (some ⟨ga, 0, none⟩), .pointer (some ⟨gb, 0, none⟩)], .func (.func 94) #[] #[.pointer (some ⟨gn, 0, none⟩)], .func (.func 95) #[] #[.pointer (some ⟨gm, 0, none⟩)], .func (.func 96) #[] #[.pointer (some ⟨ga, 0, none⟩), .pointer (some ⟨gm, 0, none⟩)]] 148))) := But.of hB0
  have hlt := h.lt
  have hA := h.areB
  have hl := h.len
  have hcap := h.cap
  have hpos := h.pos
  have CP := place_any w0 ga gb gn gm A c b p _ HI.out
  have CN := tnum_any w0 ga gb gn gm A c b p _ HI.out
  clear h hB0
  by_cases h4 : p + 4 ≤ b.length
  · rw [four_yes h4] at CN
    obtain ⟨v0, v1⟩ := (be4_v4 (l := b.drop p) (by simp; omega) (hA.drop p)).2
    obtain ⟨a, rfl, _⟩ := HI.out.ints 0 (by omega)
    have htl : (b.take p).length = p := by rw [List.length_take]; omega
    have CS := fun wx (hb : Below w0.heap.size w0 wx) => sum_any (some a) c (b.take p) wx (ints_taken (HI.out.ints.keep hb) _) (hA.take _) (by omega)
    rw [htl] at CS
    have HE : Hid (tEnd b ⟨p, 0, 0⟩ = if p + 4 < b.length then ⟨p + 4, 27, p + 4⟩ else if v4 (b.drop p) = sumB (b.take p) then ⟨p + 4, 0, 0⟩ else ⟨p + 4, 28, p⟩) := by
      rw [Hid, tEnd, four_yes h4]
      simp
    generalize v4 (b.drop p) = x at *
    generalize sumB (b.take p) = s at *
    go_enter Tryd.func82, Tryd.ntmps82
    go_wp2_with fail
    refine CP.mono ?_
    rintro r w1 ⟨rfl, rfl⟩
    obtain ⟨t0, t1, t2, t3, t4⟩ := box5_cell HX.out
    go_wp2_with fail
    refine CN.mono ?_
    intro r w2 hr
    obtain ⟨rfl, hi, hb⟩ := hr.ok rfl
    have HX2 := but_box hb HX.out (by omega)
    clear hr t0 t1 t2 t3 t4
    obtain ⟨t0, t1, t2, t3, t4⟩ := box5_cell HX2
    have HI2 : Hid (TkBy w0 ga gb gn gm (some a) c b (p + 4) w2) := hi
    have HB2 : Hid (But ga w w2) := HB0.out.trans hb
    have CP2 := place_any w0 ga gb gn gm (some a) c b (p + 4) _ HI2.out
    clear hi hb HX2
    go_wp2_with fail
    refine CP2.mono ?_
    rintro r w3 ⟨rfl, rfl⟩
    by_cases h5 : p + 4 < b.length
    · go_wp2
      refine ⟨rfl, ?_⟩
      rw [HE.out, if_pos h5]
      exact takesI_no HB2.out (by simp) rfl (by simp)
    · have hc' : (b.length : Int) ≤ (c : Int) := by omega
      go_wp2_with fail
      refine (CS _ HI2.out.below).mono ?_
      rintro r w4 ⟨rfl, rfl⟩
      cases hx : (x == s) with
      | true =>
        have hx2 : (x != s) = false := by simpa using hx
        go_wp2
        go_end0
        rw [HE.out, if_neg h5, if_pos (by simpa using hx)]
        exact takesI_yes HB2.out rfl rfl HI2.out
      | false =>
        have hx2 : (x != s) = true := by simpa using hx
        go_wp2
        refine ⟨rfl, ?_⟩
        rw [HE.out, if_neg h5, if_neg (by simpa using hx)]
        exact takesI_no HB2.out (by simp) rfl rfl
  · rw [four_no h4] at CN
    have HE : Hid (tEnd b ⟨p, 0, 0⟩ = ⟨p, 27, b.length⟩) := by
      rw [Hid, tEnd, four_no h4]
      rfl
    go_enter Tryd.func82, Tryd.ntmps82
    go_wp2_with fail
    refine CP.mono ?_
    rintro r w1 ⟨rfl, rfl⟩
    obtain ⟨t0, t1, t2, t3, t4⟩ := box5_cell HX.out
    go_wp2_with fail
    refine CN.mono ?_
    intro r w2 hr
    obtain ⟨rfl, hb⟩ := hr.err (by simp)
    clear hr
    go_wp2
    refine ⟨rfl, ?_⟩
    rw [HE.out]
    exact takesI_no (HB0.out.trans hb) (by simp) rfl rfl

end Go.Proofs.YtfaekkbblpfbhaaDoor

namespace Go.Proofs.YtfaekkbblpfbhaaDoor
open Go.RowKit

theorem ta_nil (w : World) : (Instr.typeAssert .nilIface 20 85 true).run Tryd.prog w = .ok (.tuple #[.agg #[.int .i64 0, .int .i64 0], .bool false]) w := by kernel_rfl
theorem ta_stop (e q : Int) (w : World) : (Instr.typeAssert (.iface 85 (.agg #[.int .i64 e, .int .i64 q])) 20 85 true).run Tryd.prog w = .ok (.tuple #[.agg #[.int .i64 e, .int .i64 q], .bool true]) w := by kernel_rfl
set_option maxRecDepth 100000 in
set_option maxHeartbeats 1000000 in
theorem catch_idle (p : Addr) (w : World) :
    CallsD Tryd.prog 78 #[.pointer (some p)] .returning w fun e u' w' => e = .returned (.tuple #[]) ∧ u' = .returning ∧ w' = w.alloc (.cells #[.int .i64 0, .int .i64 0] 85) := by
  refine callsD_of_wpS Tryd.func78 rfl fun c₀ cs hu => ?_
  apply wpS_seq
  apply wpS_region
  simp [wpOpsS, go_sem, recoverD, hu, Tryd.ntmps78, Exit.thenS, ta_nil]
  apply wpS_seq
  apply wpS_region
  simp [wpOpsS, go_sem, Exit.thenS]
  refine wpS_cond (t := false) (by simp [Act.eval, Array.replicate]) ?_
  simp only [Bool.false_eq_true, if_false]
  refine wpS_of_wp (wp_skip ?_)
  cases c₀
  simp_all [bodyPostS, results, Tryd.results78]
set_option maxRecDepth 100000 in
set_option maxHeartbeats 1000000 in
theorem catch_stop (g : Nat) (e q : Int) (x y : Value) (older : List PanicEntry) (w : World) (hb : w.heap[g]? = some (.cells #[x, y] 85 (0, 0))) :
    CallsD Tryd.prog 78 #[.pointer (some ⟨g, 0, none⟩)] (.panicking ({ v := .iface 85 (.agg #[.int .i64 e, .int .i64 q]), recovered := false } :: older)) w fun r u' w' =>
      r = .returned (.tuple #[]) ∧ u' = .panicking ({ v := .iface 85 (.agg #[.int .i64 e, .int .i64 q]), recovered := true } :: older) ∧ w' = ((w.alloc (.cells #[.int .i64 e, .int .i64 q] 85)).setCell ⟨g, 0, none⟩ (.int .i64 e)).setCell ⟨g, 1, none⟩ (.int .i64 q) := by
  refine callsD_of_wpS Tryd.func78 rfl fun c₀ cs hu => ?_
  apply wpS_seq
  apply wpS_region
  simp [wpOpsS, go_sem, recoverD, hu, Tryd.ntmps78, Exit.thenS, ta_stop]
  have hb1 : (w.alloc (.cells #[.int .i64 e, .int .i64 q] 85)).heap[g]? = some (.cells #[x, y] 85 (0, 0)) := lb_box hb (lb_alloc (Below.refl _ _) _)
  have d0 : (w.alloc (.cells #[.int .i64 e, .int .i64 q] 85)).cell? ⟨g, 0, none⟩ = some x := by simp [World.cell?, hb1]
  have d1 : (w.alloc (.cells #[.int .i64 e, .int .i64 q] 85)).cell? ⟨g, 1, none⟩ = some y := by simp [World.cell?, hb1]
  have f0 : (w.alloc (.cells #[.int .i64 e, .int .i64 q] 85)).frozen? ⟨g, 0, none⟩ = false := by simp [World.frozen?, hb1]
  have f1 : (w.alloc (.cells #[.int .i64 e, .int .i64 q] 85)).frozen? ⟨g, 1, none⟩ = false := by simp [World.frozen?, hb1]
  clear hb hb1
  apply wpS_seq
  apply wpS_region
  simp [wpOpsS, go_sem, Exit.thenS]
  refine wpS_cond (t := true) (by simp [Act.eval, Array.replicate]) ?_
  simp only [if_true]
  apply wpS_region
  simp [wpOpsS, go_sem, d0, d1, f0, f1, bodyPostS, results, Tryd.results78, Array.replicate]

end Go.Proofs.YtfaekkbblpfbhaaDoor
