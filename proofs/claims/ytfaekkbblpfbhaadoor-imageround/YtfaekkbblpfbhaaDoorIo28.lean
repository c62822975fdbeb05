/-
  The bytes with which it must begin, one by one; no Go in sight. The takers take the beginning.
-/
import Derived.Test.YtfaekkbblpfbhaaDoorIo07
import Derived.Test.YtfaekkbblpfbhaaDoorProg
import Derived.WalkKit
import Derived.WalkSpells
import Derived.WalkLawsBesides
import Derived.RowKit3
import Derived.Below
import Derived.Deep.QuietTactic
import Derived.BigQuiet
import Derived.WalkSmall
import Derived.Laws.Rows
import Derived.Test.YtfaekkbblpfbhaaDoorIo20
import Derived.Test.YtfaekkbblpfbhaaDoorIo09
namespace Go.Proofs.YtfaekkbblpfbhaaDoor
open Go.RowKit

def mis (b want : List Int) (i : Nat) : Bool := decide (b.length ≤ i) || nth b i != nth want i
theorem begin_no {b want : List Int} {k : Nat} (hk : k < want.length) (h : ∀ j, j < k → mis b want j = false) (e : mis b want k = true) : tBegin b want = ⟨want.length, 27, k⟩ := by
  unfold tBegin
  have : (List.range want.length).find? (fun i => decide (b.length ≤ i) || nth b i != nth want i) = some k := by
    rw [List.find?_range_eq_some]
    exact ⟨e, by simpa using hk, fun j hj => by have := h j hj; unfold mis at this; rw [this]; rfl⟩
  rw [this]
theorem begin_yes {b want : List Int} (h : ∀ j, j < want.length → mis b want j = false) : tBegin b want = ⟨want.length, 0, 0⟩ := by
  unfold tBegin
  have : (List.range want.length).find? (fun i => decide (b.length ≤ i) || nth b i != nth want i) = none := by
    rw [List.find?_eq_none]
    intro j hj
    have := h j (by simpa using hj)
    unfold mis at this
    rw [this]; simp
  rw [this]

end Go.Proofs.YtfaekkbblpfbhaaDoor

namespace Go.Proofs.YtfaekkbblpfbhaaDoor
open Go.RowKit

theorem box5_cell {w : World} {B : Nat} {x0 x1 x2 x3 x4 : Value} {t : TypeId} (h : w.heap[B]? = some (.cells #[x0, x1, x2, x3, x4] t (0, 0))) : w.cell? ⟨B, 0, none⟩ = some x0 ∧ w.cell? ⟨B, 1, none⟩ = some x1 ∧ w.cell? ⟨B, 2, none⟩ = some x2 ∧ w.cell? ⟨B, 3, none⟩ = some x3 ∧ w.cell? ⟨B, 4, none⟩ = some x4 := by
  refine ⟨?_, ?_, ?_, ?_, ?_⟩ <;> simp [World.cell?, h]
set_option maxRecDepth 100000 in
set_option maxHeartbeats 1000000 in
theorem begin_any (w0 : World) (ga gb gn gm : Nat) (A : Option Addr) (c : Nat) (b : List Int) (w : World) (hG : Beg w) (h : TkBy w0 ga gb gn gm A c b 0 w) :
    Calls Tryd.prog 80 #[.agg #[.func (.func 92) #[] #[.pointer (some ⟨ga, 0, none⟩)], .func (.func 93) #[] #[.pointer (some ⟨ga, 0, none⟩), .pointer (some ⟨gb, 0, none⟩)], .func (.func 94) #[] #[.pointer (some ⟨gn, 0, none⟩)], .func (.func 95) #[] #[.pointer (some ⟨gm, 0, none⟩)], .func (.func 96) #[] #[.pointer (some ⟨ga, 0, none⟩), .pointer (some ⟨gm, 0, none⟩)]]] w (TakesI w0 ga gb gn gm A c b ((), tBegin b begI) (fun _ => .tuple #[]) w) := by
  have HB0 : Hid (Below w.heap.size w (w.alloc (.cells #[.func (.func 92) #[] #[.pointer (some ⟨ga, 0, none⟩)], .func (.func 93) #[] #[.pointer (some ⟨ga, 0, none⟩), .pointer (some ⟨gb, 0, none⟩)], .func (.func 94) #[] #[.pointer (some ⟨gn, 0, none⟩)], .func (.func 95) #[] #[.pointer (some ⟨gm, 0, none⟩)], .func (.func 96) #[] #[.pointer (some ⟨ga, 0, none⟩), .pointer (some ⟨gm, 0, none⟩)]] 148))) := lb_alloc (Below.refl _ _) _
  obtain ⟨b0, b1, b2, b3⟩ := (hG.below HB0.out).cells
  have HX : Hid ((w.alloc (.cells #[.func (.func 92) #[] #[.pointer (some ⟨ga, 0, none⟩)], .func (.func 93) #[] #[.pointer (some ⟨ga, 0, none⟩), .pointer (some ⟨gb, 0, none⟩)], .func (.func 94) #[] #[.pointer (some ⟨gn, 0, none⟩)], .func (.func 95) #[] #[.pointer (some ⟨gm, 0, none⟩)], .func (.func 96) #[] #[.pointer (some ⟨ga, 0, none⟩), .pointer (some ⟨gm, 0, none⟩)]] 148)).heap[w.heap.size]? = some (.cells #[.func (.func 92) #[] #[.pointer (some ⟨ga, 0, none⟩)], .func (.func 93) #[] #[.pointer (some ⟨ga, 0, none⟩), .pointer (some ⟨gb, 0, none⟩)], .func (.func 94) #[] #[.pointer (some ⟨gn, 0, none⟩)], .func (.func 95) #[] #[.pointer (some ⟨gm, 0, none⟩)], .func (.func 96) #[] #[.pointer (some ⟨ga, 0, none⟩), .pointer (some ⟨gm, 0, none⟩)]] 148 (0, 0))) := heap_alloc_new _ _
  have hga := h.lt
  have HI : Hid _ := h.keep HB0.out
  clear h hG
  go_enter Tryd.func80, Tryd.ntmps80
  go_wp2
  go_loopw [5] (fun i wr => ∃ k : Nat, k ≤ 4 ∧ k ≤ b.length ∧ i = .int .i64 k ∧ Hid (∀ j, j < k → mis b begI j = false) ∧ Hid (TkBy w0 ga gb gn gm A c b k wr) ∧ Hid (But ga (w.alloc (.cells #[.func (.func 92) #[] #[.pointer (some ⟨ga, 0, none⟩)], .func (.func 93) #[] #[.pointer (some ⟨ga, 0, none⟩), .pointer (some ⟨gb, 0, none⟩)], .func (.func 94) #[] #[.pointer (some ⟨gn, 0, none⟩)], .func (.func 95) #[] #[.pointer (some ⟨gm, 0, none⟩)], .func (.func 96) #[] #[.pointer (some ⟨ga, 0, none⟩), .pointer (some ⟨gm, 0, none⟩)]] 148)) wr)) (fun i _ => 4 - (intOf i).toNat)
  case atStart => exact ⟨0, by omega, by omega, rfl, fun j hj => by omega, HI.out, But.refl _ _⟩
  case round =>
    obtain ⟨k, hk, hkb, rfl, hj, hin, HB⟩ := hrel
    have HBw : Hid (But ga w wr) := (But.of HB0.out).trans HB.out
    obtain ⟨-, x1, -, -, -⟩ := box5_cell (but_box HB.out HX.out (by omega))
    by_cases hlt : k < 4
    · have hix := idxBeg k hlt
      by_cases hlb : k < b.length
      · have C := next_ok w0 ga gb gn gm A c b k _ hin.out hlb
        have HM : Hid (mis b begI k = (nth b k != nth begI k)) := by
          show _ = _
          unfold mis
          rw [decide_eq_false (by omega), Bool.false_or]
        generalize nth b k = x at *
        generalize nth begI k = y at *
        cases hxy : (x == y) with
        | true =>
          have hxn : (x != y) = false := by simpa using hxy
          have HN : Hid _ := hxn
          go_wp2_with (go_at_call 93; refine C.mono ?_; rintro e w1 ⟨rfl, hin1, hb1⟩)
          go_roundw
          case rel => exact ⟨k + 1, by omega, by omega, by go_num, fun j hj1 => by
            by_cases hjk : j = k
            · subst hjk; rw [HM.out, HN.out]
            · exact hj.out j (by omega), hin1, HB.out.trans hb1⟩
          case measure => simp [intOf]; omega
        | false =>
          have hxn : (x != y) = true := by simpa using hxy
          have HN : Hid _ := hxn
          go_wp2_with (go_at_call 93; refine C.mono ?_; rintro e w1 ⟨rfl, hin1, hb1⟩)
          refine ⟨rfl, ?_⟩
          rw [begin_no (b := b) (want := begI) (k := k) hlt hj.out (by rw [HM.out, HN.out])]
          exact takesI_no (HBw.out.trans hb1) (by simp) rfl rfl
      · have C := next_end w0 ga gb gn gm A c b k _ hin.out (by omega)
        go_wp2_with (go_at_call 93; refine C.mono ?_; rintro e w1 ⟨rfl, rfl⟩)
        refine ⟨rfl, ?_⟩
        rw [begin_no (b := b) (want := begI) (k := k) hlt hj.out (by unfold mis; rw [decide_eq_true (by omega)]; rfl)]
        exact takesI_no HBw.out (by simp) rfl (by show (k : Int) = b.length; omega)
    · obtain rfl : k = 4 := by omega
      go_wp2
      go_end0
      rw [begin_yes (b := b) (want := begI) hj.out]
      exact takesI_yes HBw.out rfl rfl hin.out

end Go.Proofs.YtfaekkbblpfbhaaDoor
