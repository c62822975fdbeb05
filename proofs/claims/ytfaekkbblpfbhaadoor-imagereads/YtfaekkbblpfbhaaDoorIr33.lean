/-
  The document looks at an image; each word is of 32 bits. The takers take the beginning.
-/
import Derived.Test.YtfaekkbblpfbhaaDoorProg
import Derived.WalkKit
import Derived.WalkSpells
import Derived.WalkLawsBesides
import Derived.RowKit3
import Derived.Below
import Derived.Deep.QuietTactic
import Derived.BigQuiet
import Derived.WalkSmall
import Derived.Laws.Rows
import Derived.Test.YtfaekkbblpfbhaaDoorIr16
import Derived.Test.YtfaekkbblpfbhaaDoorIr18
import Derived.Test.YtfaekkbblpfbhaaDoorIr20
import Derived.Test.YtfaekkbblpfbhaaDoorIr09
import Derived.Test.YtfaekkbblpfbhaaDoorIr32
namespace Go.Proofs.YtfaekkbblpfbhaaDoor
open Go.RowKit

set_option maxRecDepth 100000 in
set_option maxHeartbeats 1000000 in
theorem refcheck_any (A1 A2 : Option Addr) (c1 ml c2 : Nat) (ent : Int) (text : List Int) (w : World) (hT : IntsAt w A1 .u32 text) (hR : ∀ i, i < text.length → 0 ≤ nth text i ∧ nth text i < 4294967296) (hl : text.length ≤ 1048576) (hm : ml ≤ 1048576) :
    Calls Tryd.prog 10 #[.agg #[.slice A1 text.length c1, .int .i64 ent, .slice A2 ml c2]] w (ChkP (checkI text ml ent).1 (checkI text ml ent).2 w) := by
  by_cases h0 : text.length = 0
  · rw [check0 h0, h0]
    go_enter Tryd.func10, Tryd.ntmps10
    go_wp2
    go_ret2
    exact ⟨rfl, lb_alloc (Below.refl _ _) _⟩
  have n0 : ((text.length : Int) == 0) = false := by simpa using h0
  by_cases h1 : 16384 < text.length
  · rw [check1 h0 h1]
    go_enter Tryd.func10, Tryd.ntmps10
    go_wp2
    go_ret2
    exact ⟨rfl, lb_alloc (Below.refl _ _) _⟩
  by_cases h2 : 4096 < ml
  · rw [check2 h0 h1 h2]
    go_enter Tryd.func10, Tryd.ntmps10
    go_wp2
    go_ret2
    exact ⟨rfl, lb_alloc (Below.refl _ _) _⟩
  by_cases h3 : ent < 0
  · rw [check3 h0 h1 h2 (.inl h3)]
    go_enter Tryd.func10, Tryd.ntmps10
    go_wp2
    go_ret2
    exact ⟨rfl, lb_alloc (Below.refl _ _) _⟩
  by_cases h4 : (text.length : Int) ≤ ent
  · rw [check3 h0 h1 h2 (.inr h4)]
    go_enter Tryd.func10, Tryd.ntmps10
    go_wp2
    go_ret2
    exact ⟨rfl, lb_alloc (Below.refl _ _) _⟩
  have HP : Hid (Past text ml ent) := ⟨by omega, by omega, by omega, by omega, by omega⟩
  have HB0 : Hid (Below w.heap.size w (w.alloc (.cells #[.slice A1 text.length c1, .int .i64 ent, .slice A2 ml c2] 25))) := lb_alloc (Below.refl _ _) _
  have HX : Hid ((w.alloc (.cells #[.slice A1 text.length c1, .int .i64 ent, .slice A2 ml c2] 25)).heap[w.heap.size]? = some (.cells #[.slice A1 text.length c1, .int .i64 ent, .slice A2 ml c2] 25 (0, 0))) := heap_alloc_new _ _
  clear h1 h2 h3 h4
  have hlen : text.length ≤ 16384 := HP.out.len
  have hml := HP.out.mem
  have hpos := HP.out.pos
  have he0 := HP.out.ent0
  have he1 := HP.out.ent1
  go_enter Tryd.func10, Tryd.ntmps10
  go_wp2
  go_loopw [5] (fun i wr => ∃ k : Nat, i = .int .i64 k ∧ k ≤ text.length ∧ Hid (∀ j, j < k → farT text j = false) ∧ Hid (Below (w.alloc (.cells #[.slice A1 text.length c1, .int .i64 ent, .slice A2 ml c2] 25)).heap.size (w.alloc (.cells #[.slice A1 text.length c1, .int .i64 ent, .slice A2 ml c2] 25)) wr)) (fun i _ => text.length - (intOf i).toNat)
  case atStart => exact ⟨0, rfl, by omega, fun j hj => by omega, Below.refl _ _⟩
  case round =>
    obtain ⟨k, rfl, hk, hj, hb⟩ := hrel
    have HBr : Hid (Below w.heap.size w wr) := lb_trans HB0.out hb.out
    have hx := lb_box0 HX.out hb.out
    by_cases hlt : k < text.length
    · obtain ⟨a, rfl, q⟩ := (hT.keep HBr.out) k hlt
      have x0 : wr.cell? ⟨w.heap.size, 0, none⟩ = some (.slice (some a) text.length c1) := by simp [World.cell?, hx]
      obtain ⟨hv0, hv1⟩ := hR k hlt
      have C := reftarget_any (nth text k) hv0 hv1 wr
      have HF : Hid (farT text k = (isT (nth text k) && decide ((text.length : Int) ≤ tgV (nth text k)))) := rfl
      generalize nth text k = v at *
      generalize isT v = t at *
      generalize tgV v = z at *
      clear hx
      cases t with
      | false =>
        go_wp2_with (go_at_call 33; refine C.mono ?_; rintro e w1 ⟨rfl, hb1⟩)
        go_roundw
        case rel => exact ⟨k + 1, by go_num, by omega, fun j hj1 => by
          by_cases hjk : j = k
          · subst hjk; rw [HF.out]; rfl
          · exact hj.out j (by omega), lb_trans hb.out hb1⟩
        case measure => simp [intOf]; omega
      | true =>
        by_cases hz : (text.length : Int) ≤ z
        · go_wp2_with (go_at_call 33; refine C.mono ?_; rintro e w1 ⟨rfl, hb1⟩)
          go_ret2
          have e := check_far HP.out hlt hj.out (by rw [HF.out]; simpa using hz)
          rw [e]
          exact ⟨rfl, lb_trans HBr.out hb1⟩
        · go_wp2_with (go_at_call 33; refine C.mono ?_; rintro e w1 ⟨rfl, hb1⟩)
          go_roundw
          case rel => exact ⟨k + 1, by go_num, by omega, fun j hj1 => by
            by_cases hjk : j = k
            · subst hjk; rw [HF.out]; simpa using hz
            · exact hj.out j (by omega), lb_trans hb.out hb1⟩
          case measure => simp [intOf]; omega
    · obtain rfl : k = text.length := by omega
      obtain ⟨a, rfl, q⟩ := (hT.keep HBr.out) (text.length - 1) (by omega)
      have x0 : wr.cell? ⟨w.heap.size, 0, none⟩ = some (.slice (some a) text.length c1) := by simp [World.cell?, hx]
      obtain ⟨hv0, hv1⟩ := hR (text.length - 1) (by omega)
      have C := refdecode_any (nth text (text.length - 1)) hv0 hv1 wr
      have HE : Hid _ := check_end HP.out hj.out
      have HL : Hid (lastOK (nth text (text.length - 1)) = decide (dOp (nth text (text.length - 1)) = 0 ∨ dOp (nth text (text.length - 1)) = 15 ∨ dOp (nth text (text.length - 1)) = 19 ∨ dOp (nth text (text.length - 1)) = 21)) := rfl
      have hc : ((text.length - 1 : Nat) : Int) = (text.length : Int) - 1 := by omega
      generalize nth text (text.length - 1) = v at *
      generalize dOp v = x at *
      generalize dD v = x1 at *
      generalize dA v = x2 at *
      generalize dB v = x3 at *
      generalize dN v = x4 at *
      generalize lastOK v = t at *
      clear hx
      go_wp2_with (go_at_call 34; refine C.mono ?_; rintro e w1 ⟨rfl, hb1⟩)
      all_goals (
        go_ret2
        rw [HE.out, HL.out]
        refine ⟨?_, lb_trans HBr.out hb1⟩
        by_cases hd : x = 0 ∨ x = 15 ∨ x = 19 ∨ x = 21
        · rw [decide_eq_true hd]
          first
            | rfl
            | (exfalso; simp_all)
        · rw [decide_eq_false hd]
          first
            | (exfalso; simp_all; done)
            | (simp; omega))

end Go.Proofs.YtfaekkbblpfbhaaDoor

namespace Go.Proofs.YtfaekkbblpfbhaaDoor
open Go.RowKit

theorem box5_cell {w : World} {B : Nat} {x0 x1 x2 x3 x4 : Value} {t : TypeId} (h : w.heap[B]? = some (.cells #[x0, x1, x2, x3, x4] t (0, 0))) : w.cell? ⟨B, 0, none⟩ = some x0 ∧ w.cell? ⟨B, 1, none⟩ = some x1 ∧ w.cell? ⟨B, 2, none⟩ = some x2 ∧ w.cell? ⟨B, 3, none⟩ = some x3 ∧ w.cell? ⟨B, 4, none⟩ = some x4 := by
  refine ⟨?_, ?_, ?_, ?_, ?_⟩ <;> simp [World.cell?, h]
set_option maxRecDepth 100000 in
set_option maxHeartbeats 1000000 in
theorem begin_any (w0 : World) (ga gb gn gm : Nat) (A : Option Addr) (c : Nat) (b : List Int) (w : World) (hG : Beg w) (h : TkBy w0 ga gb gn gm A c b 0 w) :
    Calls Tryd.prog 80 #[.agg #[.func (.func 92) #[] #[.pointer (some ⟨ga, 0, none⟩)], .func (.func 93) #[] #[.pointer (some ⟨ga, 0, none⟩), .pointer (some ⟨gb, 0, none⟩)], .func (.func 94) #[] #[.pointer (some ⟨gn, 0, none⟩)], .func (.func 95) #[] #[.pointer (some ⟨gm, 0, none⟩)], .func (.func 96) #[] #[.pointer (some ⟨ga, 0, none⟩), .pointer (some ⟨gm, 0, none⟩)]]] w (TakesI w0 ga gb gn gm A c b ((), tBegin b begI) (fun _ => .tuple #[]) w) := by
  have HB0 : Hid (Below w.heap.size w (w.alloc (.cells #[.func (.func 92) #[] #[.pointer (some ⟨ga, 0, none⟩)], .func (.func 93) #[] #[.pointer (some ⟨ga, 0, none⟩), .pointer (some ⟨gb, 0, none⟩)], .func (.func 94) #[] #[.pointer (some ⟨gn, 0, none⟩)], .func (.func 95) #[] #[.pointer (some ⟨gm, 0, none⟩)], .func (.func 96) #[] #[.pointer (some ⟨ga, 0, none⟩), .pointer (some ⟨gm, 0, none⟩)]] 148))) := lb_alloc (Below.refl _ _) _
  obtain ⟨b0, b1, b2, b3⟩ := (hG.below HB0.out).cells
  have HX : Hid ((w.alloc (.cells #[.func (.func 92) #[] #[.pointer (some ⟨ga, 0, none⟩)], .func (.func 93) #[] #[.pointer (some ⟨ga, 0, none⟩), .pointer (some ⟨gb, 0, none⟩)], .func (.func 94) #[] #[.pointer (some ⟨gn, 0, none⟩)], .func (.func 95) #[] #[.pointer (some ⟨gm, 0, none⟩)], .func (.func 96) #[] #[.pointer (some ⟨ga, 0, none⟩), .pointer (some ⟨gm, 0, none⟩)]] 148)).heap[w.heap.size]? = some (.cells #[.func (.func 92) #[] #[.pointer (some ⟨ga, 0, none⟩)], .func (.func 93) #[] #[.pointer (some ⟨ga, 0, none⟩), .pointer (some ⟨gb, 0, none⟩)], .func (.func 94) #[] #[.pointer (some ⟨gn, 0, none⟩)], .func (.func 95) #[] #[.pointer (some ⟨gm, 0, none⟩)], .func (.func 96) #[] #[.pointer (some ⟨ga, 0, none⟩), .pointer (some ⟨gm, 0, none⟩)]] 148 (0, 0))) := heap_alloc_new _ _
  have hga := h.lt
  have HI : Hid _ := h.keep HB0.out
  clear h hG
  go_enter Tryd.func80, Tryd.ntmps80
  go_wp2
  go_loopw [5] (fun i wr => ∃ k : Nat, k ≤ 4 ∧ k ≤ b.length ∧ i = .int .i64 k ∧ Hid (∀ j, j < k → mis b begI j = false) ∧ Hid (TkBy w0 ga gb gn gm A c b k wr) ∧ Hid (But ga (w.alloc (.cells #[.func (.func 92) #[] #[.pointer (some ⟨ga, 0, none⟩)], .func (.func 93) #[] #[.pointer (some ⟨ga, 0, none⟩), .pointer (some ⟨gb, 0, none⟩)], .func (.func 94) #[] #[.pointer (some ⟨gn, 0, none⟩)], .func (.func 95) #[] #[.pointer (some ⟨gm, 0, none⟩)], .func (.func 96) #[] #[.pointer (some ⟨ga, 0, none⟩), .pointer (some ⟨gm, 0, none⟩)]] 148)) wr)) (fun i _ => 4 - (intOf i).toNat)
  case atStart => exact ⟨0, by omega, by omega, rfl, fun j hj => by omega, HI.out, But.refl _ _⟩
  case round =>
    obtain ⟨k, hk, hkb, rfl, hj, hin, HB⟩ := hrel
    have HBw : Hid (But ga w wr) := (But.of HB0.out).trans HB.out
    obtain ⟨-, x1, -, -, -⟩ := box5_cell (but_box HB.out HX.out (by omega))
    by_cases hlt : k < 4
    · have hix := idxBeg k hlt
      by_cases hlb : k < b.length
      · have C := next_ok w0 ga gb gn gm A c b k _ hin.out hlb
        have HM : Hid (mis b begI k = (nth b k != nth begI k)) := by
          show _ = _
          unfold mis
          rw [decide_eq_false (by omega), Bool.false_or]
        generalize nth b k = x at *
        generalize nth begI k = y at *
        cases hxy : (x == y) with
        | true =>
          have hxn : (x != y) = false := by simpa using hxy
          have HN : Hid _ := hxn
          go_wp2_with (go_at_call 93; refine C.mono ?_; rintro e w1 ⟨rfl, hin1, hb1⟩)
          go_roundw
          case rel => exact ⟨k + 1, by omega, by omega, by go_num, fun j hj1 => by
            by_cases hjk : j = k
            · subst hjk; rw [HM.out, HN.out]
            · exact hj.out j (by omega), hin1, HB.out.trans hb1⟩
          case measure => simp [intOf]; omega
        | false =>
          have hxn : (x != y) = true := by simpa using hxy
          have HN : Hid _ := hxn
          go_wp2_with (go_at_call 93; refine C.mono ?_; rintro e w1 ⟨rfl, hin1, hb1⟩)
          refine ⟨rfl, ?_⟩
          rw [begin_no (b := b) (want := begI) (k := k) hlt hj.out (by rw [HM.out, HN.out])]
          exact takesI_no (HBw.out.trans hb1) (by simp) rfl rfl
      · have C := next_end w0 ga gb gn gm A c b k _ hin.out (by omega)
        go_wp2_with (go_at_call 93; refine C.mono ?_; rintro e w1 ⟨rfl, rfl⟩)
        refine ⟨rfl, ?_⟩
        rw [begin_no (b := b) (want := begI) (k := k) hlt hj.out (by unfold mis; rw [decide_eq_true (by omega)]; rfl)]
        exact takesI_no HBw.out (by simp) rfl (by show (k : Int) = b.length; omega)
    · obtain rfl : k = 4 := by omega
      go_wp2
      go_end0
      rw [begin_yes (b := b) (want := begI) hj.out]
      exact takesI_yes HBw.out rfl rfl hin.out

end Go.Proofs.YtfaekkbblpfbhaaDoor
