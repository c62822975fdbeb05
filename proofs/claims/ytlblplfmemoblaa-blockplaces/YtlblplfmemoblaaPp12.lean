/-
  leaves and Check of package image, by what they return; each word is of 32 bits. What gather answers. A row of cells and a map are not one; new blocks.
-/
import Derived.Test.YtlblplfmemoblaaProg
import Derived.WalkKit
import Derived.WalkSpells
import Derived.WalkLawsBesides
import Derived.RowKit3
import Derived.Below
import Derived.Deep.QuietTactic
import Derived.BigQuiet
import Derived.WalkSmall
import Derived.Laws.Rows
import Derived.Test.YtlblplfmemoblaaPp05
import Derived.Test.YtlblplfmemoblaaPp10
import Derived.Test.YtlblplfmemoblaaPp11
import Derived.Test.YtlblplfmemoblaaPp03
import Derived.Deep.AppendLies
namespace Go.Proofs.Ytlblplfmemoblaa
open Go.RowKit

theorem leaves_any (v : Int) (h0 : 0 ≤ v) (h1 : v < 4294967296) (w : World) : Calls Try.prog 44 #[.int .u32 v] w fun e w' => e = .returned (.bool (lastOK v)) ∧ Below w.heap.size w w' := by
  have C := isadecode_any v h0 h1 w
  unfold lastOK
  generalize dOp v = x at *
  generalize dD v = x1 at *
  generalize dA v = x2 at *
  generalize dB v = x3 at *
  generalize dN v = x4 at *
  go_enter Try.func44, Try.ntmps44
  go_wp2_with fail
  refine C.mono ?_
  rintro e w1 ⟨rfl, hb⟩
  clear C
  go_wp2
  all_goals (
    go_ret
    refine ⟨retB ?_, hb⟩
    simp_all)
theorem lb_box0 {w w1 : World} {B : Nat} {cs : Array Value} {t : TypeId} (h : w.heap[B]? = some (.cells cs t (0, 0))) (hb : Below w.heap.size w w1) : w1.heap[B]? = some (.cells cs t (0, 0)) := by
  rw [hb.block B (Array.getElem?_eq_some_iff.1 h).1]; exact h
def ChkP (E N : Int) (w : World) (e : Ending) (w' : World) : Prop := e = .returned (.tuple #[.int .i64 E, .int .i64 N]) ∧ Below w.heap.size w w'
set_option maxRecDepth 100000 in
set_option maxHeartbeats 1000000 in
theorem check_any (A1 A2 : Option Addr) (c1 ml c2 : Nat) (ent : Int) (text : List Int) (w : World) (hT : IntsAt w A1 .u32 text) (hR : ∀ i, i < text.length → 0 ≤ nth text i ∧ nth text i < 4294967296) (hl : text.length ≤ 1048576) (hm : ml ≤ 1048576) :
    Calls Try.prog 37 #[.agg #[.slice A1 text.length c1, .int .i64 ent, .slice A2 ml c2]] w (ChkP (checkI text ml ent).1 (checkI text ml ent).2 w) := by
  by_cases h0 : text.length = 0
  · rw [check0 h0, h0]
    go_enter Try.func37, Try.ntmps37
    go_wp2
    go_ret2
    exact ⟨rfl, lb_alloc (Below.refl _ _) _⟩
  have n0 : ((text.length : Int) == 0) = false := by simpa using h0
  by_cases h1 : 16384 < text.length
  · rw [check1 h0 h1]
    go_enter Try.func37, Try.ntmps37
    go_wp2
    go_ret2
    exact ⟨rfl, lb_alloc (Below.refl _ _) _⟩
  by_cases h2 : 4096 < ml
  · rw [check2 h0 h1 h2]
    go_enter Try.func37, Try.ntmps37
    go_wp2
    go_ret2
    exact ⟨rfl, lb_alloc (Below.refl _ _) _⟩
  by_cases h3 : ent < 0
  · rw [check3 h0 h1 h2 (.inl h3)]
    go_enter Try.func37, Try.ntmps37
    go_wp2
    go_ret2
    exact ⟨rfl, lb_alloc (Below.refl _ _) _⟩
  by_cases h4 : (text.length : Int) ≤ ent
  · rw [check3 h0 h1 h2 (.inr h4)]
    go_enter Try.func37, Try.ntmps37
    go_wp2
    go_ret2
    exact ⟨rfl, lb_alloc (Below.refl _ _) _⟩
  have HP : Hid (Past text ml ent) := ⟨by omega, by omega, by omega, by omega, by omega⟩
  have HB0 : Hid (Below w.heap.size w (w.alloc (.cells #[.slice A1 text.length c1, .int .i64 ent, .slice A2 ml c2] 25))) := lb_alloc (Below.refl _ _) _
  have HX : Hid ((w.alloc (.cells #[.slice A1 text.length c1, .int .i64 ent, .slice A2 ml c2] 25)).heap[w.heap.size]? = some (.cells #[.slice A1 text.length c1, .int .i64 ent, .slice A2 ml c2] 25 (0, 0))) := heap_alloc_new _ _
  have HS : Hid (∀ i, i < text.length → ∃ a : Addr, A1 = some a) := fun i hi => (hT i hi).imp fun a h => h.1
  clear h1 h2 h3 h4
  have hlen : text.length ≤ 16384 := HP.out.len
  have hml := HP.out.mem
  have hpos := HP.out.pos
  have he0 := HP.out.ent0
  have he1 := HP.out.ent1
  go_enter Try.func37, Try.ntmps37
  go_wp2
  go_loopw [37] (fun i wr => ∃ k : Nat, i = .int .i64 k ∧ k ≤ text.length ∧ Hid (∀ j, j < k → farT text j = false) ∧ Hid (Below (w.alloc (.cells #[.slice A1 text.length c1, .int .i64 ent, .slice A2 ml c2] 25)).heap.size (w.alloc (.cells #[.slice A1 text.length c1, .int .i64 ent, .slice A2 ml c2] 25)) wr)) (fun i _ => text.length - (intOf i).toNat)
  case atStart => exact ⟨0, rfl, by omega, fun j hj => by omega, Below.refl _ _⟩
  case round =>
    obtain ⟨k, rfl, hk, hj, hb⟩ := hrel
    have HBr : Hid (Below w.heap.size w wr) := lb_trans HB0.out hb.out
    by_cases hlt : k < text.length
    · obtain ⟨a, rfl, q⟩ := (hT.keep HBr.out) k hlt
      obtain ⟨hv0, hv1⟩ := hR k hlt
      have C := isatarget_any (nth text k) hv0 hv1 wr
      have HF : Hid (farT text k = (isT (nth text k) && decide ((text.length : Int) ≤ tgV (nth text k)))) := rfl
      generalize nth text k = v at *
      generalize isT v = t at *
      generalize tgV v = z at *
      cases t with
      | false =>
        go_wp2_with (go_at_call 39; refine C.mono ?_; rintro e w1 ⟨rfl, hb1⟩)
        go_roundw
        case rel => exact ⟨k + 1, by go_num, by omega, fun j hj1 => by
          by_cases hjk : j = k
          · subst hjk; rw [HF.out]; rfl
          · exact hj.out j (by omega), lb_trans hb.out hb1⟩
        case measure => simp [intOf]; omega
      | true =>
        by_cases hz : (text.length : Int) ≤ z
        · go_wp2_with (go_at_call 39; refine C.mono ?_; rintro e w1 ⟨rfl, hb1⟩)
          go_ret2
          have e := check_far HP.out hlt hj.out (by rw [HF.out]; simpa using hz)
          rw [e]
          exact ⟨rfl, lb_trans HBr.out hb1⟩
        · go_wp2_with (go_at_call 39; refine C.mono ?_; rintro e w1 ⟨rfl, hb1⟩)
          go_roundw
          case rel => exact ⟨k + 1, by go_num, by omega, fun j hj1 => by
            by_cases hjk : j = k
            · subst hjk; rw [HF.out]; simpa using hz
            · exact hj.out j (by omega), lb_trans hb.out hb1⟩
          case measure => simp [intOf]; omega
    · obtain rfl : k = text.length := by omega
      obtain ⟨a, rfl, q⟩ := (hT.keep HBr.out) (text.length - 1) (by omega)
      have hx := lb_box0 HX.out hb.out
      have x0 : wr.cell? ⟨w.heap.size, 0, none⟩ = some (.slice (some a) text.length c1) := by simp [World.cell?, hx]
      obtain ⟨hv0, hv1⟩ := hR (text.length - 1) (by omega)
      have C := leaves_any (nth text (text.length - 1)) hv0 hv1 wr
      have HE : Hid _ := check_end HP.out hj.out
      have hc : ((text.length - 1 : Nat) : Int) = (text.length : Int) - 1 := by omega
      generalize nth text (text.length - 1) = v at *
      generalize lastOK v = t at *
      cases t with
      | true =>
        go_wp2_with (go_at_call 44; refine C.mono ?_; rintro e w1 ⟨rfl, hb1⟩)
        go_ret2
        rw [HE.out]
        exact ⟨rfl, lb_trans HBr.out hb1⟩
      | false =>
        go_wp2_with (go_at_call 44; refine C.mono ?_; rintro e w1 ⟨rfl, hb1⟩)
        go_ret2
        rw [HE.out]
        exact ⟨by simp; omega, lb_trans HBr.out hb1⟩



end Go.Proofs.Ytlblplfmemoblaa

namespace Go.Proofs.Ytlblplfmemoblaa
open Go.RowKit

/-- The places that are told: none, if the image may not be. -/
def outL (text : List Int) (ml : Nat) (ent : Int) (f : Int → Bool) : List Int := if (checkI text ml ent).1 = 0 then plcT f text.length else []
theorem outL_ok {text : List Int} {ml : Nat} {ent : Int} {f : Int → Bool} (h : (checkI text ml ent).1 = 0) : outL text ml ent f = plcT f text.length := if_pos h
theorem outL_no {text : List Int} {ml : Nat} {ent : Int} {f : Int → Bool} (h : ¬ (checkI text ml ent).1 = 0) : outL text ml ent f = [] := if_neg h
def GatP (E : Int) (ps : List Int) (w : World) (e : Ending) (w' : World) : Prop :=
  ∃ (A : Option Addr) (c : Nat), e = .returned (.tuple #[.slice A ps.length c, .int .i64 E]) ∧ w'.ownsRow w.heap.size 3 1 (.slice A ps.length c) ps.length (iVals .i64 ps) ∧ Below w.heap.size w w'
theorem gat_no {text : List Int} {ml : Nat} {ent : Int} {f : Int → Bool} (h : ¬ (checkI text ml ent).1 = 0) {w w' : World} (hb : Below w.heap.size w w') : GatP (checkI text ml ent).1 (outL text ml ent f) w (.returned (.tuple #[.slice none 0 0, .int .i64 (checkI text ml ent).1])) w' := by
  rw [outL_no h]
  exact ⟨none, 0, rfl, World.ownsRow_nil _ _ _ _, hb⟩
theorem infoI : ∃ i, Try.prog.info? 3 = some i ∧ i.zero = some (.int .i64 0) ∧ i.size = 1 ∧ i.bytes = 8 :=
  ⟨(Try.prog.info? 3).get (by kernel_rfl), by kernel_rfl, by kernel_rfl, by kernel_rfl, by kernel_rfl⟩
theorem one_oneI {x : Int} : ∀ u ∈ [Value.int .i64 x], u.oneCell' = true := fun u hu => by
  simp only [List.mem_cons, List.not_mem_nil, or_false] at hu
  rw [hu]; rfl
theorem own_sl {w : World} {b n : Nat} {e : TypeId} {sz : Nat} {v : Value} {xs : List Value} (h : w.ownsRow b e sz v n xs) : ∃ A c, v = .slice A n c := own_form h
/-- A row stays where a map is written. -/
theorem row_map {w w1 : World} {base : Nat} {e : TypeId} {sz : Nat} {v : Value} {n : Nat} {xs : List Value} {b : Nat} (h : w.ownsRow base e sz v n xs) (hg : w.grownBy w1 (some b)) (hb : ∀ cs t, w.heap[b]? ≠ some (.cells cs t (0, 0))) : w1.ownsRow base e sz v n xs := by
  refine h.kept hg ?_
  rcases h.2 with ⟨rfl, _⟩ | ⟨g, cap, cur, rfl, _, hg2, _⟩
  · exact .inl rfl
  · refine .inr fun e => ?_
    cases e
    exact hb _ _ hg2

end Go.Proofs.Ytlblplfmemoblaa

namespace Go.Proofs.Ytlblplfmemoblaa
open Go.RowKit

theorem newAtK {w : World} {o : Obj} {n : Nat} (h : n = w.heap.size) : (w.alloc o).heap[n]? = some o := by subst h; exact heap_alloc_new w o
theorem Mks.notrow {w : World} {b n : Nat} {f : Int → Bool} (h : Mks w b n f) {base : Nat} {e : TypeId} {sz : Nat} {v : Value} {m : Nat} {xs : List Value} (hr : w.ownsRow base e sz v m xs) : some b ≠ v.ownBlock := by
  obtain ⟨D, ⟨es, clock, h1, h2⟩, h3⟩ := h
  rcases hr.2 with ⟨rfl, _⟩ | ⟨g, cap, cur, rfl, _, hg2, _⟩
  · intro e; cases e
  · intro e
    cases e
    rw [h1] at hg2
    cases hg2

end Go.Proofs.Ytlblplfmemoblaa
