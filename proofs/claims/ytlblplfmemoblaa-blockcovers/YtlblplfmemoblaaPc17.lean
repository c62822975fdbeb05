/-
  Of of package block, by what it returns; the list has at most 2^20 items. works and much of the statements: the one returns true, the other whether the lists are long; no condition. What BlockCovers asks, plain.
-/
import Derived.Test.YtlblplfmemoblaaProg
import Derived.WalkKit
import Derived.WalkSpells
import Derived.WalkLawsBesides
import Derived.RowKit3
import Derived.Below
import Derived.Deep.QuietTactic
import Derived.BigQuiet
import Derived.WalkSmall
import Derived.Laws.Rows
import Derived.Test.YtlblplfmemoblaaPc04
import Derived.Test.YtlblplfmemoblaaPc14
import Derived.Test.YtlblplfmemoblaaPc16
import Derived.Test.YtlblplfmemoblaaPc05
namespace Go.Proofs.Ytlblplfmemoblaa
open Go.RowKit

set_option maxRecDepth 100000 in
set_option maxHeartbeats 2000000 in
theorem of_any (A : Option Addr) (ca : Nat) (zs : List Rel) (p : Int) (w : World) (hA : RelsAt w A zs) (hz : zs.length ≤ 1048576) :
    Calls Try.prog 20 #[.slice A zs.length ca, .int .i64 p] w fun e w' => e = .returned (.int .i64 (ofB zs p)) ∧ Below w.heap.size w w' := by
  have HA : Hid (RelsAt w A zs) := hA
  clear hA
  go_enter Try.func20, Try.ntmps20
  go_wp2
  go_loopw [9] (fun i wr => ∃ k : Nat, i = .int .i64 k ∧ k ≤ zs.length ∧ Hid (∀ j, j < k → hasB zs p j = false) ∧ Hid (Below w.heap.size w wr)) (fun i _ => zs.length - (intOf i).toNat)
  case atStart => exact ⟨0, rfl, Nat.zero_le _, fun j hj => absurd hj (Nat.not_lt_zero _), Below.refl _ _⟩
  case round =>
    obtain ⟨k, rfl, hk, HN, HB⟩ := hrel
    by_cases hlt : k < zs.length
    · obtain ⟨a, rfl, c0, c1⟩ := HA.out k hlt
      have p0 : wr.cell? (a.add (k * 2)) = some (.int .i64 (rAt zs k)) := lkeep HB.out c0
      have p1 : wr.cell? ⟨(a.add (k * 2)).block, (a.add (k * 2)).off + 1, none⟩ = some (.int .i64 (rSym zs k)) := lkeep HB.out c1
      clear c0 c1
      have HH : Hid (hasB zs p k = decide (rAt zs k ≤ p ∧ p < rSym zs k)) := rfl
      generalize rAt zs k = x at *
      generalize rSym zs k = y at *
      by_cases h0 : x ≤ p
      · by_cases h1 : p < y
        · have HV : Hid (ofB zs p = (k : Int)) := of_at hlt HN.out (by rw [HH.out, decide_eq_true_eq]; exact ⟨h0, h1⟩)
          go_wp2
          go_ret
          exact ⟨by rw [HV.out]; rfl, lb_alloc HB.out _⟩
        · have HV : Hid (hasB zs p k = false) := by rw [Hid, HH.out, decide_eq_false_iff_not]; exact fun h => h1 h.2
          go_wp2
          go_roundw
          case rel => exact ⟨k + 1, by go_num, by omega, fun j hj => by
            by_cases e : j = k
            · rw [e]; exact HV.out
            · exact HN.out j (by omega), lb_alloc HB.out _⟩
          case measure => simp [intOf]; omega
      · have hd : decide (x ≤ p) = false := by simpa using h0
        have HV : Hid (hasB zs p k = false) := by rw [Hid, HH.out, decide_eq_false_iff_not]; exact fun h => h0 h.1
        go_wp2
        go_roundw
        case rel => exact ⟨k + 1, by go_num, by omega, fun j hj => by
          by_cases e : j = k
          · rw [e]; exact HV.out
          · exact HN.out j (by omega), lb_alloc HB.out _⟩
        case measure => simp [intOf]; omega
    · obtain rfl : k = zs.length := by omega
      have HV : Hid (ofB zs p = -1) := of_no HN.out
      go_wp2
      go_ret
      exact ⟨by rw [HV.out]; rfl, HB.out⟩

end Go.Proofs.Ytlblplfmemoblaa

namespace Go.Proofs.Ytlblplfmemoblaa
open Go.RowKit

def wkT : List Int := [142606341, 2281701379, 2818572288, 2558001152]
theorem wk_in : ∀ i, i < wkT.length → 0 ≤ nth wkT i ∧ nth wkT i < 4294967296 := by
  intro i hi
  have : i = 0 ∨ i = 1 ∨ i = 2 ∨ i = 3 := by simp [wkT] at hi; omega
  rcases this with rfl | rfl | rfl | rfl <;> exact ⟨by decide, by decide⟩
theorem box_at {w : World} {g : Nat} {cs : Array Value} {t : TypeId} (h : w.heap[g]? = some (.cells cs t (0, 0))) {i : Nat} {v : Value} (hv : cs[i]? = some v) : w.cell? ⟨g, i, none⟩ = some v := by
  simp [World.cell?, h, hv]
theorem wk_ints {w : World} {g : Nat} (h : w.heap[g]? = some (.cells #[.int .u32 142606341, .int .u32 2281701379, .int .u32 2818572288, .int .u32 2558001152] 48 (0, 0))) : IntsAt w (some ⟨g, 0, none⟩) .u32 wkT := by
  intro i hi
  refine ⟨⟨g, 0, none⟩, rfl, ?_⟩
  rw [add0]
  have : i = 0 ∨ i = 1 ∨ i = 2 ∨ i = 3 := by simp [wkT] at hi; omega
  rcases this with rfl | rfl | rfl | rfl <;> exact box_at h rfl
theorem wk_chk : checkI wkT 0 0 = (0, 0) := by kernel_rfl
theorem wk_blk : outB wkT 0 0 = [(0, 2), (2, 3), (3, 4)] := by kernel_rfl
theorem wk_sit : outL wkT 0 0 (sitF wkT) = [2] := by kernel_rfl
theorem oldAt {w : World} {o o' : Obj} {n : Nat} (h : w.heap[n]? = some o) : (w.alloc o').heap[n]? = some o := by
  rw [Below.heap_alloc w o' n (Array.getElem?_eq_some_iff.1 h).1]; exact h
set_option maxRecDepth 100000 in
set_option maxHeartbeats 2000000 in
theorem works_any (w : World) : Calls Try.prog 7 #[] w fun e w' => e = .returned (.bool true) ∧ Below w.heap.size w w' := by
  obtain ⟨W, HW⟩ : ∃ W, Hid ((w.alloc (.cells #[.int .u32 142606341, .int .u32 2281701379, .int .u32 2818572288, .int .u32 2558001152] 48)).alloc (.cells #[.slice (some ⟨w.heap.size, 0, none⟩) 4 4, .int .i64 0, .slice none 0 0] 25) = W) := ⟨_, rfl⟩
  have HB : Hid (Below w.heap.size w W) := by unfold Hid; rw [← HW.out]; exact lb_alloc (lb_alloc (Below.refl _ _) _) _
  have h1 : W.heap[w.heap.size]? = some (.cells #[.int .u32 142606341, .int .u32 2281701379, .int .u32 2818572288, .int .u32 2558001152] 48 (0, 0)) := by rw [← HW.out]; exact oldAt (newAtK rfl)
  have h3 : W.heap[w.heap.size + 1]? = some (.cells #[.slice (some ⟨w.heap.size, 0, none⟩) 4 4, .int .i64 0, .slice none 0 0] 25 (0, 0)) := by rw [← HW.out]; exact newAtK (by simp)
  have x0 : W.cell? ⟨w.heap.size + 1, 0, none⟩ = some (.slice (some ⟨w.heap.size, 0, none⟩) 4 4) := box_at h3 rfl
  have x1 : W.cell? ⟨w.heap.size + 1, 1, none⟩ = some (.int .i64 0) := box_at h3 rfl
  have x2 : W.cell? ⟨w.heap.size + 1, 2, none⟩ = some (.slice none 0 0) := box_at h3 rfl
  have C1 := blocks_any (some ⟨w.heap.size, 0, none⟩) none 4 0 0 0 wkT W (wk_ints h1) wk_in (by decide) (by decide)
  rw [wk_chk, wk_blk] at C1
  have C1 : Calls Try.prog 13 #[.agg #[.slice (some ⟨w.heap.size, 0, none⟩) 4 4, .int .i64 0, .slice none 0 0]] W (BlkP 0 [(0, 2), (2, 3), (3, 4)] W) := C1
  have C2 : ∀ Z, Below W.heap.size W Z → Calls Try.prog 12 #[.agg #[.slice (some ⟨w.heap.size, 0, none⟩) 4 4, .int .i64 0, .slice none 0 0]] Z (GatP 0 [2] Z) := fun Z hZ => by
    have := sites_any (some ⟨w.heap.size, 0, none⟩) none 4 0 0 0 wkT Z ((wk_ints h1).keep hZ) wk_in (by decide) (by decide)
    rw [wk_chk, wk_sit] at this
    exact this
  clear h1 h3
  go_enter Try.func7, Try.ntmps7
  go_upto_region 2 with fail
  rw [HW.out]
  clear HW
  go_wp2_with fail
  refine C1.mono ?_
  rintro e w1 ⟨A, c, rfl, hown, hb1⟩
  have y0 := lkeep hb1 x0
  have y1 := lkeep hb1 x1
  have y2 := lkeep hb1 x2
  have HO : Hid (RelsAt w1 A [(0, 2), (2, 3), (3, 4)]) := drow_rels hown
  have HB1 : Hid (Below W.heap.size W w1) := hb1
  clear x0 x1 x2 hown hb1 C1
  go_wp2_with fail
  refine (C2 w1 HB1.out).mono ?_
  rintro e w2 ⟨A2, c2, rfl, hown, hb2⟩
  have HB2 : Hid (Below w.heap.size w w2) := lb_trans HB.out (lb_trans HB1.out hb2)
  obtain ⟨a, ea, r0, r1⟩ := HO.out 1 (by decide)
  obtain ⟨b, eb, s0⟩ := (row_ints hown) 0 (by decide)
  have r0 : w2.cell? ⟨a.block, a.off + 2, none⟩ = some (.int .i64 2) := lkeep hb2 r0
  have r1 : w2.cell? ⟨a.block, a.off + 2 + 1, none⟩ = some (.int .i64 3) := lkeep hb2 r1
  have s0 : w2.cell? b = some (.int .i64 2) := s0
  subst ea eb
  clear hown hb2 HO HB HB1 C2 y0 y1 y2
  go_wp2
  go_ret
  exact ⟨rfl, HB2.out⟩

def muchB (text mem : List Int) : Bool := decide (600 < text.length) || decide (16384 < mem.length)
theorem much_any (A1 A2 : Option Addr) (c1 c2 : Nat) (ent : Int) (text mem : List Int) (w : World) :
    Calls Try.prog 6 #[.agg #[.slice A1 text.length c1, .int .i64 ent, .slice A2 mem.length c2]] w fun e w' => e = .returned (.bool (muchB text mem)) ∧ Below w.heap.size w w' := by
  unfold muchB
  by_cases h1 : 600 < text.length
  · rw [decide_eq_true h1]
    have h1' : (600 : Int) < (text.length : Int) := by omega
    go_enter Try.func6, Try.ntmps6
    go_wp2
    go_ret
    exact ⟨rfl, lb_alloc (Below.refl _ _) _⟩
  · rw [decide_eq_false h1]
    have h1' : decide ((600 : Int) < (text.length : Int)) = false := decide_eq_false (by omega)
    have h1'' : ¬ (600 : Int) < (text.length : Int) := by omega
    by_cases h2 : 16384 < mem.length
    · rw [decide_eq_true h2]
      have h2' : (16384 : Int) < (mem.length : Int) := by omega
      go_enter Try.func6, Try.ntmps6
      go_wp2
      go_ret
      exact ⟨by simp, lb_alloc (Below.refl _ _) _⟩
    · rw [decide_eq_false h2]
      have h2' : ¬ (16384 : Int) < (mem.length : Int) := by omega
      go_enter Try.func6, Try.ntmps6
      go_wp2
      go_ret
      exact ⟨by simp, lb_alloc (Below.refl _ _) _⟩

end Go.Proofs.Ytlblplfmemoblaa

namespace Go.Proofs.Ytlblplfmemoblaa
open Go.RowKit

theorem nth_app_l {a b : List Int} {i : Nat} (h : i < a.length) : nth (a ++ b) i ∈ a := by
  unfold nth
  rw [List.getD_eq_getElem?_getD, List.getElem?_append_left h, List.getElem?_eq_getElem h]
  exact List.getElem_mem h
theorem nth_app_r {a b : List Int} {i : Nat} (h : ¬ i < a.length) (h2 : i < (a ++ b).length) : nth (a ++ b) i ∈ b := by
  have h3 : i - a.length < b.length := by simp at h2; omega
  unfold nth
  rw [List.getD_eq_getElem?_getD, List.getElem?_append_right (by omega), List.getElem?_eq_getElem h3]
  exact List.getElem_mem h3
theorem all_begin {text : List Int} {ent : Int} {i : Nat} (h : i < (plcT (labF text ent) text.length ++ plcT (sitF text) text.length).length) : ∃ k : Nat, k < (blkL text ent).length ∧ ofB (blkL text ent) (nth (plcT (labF text ent) text.length ++ plcT (sitF text) text.length) i) = (k : Int) ∧ rAt (blkL text ent) k = nth (plcT (labF text ent) text.length ++ plcT (sitF text) text.length) i := by
  by_cases hi : i < (plcT (labF text ent) text.length).length
  · exact blk_begin (lab_beg (nth_app_l hi))
  · exact blk_begin (sit_beg (nth_app_r hi h))
theorem iVals_app (K : IntKind) (a b : List Int) : iVals K (a ++ b) = iVals K a ++ iVals K b := by simp [iVals]
theorem iVals_len (K : IntKind) (a : List Int) : (iVals K a).length = a.length := by simp [iVals]
theorem iVals_one (K : IntKind) (a : List Int) : ∀ u ∈ iVals K a, u.oneCell' = true := fun u hu => by
  unfold iVals at hu
  rw [List.mem_map] at hu
  obtain ⟨x, _, rfl⟩ := hu
  rfl
theorem iVals_cell {w : World} {a : Addr} {K : IntKind} {zs : List Int} (hA : IntsAt w (some a) K zs) (j : Nat) (u : Value) (h : (iVals K zs)[j]? = some u) : w.cell? (a.add j) = some u := by
  have hj : j < zs.length := by
    have := (List.getElem?_eq_some_iff.1 h).1; rwa [iVals_len] at this
  obtain ⟨b, e, c⟩ := hA j hj
  obtain rfl := Option.some.inj e
  rw [c, ← h, iVals_get hj]
theorem row_other {w w1 : World} {b b2 : Nat} {e e2 : TypeId} {sz sz2 n n2 : Nat} {v v2 : Value} {xs xs2 : List Value} (h : w.ownsRow b e sz v n xs) (h2 : w.ownsRow b2 e2 sz2 v2 n2 xs2) (hne : e ≠ e2) (hg : w.grownBy w1 v2.ownBlock) : w1.ownsRow b e sz v n xs := by
  refine h.kept hg ?_
  rcases h.2 with ⟨rfl, _⟩ | ⟨g, cap, cur, rfl, _, hg1, _⟩
  · exact .inl rfl
  · refine .inr fun e => ?_
    rcases h2.2 with ⟨rfl, _⟩ | ⟨g2, cap2, cur2, rfl, _, hg2, _⟩
    · cases e
    · cases e
      rw [hg1] at hg2
      injection hg2 with hg2
      injection hg2 with _ hh
      exact hne hh
theorem wpList_app_nil {P : Program} (w : World) {ops : Array Oper} {rest : List Oper} {o : Oper} {a : Act} {Q : Exit → Act → World → Prop} (hgd : o.guard = none) (s x : Operand) (t : TypeId)
    (ho : o.op = .call { callee := .builtin .append, args := #[s, x], argTypes := #[t, t] }) (v : Value) (hs : a.eval s = v) (hx : a.eval x = .slice none 0 0) (hr : ∀ ty, (Builtin.append_ #[t, t] ty #[v, .slice none 0 0]).run P w = .ok v w)
    (h : wpList P ops Q rest (a.put o.dst v) w) : wpList P ops Q (o :: rest) a w :=
  wpList_plain hgd fun K' hK' => by
    unfold Oper.wp execOp
    simp only [ho, resolve, invoke, builtin, Sem.run_bind, Sem.run_pure, Result.andThen_ok, List.map_toArray, List.map_cons, List.map_nil, hs, hx, hr]
    exact hK' _ _ h
theorem own_nil {w : World} {base e sz n c : Nat} {xs : List Value} (h : w.ownsRow base e sz (.slice none n c) n xs) : n = 0 ∧ c = 0 := by
  rcases h.2 with ⟨e, rfl⟩ | ⟨g, cap, cur, e, _⟩
  · cases e; exact ⟨rfl, rfl⟩
  · cases e

end Go.Proofs.Ytlblplfmemoblaa
