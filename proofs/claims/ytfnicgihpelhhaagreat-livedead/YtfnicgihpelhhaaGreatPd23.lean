/-
  Rows of words and ports, cloned; Memory and Ports of the program's machine. Rows of words and of ports, held against each other. words: the memories of both machines, places moved. What is seen of a machine: its memory, its ports, how much of the tape was taken.
-/
import Derived.Test.YtfnicgihpelhhaaGreatProg
import Derived.WalkKit
import Derived.WalkSpells
import Derived.WalkLawsBesides
import Derived.RowKit3
import Derived.Below
import Derived.Deep.QuietTactic
import Derived.BigQuiet
import Derived.WalkSmall
import Derived.Laws.Rows
import Derived.Deep.RegionHeld3
import Derived.Laws.Pointers
import Derived.Outline
import Derived.StillTactics
import Derived.Test.YtfnicgihpelhhaaGreatPd22
import Derived.Test.YtfnicgihpelhhaaGreatPd11
import Derived.Test.YtfnicgihpelhhaaGreatPd21
namespace Go.Proofs.YtfnicgihpelhhaaGreat
open Go.RowKit

theorem bs_w (w : World) : (Instr.buildSlice 84 0 #[]).run Tryz.prog w = .ok (.slice (some ⟨w.heap.size, 0, none⟩) 0 0) (w.alloc (.cells #[] 82)) := by kernel_rfl
theorem nil_w (w : World) : (binOp BinOp.eql 84 (.slice none 0 0) (.slice none 0 0)).run Tryz.prog w = .ok (.bool true) w := by kernel_rfl
theorem some_w (g n c : Nat) (w : World) : (binOp BinOp.eql 84 (.slice (some ⟨g, 0, none⟩) n c) (.slice none 0 0)).run Tryz.prog w = .ok (.bool false) w := by kernel_rfl
theorem info_w : ∃ i, Tryz.prog.info? 82 = some i ∧ i.zero = some (.agg #[.int .i64 0, .bool false]) ∧ i.size = 2 ∧ i.bytes = 16 :=
  ⟨(Tryz.prog.info? 82).get (by kernel_rfl), by kernel_rfl, by kernel_rfl, by kernel_rfl, by kernel_rfl⟩
/-- A row, cloned. -/
def Cl_w (w : World) (n : Nat) (xs : List Value) (e : Ending) (w' : World) : Prop := ∃ v, e = .returned v ∧ w'.ownsRow w.heap.size 82 2 v n xs ∧ Below w.heap.size w w'
theorem bs_p (w : World) : (Instr.buildSlice 85 0 #[]).run Tryz.prog w = .ok (.slice (some ⟨w.heap.size, 0, none⟩) 0 0) (w.alloc (.cells #[] 118)) := by kernel_rfl
theorem nil_p (w : World) : (binOp BinOp.eql 85 (.slice none 0 0) (.slice none 0 0)).run Tryz.prog w = .ok (.bool true) w := by kernel_rfl
theorem some_p (g n c : Nat) (w : World) : (binOp BinOp.eql 85 (.slice (some ⟨g, 0, none⟩) n c) (.slice none 0 0)).run Tryz.prog w = .ok (.bool false) w := by kernel_rfl
theorem info_p : ∃ i, Tryz.prog.info? 118 = some i ∧ i.zero = some (.agg #[.int .i64 0, .int .i64 0]) ∧ i.size = 2 ∧ i.bytes = 16 :=
  ⟨(Tryz.prog.info? 118).get (by kernel_rfl), by kernel_rfl, by kernel_rfl, by kernel_rfl, by kernel_rfl⟩
/-- A row, cloned. -/
def Cl_p (w : World) (n : Nat) (xs : List Value) (e : Ending) (w' : World) : Prop := ∃ v, e = .returned v ∧ w'.ownsRow w.heap.size 118 2 v n xs ∧ Below w.heap.size w w'
theorem wVals_one (l : List Wd) : ∀ u ∈ wVals l, u.oneCell' = true := fun u hu => by
  simp only [wVals, List.mem_flatMap] at hu
  obtain ⟨x, -, hx⟩ := hu
  simp at hx
  rcases hx with rfl | rfl <;> rfl
theorem pVals_one (l : List (Int × Int)) : ∀ u ∈ pVals l, u.oneCell' = true := fun u hu => by
  simp only [pVals, List.mem_flatMap] at hu
  obtain ⟨x, -, hx⟩ := hu
  simp at hx
  rcases hx with rfl | rfl <;> rfl




end Go.Proofs.YtfnicgihpelhhaaGreat

namespace Go.Proofs.YtfnicgihpelhhaaGreat
open Go.RowKit

def WordsAt (w : World) (A : Option Addr) (l : List (Wd)) : Prop := ∀ i, i < l.length → ∃ a : Addr, A = some a ∧ w.cell? (a.add (i * 2)) = some (.int .i64 (wV l i)) ∧ w.cell? ((a.add (i * 2)).add 1) = some (.bool (wC l i))
theorem WordsAt.keep {w w1 : World} {A : Option Addr} {l : List (Wd)} (h : WordsAt w A l) (hb : Below w.heap.size w w1) : WordsAt w1 A l := fun i hi => by
  obtain ⟨a, e, h0, h1⟩ := h i hi
  exact ⟨a, e, lkeep hb h0, lkeep hb h1⟩
theorem row_w {w : World} {b : Nat} {e : TypeId} {A : Option Addr} {n c : Nat} {l : List (Wd)} (h : w.ownsRow b e 2 (.slice A n c) l.length (wVals l)) : WordsAt w A l := fun i hi => by
  obtain ⟨e0, e1⟩ := wVals_get hi
  have hl := wVals_len l
  rcases h.2 with ⟨e, e2⟩ | ⟨g, cap, cur, e, hb, hg, hc, _, hs, ht⟩
  · omega
  · simp only [Value.slice.injEq] at e
    have q : ∀ {j : Nat} {v : Value}, j < l.length * 2 → (wVals l)[j]? = some v → cur[j]? = some v := by
      intro j v hj hv
      rw [← ht, List.getElem?_take_of_lt hj] at hv
      simpa using hv
    refine ⟨⟨g, 0, none⟩, e.1, ?_, ?_⟩
    · rw [add_at]; exact box_at hg (by rw [Nat.zero_add]; exact q (by omega) e0)
    · rw [add_at, add_at]; exact box_at hg (by rw [Nat.zero_add]; exact q (by omega) e1)
def PortsAt (w : World) (A : Option Addr) (l : List (Int × Int)) : Prop := ∀ i, i < l.length → ∃ a : Addr, A = some a ∧ w.cell? (a.add (i * 2)) = some (.int .i64 (rAt l i)) ∧ w.cell? ((a.add (i * 2)).add 1) = some (.int .i64 (rSym l i))
theorem PortsAt.keep {w w1 : World} {A : Option Addr} {l : List (Int × Int)} (h : PortsAt w A l) (hb : Below w.heap.size w w1) : PortsAt w1 A l := fun i hi => by
  obtain ⟨a, e, h0, h1⟩ := h i hi
  exact ⟨a, e, lkeep hb h0, lkeep hb h1⟩
theorem row_p {w : World} {b : Nat} {e : TypeId} {A : Option Addr} {n c : Nat} {l : List (Int × Int)} (h : w.ownsRow b e 2 (.slice A n c) l.length (pVals l)) : PortsAt w A l := fun i hi => by
  obtain ⟨e0, e1⟩ := pVals_get hi
  have hl := pVals_len l
  rcases h.2 with ⟨e, e2⟩ | ⟨g, cap, cur, e, hb, hg, hc, _, hs, ht⟩
  · omega
  · simp only [Value.slice.injEq] at e
    have q : ∀ {j : Nat} {v : Value}, j < l.length * 2 → (pVals l)[j]? = some v → cur[j]? = some v := by
      intro j v hj hv
      rw [← ht, List.getElem?_take_of_lt hj] at hv
      simpa using hv
    refine ⟨⟨g, 0, none⟩, e.1, ?_, ?_⟩
    · rw [add_at]; exact box_at hg (by rw [Nat.zero_add]; exact q (by omega) e0)
    · rw [add_at, add_at]; exact box_at hg (by rw [Nat.zero_add]; exact q (by omega) e1)
set_option maxRecDepth 100000 in
set_option maxHeartbeats 1000000 in
theorem eq_p (A B : Option Addr) (ca cb : Nat) (l : List (Int × Int)) (w : World) (hA : PortsAt w A l) (hB : PortsAt w B l) (hz : l.length ≤ 1048576) :
    Calls Tryz.prog 40 #[.slice A l.length ca, .slice B l.length cb] w fun e w' => e = .returned (.bool true) ∧ Below w.heap.size w w' := by
  go_enter Tryz.func40, Tryz.ntmps40
  go_wp2
  go_loopw [5] (fun i wr => ∃ (k j : Nat), i = .int .i64 k ∧ k ≤ l.length ∧ wr = w.drewN j) (fun i _ => l.length - (intOf i).toNat)
  case atStart => exact ⟨0, 0, rfl, by omega, rfl⟩
  case round =>
    obtain ⟨k, j, rfl, hk, rfl⟩ := hrel
    by_cases hlt : k < l.length
    · obtain ⟨a, rfl, c0, c1⟩ := hA k hlt
      obtain ⟨b, rfl, d0, d1⟩ := hB k hlt
      have hlt2 : (k : Int) < (l.length : Int) := by omega
      have p1 : w.cell? (⟨(a.add (k * 2)).block, (a.add (k * 2)).off + 1, none⟩) = some (.int .i64 (rSym l k)) := c1
      have q1 : w.cell? (⟨(b.add (k * 2)).block, (b.add (k * 2)).off + 1, none⟩) = some (.int .i64 (rSym l k)) := d1
      clear c1 d1
      go_wp2_with fail
      go_quiet (fail)
      go_wp2
      go_roundw
      case rel => exact ⟨k + 1, _, by go_num, by omega, rfl⟩
      case measure => simp [intOf]; omega
    · go_wp2
      go_ret
      exact ⟨rfl, below_drewN (Below.refl _ _) _⟩

end Go.Proofs.YtfnicgihpelhhaaGreat

namespace Go.Proofs.YtfnicgihpelhhaaGreat
open Go.RowKit

/-- What the second row holds, if the first is l: sealed places behind q moved. -/
def mvW (q : Nat) (l k : List Wd) : Prop := k.length = l.length ∧ ∀ j, wC k j = wC l j ∧ wV k j = (if wC l j = true ∧ (q : Int) < wV l j then wV l j + 1 else wV l j)
theorem cell_away {X : World} {g p : Nat} {v : Value} {a : Addr} (h : X.cell? a = some v) (hne : a.block ≠ g) (u : Value) : (X.setCell ⟨g, p, none⟩ u).cell? a = some v := by
  rw [World.cell?_of_block (Below.heap_setCell _ _ _ _ hne)]; exact h
theorem cell_same {X : World} {g : Nat} {v : Value} (h : X.cell? ⟨g, 0, none⟩ = some v) (u : Value) : (X.setCell ⟨g, 0, none⟩ u).cell? ⟨g, 0, none⟩ = some u := by
  simp [go_sem, h]
theorem cell_next {X : World} {g : Nat} {v : Value} (h : X.cell? ⟨g, 1, none⟩ = some v) (u : Value) : (X.setCell ⟨g, 0, none⟩ u).cell? ⟨g, 1, none⟩ = some v := by
  simp [go_sem, h]
set_option maxRecDepth 100000 in
set_option maxHeartbeats 2000000 in
theorem words_any (A B : Option Addr) (ca cb : Nat) (l k : List Wd) (q : Nat) (w : World) (hA : WordsAt w A l) (hB : WordsAt w B k) (hm : mvW q l k) (hs : Safe l) (hz : l.length ≤ 1048576) (hq : q ≤ 1048576) :
    Calls Tryz.prog 43 #[.slice A l.length ca, .slice B k.length cb, .int .i64 q] w fun e w' => e = .returned (.bool true) ∧ Below w.heap.size w w' := by
  have HA : Hid (WordsAt w A l) := hA
  have HB : Hid (WordsAt w B k) := hB
  have HM : Hid (mvW q l k) := hm
  have HS : Hid (Safe l) := hs
  rw [hm.1]
  clear hA hB hm hs
  go_enter Tryz.func43, Tryz.ntmps43
  go_wp2
  go_loopw [7] (fun i wr => ∃ (j : Nat), i = .int .i64 j ∧ j ≤ l.length ∧ Hid (Below w.heap.size w wr)) (fun i _ => l.length - (intOf i).toNat)
  case atStart => exact ⟨0, rfl, by omega, Below.refl _ _⟩
  case round =>
    obtain ⟨j, rfl, hj, HBr⟩ := hrel
    by_cases hlt : j < l.length
    · obtain ⟨a, ea, c0, c1⟩ := (HA.out.keep HBr.out) j hlt
      subst ea
      obtain ⟨b, eb, d0, d1⟩ := (HB.out.keep HBr.out) j (by rw [HM.out.1]; exact hlt)
      subst eb
      have hlt2 : (j : Int) < (l.length : Int) := by omega
      have p1 : wr.cell? (⟨(a.add (j * 2)).block, (a.add (j * 2)).off + 1, none⟩) = some (.bool (wC l j)) := c1
      obtain ⟨m1, m2⟩ := HM.out.2 j
      have hsf := HS.out j
      rw [m2] at d0
      rw [m1] at d1
      clear c1 m1 m2
      obtain ⟨V, HV⟩ : ∃ V, Hid (wr.alloc (.cells #[.int .i64 (wV l j), .bool (wC l j)] 82) = V) := ⟨_, rfl⟩
      have HBV : Hid (Below wr.heap.size wr V) := by unfold Hid; rw [← HV.out]; exact lb_alloc (Below.refl _ _) _
      have b0 : V.cell? ⟨wr.heap.size, 0, none⟩ = some (.int .i64 (wV l j)) := by rw [← HV.out]; simp [go_sem]
      have b1 : V.cell? ⟨wr.heap.size, 1, none⟩ = some (.bool (wC l j)) := by rw [← HV.out]; simp [go_sem]
      have bf : V.frozen? ⟨wr.heap.size, 0, none⟩ = false := by rw [← HV.out]; simp [go_sem]
      have e0 := lkeep HBV.out d0
      have e1 : V.cell? (⟨(b.add (j * 2)).block, (b.add (j * 2)).off + 1, none⟩) = some (.bool (wC l j)) := lkeep HBV.out d1
      have HBx : Hid (Below w.heap.size w V) := lb_trans HBr.out HBV.out
      have hbn : Hid ((b.add (j * 2)).block < wr.heap.size) := World.block_lt_of_cell? _ _ d0
      have hzr : Hid (w.heap.size ≤ wr.heap.size) := HBr.out.size
      clear d0 d1
      generalize wV l j = v at *
      generalize wC l j = cc at *
      go_upto_region 7 with fail
      rw [HV.out]
      clear HV c0 p1 HBr HBV
      cases cc with
      | false =>
        have hif : (if False ∧ (q : Int) < v then v + 1 else v) = v := if_neg (fun h => h.1)
        simp only [Bool.false_eq_true] at e0
        rw [hif] at e0
        go_wp2_with fail
        go_quiet (fail)
        go_wp2
        go_roundw
        case rel => exact ⟨j + 1, by go_num, by omega, below_drewN HBx.out _⟩
        case measure => simp [intOf]; omega
      | true =>
        by_cases hv : (q : Int) < v
        · rw [if_pos ⟨rfl, hv⟩] at e0
          have hb := hsf rfl
          have hwr : IntKind.i64.wrap (v + 1) = v + 1 := by rw [IntKind.wrap_i64]; omega
          obtain ⟨Z, HZ⟩ : ∃ Z, Hid (V.setCell ⟨wr.heap.size, 0, none⟩ (.int .i64 (v + 1)) = Z) := ⟨_, rfl⟩
          have z0 : Z.cell? ⟨wr.heap.size, 0, none⟩ = some (.int .i64 (v + 1)) := by rw [← HZ.out]; exact cell_same b0 _
          have z1 : Z.cell? ⟨wr.heap.size, 1, none⟩ = some (.bool true) := by rw [← HZ.out]; exact cell_next b1 _
          have y0 : Z.cell? (b.add (j * 2)) = some (.int .i64 (v + 1)) := by rw [← HZ.out]; exact cell_away e0 (by have := hbn.out; omega) _
          have y1 : Z.cell? (⟨(b.add (j * 2)).block, (b.add (j * 2)).off + 1, none⟩) = some (.bool true) := by rw [← HZ.out]; exact cell_away e1 (by have := hbn.out; show (b.add (j * 2)).block ≠ wr.heap.size; omega) _
          have HBZ : Hid (Below w.heap.size w Z) := by unfold Hid; rw [← HZ.out]; exact HBx.out.setCell hzr.out _
          go_upto_region 9 with fail
          rw [HZ.out]
          clear HZ b0 b1 bf e0 e1
          go_quiet (fail)
          go_wp2
          go_roundw
          case rel => exact ⟨j + 1, by go_num, by omega, below_drewN HBZ.out _⟩
          case measure => simp [intOf]; omega
        · rw [if_neg (fun h => hv h.2)] at e0
          go_upto_region 9 with fail
          go_quiet (fail)
          go_wp2
          go_roundw
          case rel => exact ⟨j + 1, by go_num, by omega, below_drewN HBx.out _⟩
          case measure => simp [intOf]; omega
    · go_wp2
      go_ret
      exact ⟨rfl, HBr.out⟩

end Go.Proofs.YtfnicgihpelhhaaGreat

namespace Go.Proofs.YtfnicgihpelhhaaGreat
open Go.RowKit

set_option maxRecDepth 100000 in
set_option maxHeartbeats 1000000 in
theorem clone_w {w : World} {b n : Nat} {v : Value} {xs : List Value} (h : w.ownsRow b 82 2 v n xs) (h1 : ∀ u ∈ xs, u.oneCell' = true) (hn : n ≤ 1048576) : Calls Tryz.prog 68 #[v] w (Cl_w w n xs) := by
  obtain ⟨i0, hi, hz0, hz1, hz2⟩ := info_w
  have hlen := h.1
  rcases h.2 with ⟨rfl, h0⟩ | ⟨g, cap, cur, rfl, hb, hg, hc, hm, hs, ht⟩
  · subst h0
    have hx : xs = [] := List.eq_nil_of_length_eq_zero (by simpa using hlen)
    subst hx
    have hn0 := nil_w
    go_enter Tryz.func68, Tryz.ntmps68
    go_wp2
    go_ret
    exact ⟨_, rfl, World.ownsRow_nil _ _ _ _, Below.refl _ _⟩
  · have hb0 := bs_w
    have hn0 := some_w g n cap
    have HC : Hid (∀ j u, xs[j]? = some u → (w.alloc (.cells #[] 82)).cell? ((⟨g, 0, none⟩ : Addr).add j) = some u) := fun j u hu => by
      rw [add_at]
      refine lkeep (lb_alloc (Below.refl _ _) _) (box_at hg ?_)
      have hj : j < n * 2 := by rw [← hlen]; exact (List.getElem?_eq_some_iff.1 hu).1
      rw [← ht, List.getElem?_take_of_lt hj] at hu
      simpa using hu
    have H1 : Hid (∀ u ∈ xs, u.oneCell' = true) := h1
    have HL : Hid (xs.length = n * 2) := hlen
    clear h1 hlen ht h hb hc hs
    go_enter Tryz.func68, Tryz.ntmps68
    go_wp2_with (at_builtin; refine wpList_append_own _ rfl (.tmp 5) (.tmp 6) 84 rfl w.heap.size 82 i0 (.agg #[.int .i64 0, .bool false]) 2 16 Tryz.underlying84 hi hz0 hz1 hz2 rfl (by decide) (.slice (some ⟨w.heap.size, 0, none⟩) 0 0) 0 [] rfl (World.ownsRow_made w #[] 0 (Nat.le_refl _) (Nat.zero_le _) rfl) ⟨g, 0, none⟩ n cap xs rfl HL.out HC.out H1.out (by unfold maxLen; omega) (by omega) (by simp) ?_; intro v' w' hown hgrow hnil)
    all_goals (
      have HO : Hid (w'.ownsRow w.heap.size 82 2 v' n xs) := by have e := hown; rw [Nat.zero_add, List.nil_append] at e; exact e
      have HG : Hid _ := hgrow
      clear hown hgrow hnil
      go_wp2
      go_ret
      refine ⟨_, rfl, ?_, ?_⟩
      · exact HO.out
      · exact Below.grown (lb_alloc (Below.refl _ _) _) HG.out (by simp) (fun k e => by simp [Value.ownBlock] at e; omega))

set_option maxRecDepth 100000 in
set_option maxHeartbeats 1000000 in
theorem clone_p {w : World} {b n : Nat} {v : Value} {xs : List Value} (h : w.ownsRow b 118 2 v n xs) (h1 : ∀ u ∈ xs, u.oneCell' = true) (hn : n ≤ 1048576) : Calls Tryz.prog 67 #[v] w (Cl_p w n xs) := by
  obtain ⟨i0, hi, hz0, hz1, hz2⟩ := info_p
  have hlen := h.1
  rcases h.2 with ⟨rfl, h0⟩ | ⟨g, cap, cur, rfl, hb, hg, hc, hm, hs, ht⟩
  · subst h0
    have hx : xs = [] := List.eq_nil_of_length_eq_zero (by simpa using hlen)
    subst hx
    have hn0 := nil_p
    go_enter Tryz.func67, Tryz.ntmps67
    go_wp2
    go_ret
    exact ⟨_, rfl, World.ownsRow_nil _ _ _ _, Below.refl _ _⟩
  · have hb0 := bs_p
    have hn0 := some_p g n cap
    have HC : Hid (∀ j u, xs[j]? = some u → (w.alloc (.cells #[] 118)).cell? ((⟨g, 0, none⟩ : Addr).add j) = some u) := fun j u hu => by
      rw [add_at]
      refine lkeep (lb_alloc (Below.refl _ _) _) (box_at hg ?_)
      have hj : j < n * 2 := by rw [← hlen]; exact (List.getElem?_eq_some_iff.1 hu).1
      rw [← ht, List.getElem?_take_of_lt hj] at hu
      simpa using hu
    have H1 : Hid (∀ u ∈ xs, u.oneCell' = true) := h1
    have HL : Hid (xs.length = n * 2) := hlen
    clear h1 hlen ht h hb hc hs
    go_enter Tryz.func67, Tryz.ntmps67
    go_wp2_with (at_builtin; refine wpList_append_own _ rfl (.tmp 5) (.tmp 6) 85 rfl w.heap.size 118 i0 (.agg #[.int .i64 0, .int .i64 0]) 2 16 Tryz.underlying85 hi hz0 hz1 hz2 rfl (by decide) (.slice (some ⟨w.heap.size, 0, none⟩) 0 0) 0 [] rfl (World.ownsRow_made w #[] 0 (Nat.le_refl _) (Nat.zero_le _) rfl) ⟨g, 0, none⟩ n cap xs rfl HL.out HC.out H1.out (by unfold maxLen; omega) (by omega) (by simp) ?_; intro v' w' hown hgrow hnil)
    all_goals (
      have HO : Hid (w'.ownsRow w.heap.size 118 2 v' n xs) := by have e := hown; rw [Nat.zero_add, List.nil_append] at e; exact e
      have HG : Hid _ := hgrow
      clear hown hgrow hnil
      go_wp2
      go_ret
      refine ⟨_, rfl, ?_, ?_⟩
      · exact HO.out
      · exact Below.grown (lb_alloc (Below.refl _ _) _) HG.out (by simp) (fun k e => by simp [Value.ownBlock] at e; omega))

section
variable {w : World} {base P : Nat} {s : Loc} {m : Mach}
theorem taken_yes (h : PAt w base P s m) (hm : Fine m) : Calls Tryz.prog 42 #[.pointer (some ⟨P, 0, none⟩)] w fun e w' => e = .returned (.int .i64 m.taken) ∧ w' = w := by
  have C := made_yes h hm
  obtain ⟨c0, c1, c34, c35, c36, c37, c38, c39⟩ := h.cells hm.sixteen
  clear h
  go_enter Tryz.func42, Tryz.ntmps42
  go_wp2_with fail
  refine C.mono ?_
  rintro e w1 ⟨rfl, rfl⟩
  go_wp2
  go_ret
  exact ⟨rfl, rfl⟩
set_option maxRecDepth 100000 in
set_option maxHeartbeats 1000000 in
theorem memory_yes (h : PAt w base P s m) (hm : Fine m) (_hn : m.steps ≤ 1048576) : Calls Tryz.prog 44 #[.pointer (some ⟨P, 0, none⟩)] w (Cl_w w m.mem.length (wVals m.mem)) := by
  have C1 := made_yes h hm
  have hml := hm.mlen
  have hpl := hm.ports
  obtain ⟨c0, c1, c34, c35, c36, c37, c38, c39⟩ := h.cells hm.sixteen
  have C2 := clone_w h.mem (wVals_one _) (by omega)
  clear h
  go_enter Tryz.func44, Tryz.ntmps44
  go_wp2_with (first
    | (go_at_call 62; refine C1.mono ?_; rintro e w1 ⟨rfl, hw1⟩; have hw1 := hw1.symm; subst hw1)
    | (go_at_call 68; refine C2.mono ?_; rintro e w1 ⟨v, rfl, hv⟩))
  go_ret
  exact ⟨_, rfl, hv⟩

set_option maxRecDepth 100000 in
set_option maxHeartbeats 1000000 in
theorem ports_yes (h : PAt w base P s m) (hm : Fine m) (hn : m.steps ≤ 1048576) : Calls Tryz.prog 41 #[.pointer (some ⟨P, 0, none⟩)] w (Cl_p w m.ports.length (pVals m.ports)) := by
  have C1 := made_yes h hm
  have hml := hm.mlen
  have hpl := hm.ports
  obtain ⟨c0, c1, c34, c35, c36, c37, c38, c39⟩ := h.cells hm.sixteen
  have C2 := clone_p h.ports (pVals_one _) (by omega)
  clear h
  go_enter Tryz.func41, Tryz.ntmps41
  go_wp2_with (first
    | (go_at_call 62; refine C1.mono ?_; rintro e w1 ⟨rfl, hw1⟩; have hw1 := hw1.symm; subst hw1)
    | (go_at_call 67; refine C2.mono ?_; rintro e w1 ⟨v, rfl, hv⟩))
  go_ret
  exact ⟨_, rfl, hv⟩
end

end Go.Proofs.YtfnicgihpelhhaaGreat
