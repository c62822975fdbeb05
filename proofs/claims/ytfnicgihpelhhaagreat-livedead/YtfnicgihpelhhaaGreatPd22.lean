/-
  words: the memories of both machines, places moved. What is seen of a machine: its memory, its ports, how much of the tape was taken. What a deed of the program's machine answers. Deeds of the program's machine: trap, set, jump, halt.
-/
import Derived.Test.YtfnicgihpelhhaaGreatProg
import Derived.WalkKit
import Derived.WalkSpells
import Derived.WalkLawsBesides
import Derived.RowKit3
import Derived.Below
import Derived.Deep.QuietTactic
import Derived.BigQuiet
import Derived.WalkSmall
import Derived.Laws.Rows
import Derived.Test.YtfnicgihpelhhaaGreatPd21
import Derived.Test.YtfnicgihpelhhaaGreatPd16
import Derived.Test.YtfnicgihpelhhaaGreatPd17
import Derived.Deep.RegionHeld3
import Derived.Laws.Pointers
import Derived.Outline
import Derived.StillTactics
namespace Go.Proofs.YtfnicgihpelhhaaGreat
open Go.RowKit

/-- What the second row holds, if the first is l: sealed places behind q moved. -/
def mvW (q : Nat) (l k : List Wd) : Prop := k.length = l.length ∧ ∀ j, wC k j = wC l j ∧ wV k j = (if wC l j = true ∧ (q : Int) < wV l j then wV l j + 1 else wV l j)
theorem cell_away {X : World} {g p : Nat} {v : Value} {a : Addr} (h : X.cell? a = some v) (hne : a.block ≠ g) (u : Value) : (X.setCell ⟨g, p, none⟩ u).cell? a = some v := by
  rw [World.cell?_of_block (Below.heap_setCell _ _ _ _ hne)]; exact h
theorem cell_same {X : World} {g : Nat} {v : Value} (h : X.cell? ⟨g, 0, none⟩ = some v) (u : Value) : (X.setCell ⟨g, 0, none⟩ u).cell? ⟨g, 0, none⟩ = some u := by
  simp [go_sem, h]
theorem cell_next {X : World} {g : Nat} {v : Value} (h : X.cell? ⟨g, 1, none⟩ = some v) (u : Value) : (X.setCell ⟨g, 0, none⟩ u).cell? ⟨g, 1, none⟩ = some v := by
  simp [go_sem, h]
set_option maxRecDepth 100000 in
set_option maxHeartbeats 2000000 in
theorem words_any (A B : Option Addr) (ca cb : Nat) (l k : List Wd) (q : Nat) (w : World) (hA : WordsAt w A l) (hB : WordsAt w B k) (hm : mvW q l k) (hs : Safe l) (hz : l.length ≤ 1048576) (hq : q ≤ 1048576) :
    Calls Tryz.prog 43 #[.slice A l.length ca, .slice B k.length cb, .int .i64 q] w fun e w' => e = .returned (.bool true) ∧ Below w.heap.size w w' := by
  have HA : Hid (WordsAt w A l) := hA
  have HB : Hid (WordsAt w B k) := hB
  have HM : Hid (mvW q l k) := hm
  have HS : Hid (Safe l) := hs
  rw [hm.1]
  clear hA hB hm hs
  go_enter Tryz.func43, Tryz.ntmps43
  go_wp2
  go_loopw [7] (fun i wr => ∃ (j : Nat), i = .int .i64 j ∧ j ≤ l.length ∧ Hid (Below w.heap.size w wr)) (fun i _ => l.length - (intOf i).toNat)
  case atStart => exact ⟨0, rfl, by omega, Below.refl _ _⟩
  case round =>
    obtain ⟨j, rfl, hj, HBr⟩ := hrel
    by_cases hlt : j < l.length
    · obtain ⟨a, ea, c0, c1⟩ := (HA.out.keep HBr.out) j hlt
      subst ea
      obtain ⟨b, eb, d0, d1⟩ := (HB.out.keep HBr.out) j (by rw [HM.out.1]; exact hlt)
      subst eb
      have hlt2 : (j : Int) < (l.length : Int) := by omega
      have p1 : wr.cell? (⟨(a.add (j * 2)).block, (a.add (j * 2)).off + 1, none⟩) = some (.bool (wC l j)) := c1
      obtain ⟨m1, m2⟩ := HM.out.2 j
      have hsf := HS.out j
      rw [m2] at d0
      rw [m1] at d1
      clear c1 m1 m2
      obtain ⟨V, HV⟩ : ∃ V, Hid (wr.alloc (.cells #[.int .i64 (wV l j), .bool (wC l j)] 82) = V) := ⟨_, rfl⟩
      have HBV : Hid (Below wr.heap.size wr V) := by unfold Hid; rw [← HV.out]; exact lb_alloc (Below.refl _ _) _
      have b0 : V.cell? ⟨wr.heap.size, 0, none⟩ = some (.int .i64 (wV l j)) := by rw [← HV.out]; simp [go_sem]
      have b1 : V.cell? ⟨wr.heap.size, 1, none⟩ = some (.bool (wC l j)) := by rw [← HV.out]; simp [go_sem]
      have bf : V.frozen? ⟨wr.heap.size, 0, none⟩ = false := by rw [← HV.out]; simp [go_sem]
      have e0 := lkeep HBV.out d0
      have e1 : V.cell? (⟨(b.add (j * 2)).block, (b.add (j * 2)).off + 1, none⟩) = some (.bool (wC l j)) := lkeep HBV.out d1
      have HBx : Hid (Below w.heap.size w V) := lb_trans HBr.out HBV.out
      have hbn : Hid ((b.add (j * 2)).block < wr.heap.size) := World.block_lt_of_cell? _ _ d0
      have hzr : Hid (w.heap.size ≤ wr.heap.size) := HBr.out.size
      clear d0 d1
      generalize wV l j = v at *
      generalize wC l j = cc at *
      go_upto_region 7 with fail
      rw [HV.out]
      clear HV c0 p1 HBr HBV
      cases cc with
      | false =>
        have hif : (if False ∧ (q : Int) < v then v + 1 else v) = v := if_neg (fun h => h.1)
        simp only [Bool.false_eq_true] at e0
        rw [hif] at e0
        go_wp2_with fail
        go_quiet (fail)
        go_wp2
        go_roundw
        case rel => exact ⟨j + 1, by go_num, by omega, below_drewN HBx.out _⟩
        case measure => simp [intOf]; omega
      | true =>
        by_cases hv : (q : Int) < v
        · rw [if_pos ⟨rfl, hv⟩] at e0
          have hb := hsf rfl
          have hwr : IntKind.i64.wrap (v + 1) = v + 1 := by rw [IntKind.wrap_i64]; omega
          obtain ⟨Z, HZ⟩ : ∃ Z, Hid (V.setCell ⟨wr.heap.size, 0, none⟩ (.int .i64 (v + 1)) = Z) := ⟨_, rfl⟩
          have z0 : Z.cell? ⟨wr.heap.size, 0, none⟩ = some (.int .i64 (v + 1)) := by rw [← HZ.out]; exact cell_same b0 _
          have z1 : Z.cell? ⟨wr.heap.size, 1, none⟩ = some (.bool true) := by rw [← HZ.out]; exact cell_next b1 _
          have y0 : Z.cell? (b.add (j * 2)) = some (.int .i64 (v + 1)) := by rw [← HZ.out]; exact cell_away e0 (by have := hbn.out; omega) _
          have y1 : Z.cell? (⟨(b.add (j * 2)).block, (b.add (j * 2)).off + 1, none⟩) = some (.bool true) := by rw [← HZ.out]; exact cell_away e1 (by have := hbn.out; show (b.add (j * 2)).block ≠ wr.heap.size; omega) _
          have HBZ : Hid (Below w.heap.size w Z) := by unfold Hid; rw [← HZ.out]; exact HBx.out.setCell hzr.out _
          go_upto_region 9 with fail
          rw [HZ.out]
          clear HZ b0 b1 bf e0 e1
          go_quiet (fail)
          go_wp2
          go_roundw
          case rel => exact ⟨j + 1, by go_num, by omega, below_drewN HBZ.out _⟩
          case measure => simp [intOf]; omega
        · rw [if_neg (fun h => hv h.2)] at e0
          go_upto_region 9 with fail
          go_quiet (fail)
          go_wp2
          go_roundw
          case rel => exact ⟨j + 1, by go_num, by omega, below_drewN HBx.out _⟩
          case measure => simp [intOf]; omega
    · go_wp2
      go_ret
      exact ⟨rfl, HBr.out⟩

end Go.Proofs.YtfnicgihpelhhaaGreat

namespace Go.Proofs.YtfnicgihpelhhaaGreat
open Go.RowKit

set_option maxRecDepth 100000 in
set_option maxHeartbeats 1000000 in
theorem clone_w {w : World} {b n : Nat} {v : Value} {xs : List Value} (h : w.ownsRow b 82 2 v n xs) (h1 : ∀ u ∈ xs, u.oneCell' = true) (hn : n ≤ 1048576) : Calls Tryz.prog 68 #[v] w (Cl_w w n xs) := by
  obtain ⟨i0, hi, hz0, hz1, hz2⟩ := info_w
  have hlen := h.1
  rcases h.2 with ⟨rfl, h0⟩ | ⟨g, cap, cur, rfl, hb, hg, hc, hm, hs, ht⟩
  · subst h0
    have hx : xs = [] := List.eq_nil_of_length_eq_zero (by simpa using hlen)
    subst hx
    have hn0 := nil_w
    go_enter Tryz.func68, Tryz.ntmps68
    go_wp2
    go_ret
    exact ⟨_, rfl, World.ownsRow_nil _ _ _ _, Below.refl _ _⟩
  · have hb0 := bs_w
    have hn0 := some_w g n cap
    have HC : Hid (∀ j u, xs[j]? = some u → (w.alloc (.cells #[] 82)).cell? ((⟨g, 0, none⟩ : Addr).add j) = some u) := fun j u hu => by
      rw [add_at]
      refine lkeep (lb_alloc (Below.refl _ _) _) (box_at hg ?_)
      have hj : j < n * 2 := by rw [← hlen]; exact (List.getElem?_eq_some_iff.1 hu).1
      rw [← ht, List.getElem?_take_of_lt hj] at hu
      simpa using hu
    have H1 : Hid (∀ u ∈ xs, u.oneCell' = true) := h1
    have HL : Hid (xs.length = n * 2) := hlen
    clear h1 hlen ht h hb hc hs
    go_enter Tryz.func68, Tryz.ntmps68
    go_wp2_with (at_builtin; refine wpList_append_own _ rfl (.tmp 5) (.tmp 6) 84 rfl w.heap.size 82 i0 (.agg #[.int .i64 0, .bool false]) 2 16 Tryz.underlying84 hi hz0 hz1 hz2 rfl (by decide) (.slice (some ⟨w.heap.size, 0, none⟩) 0 0) 0 [] rfl (World.ownsRow_made w #[] 0 (Nat.le_refl _) (Nat.zero_le _) rfl) ⟨g, 0, none⟩ n cap xs rfl HL.out HC.out H1.out (by unfold maxLen; omega) (by omega) (by simp) ?_; intro v' w' hown hgrow hnil)
    all_goals (
      have HO : Hid (w'.ownsRow w.heap.size 82 2 v' n xs) := by have e := hown; rw [Nat.zero_add, List.nil_append] at e; exact e
      have HG : Hid _ := hgrow
      clear hown hgrow hnil
      go_wp2
      go_ret
      refine ⟨_, rfl, ?_, ?_⟩
      · exact HO.out
      · exact Below.grown (lb_alloc (Below.refl _ _) _) HG.out (by simp) (fun k e => by simp [Value.ownBlock] at e; omega))

set_option maxRecDepth 100000 in
set_option maxHeartbeats 1000000 in
theorem clone_p {w : World} {b n : Nat} {v : Value} {xs : List Value} (h : w.ownsRow b 118 2 v n xs) (h1 : ∀ u ∈ xs, u.oneCell' = true) (hn : n ≤ 1048576) : Calls Tryz.prog 67 #[v] w (Cl_p w n xs) := by
  obtain ⟨i0, hi, hz0, hz1, hz2⟩ := info_p
  have hlen := h.1
  rcases h.2 with ⟨rfl, h0⟩ | ⟨g, cap, cur, rfl, hb, hg, hc, hm, hs, ht⟩
  · subst h0
    have hx : xs = [] := List.eq_nil_of_length_eq_zero (by simpa using hlen)
    subst hx
    have hn0 := nil_p
    go_enter Tryz.func67, Tryz.ntmps67
    go_wp2
    go_ret
    exact ⟨_, rfl, World.ownsRow_nil _ _ _ _, Below.refl _ _⟩
  · have hb0 := bs_p
    have hn0 := some_p g n cap
    have HC : Hid (∀ j u, xs[j]? = some u → (w.alloc (.cells #[] 118)).cell? ((⟨g, 0, none⟩ : Addr).add j) = some u) := fun j u hu => by
      rw [add_at]
      refine lkeep (lb_alloc (Below.refl _ _) _) (box_at hg ?_)
      have hj : j < n * 2 := by rw [← hlen]; exact (List.getElem?_eq_some_iff.1 hu).1
      rw [← ht, List.getElem?_take_of_lt hj] at hu
      simpa using hu
    have H1 : Hid (∀ u ∈ xs, u.oneCell' = true) := h1
    have HL : Hid (xs.length = n * 2) := hlen
    clear h1 hlen ht h hb hc hs
    go_enter Tryz.func67, Tryz.ntmps67
    go_wp2_with (at_builtin; refine wpList_append_own _ rfl (.tmp 5) (.tmp 6) 85 rfl w.heap.size 118 i0 (.agg #[.int .i64 0, .int .i64 0]) 2 16 Tryz.underlying85 hi hz0 hz1 hz2 rfl (by decide) (.slice (some ⟨w.heap.size, 0, none⟩) 0 0) 0 [] rfl (World.ownsRow_made w #[] 0 (Nat.le_refl _) (Nat.zero_le _) rfl) ⟨g, 0, none⟩ n cap xs rfl HL.out HC.out H1.out (by unfold maxLen; omega) (by omega) (by simp) ?_; intro v' w' hown hgrow hnil)
    all_goals (
      have HO : Hid (w'.ownsRow w.heap.size 118 2 v' n xs) := by have e := hown; rw [Nat.zero_add, List.nil_append] at e; exact e
      have HG : Hid _ := hgrow
      clear hown hgrow hnil
      go_wp2
      go_ret
      refine ⟨_, rfl, ?_, ?_⟩
      · exact HO.out
      · exact Below.grown (lb_alloc (Below.refl _ _) _) HG.out (by simp) (fun k e => by simp [Value.ownBlock] at e; omega))

section
variable {w : World} {base P : Nat} {s : Loc} {m : Mach}
theorem taken_yes (h : PAt w base P s m) (hm : Fine m) : Calls Tryz.prog 42 #[.pointer (some ⟨P, 0, none⟩)] w fun e w' => e = .returned (.int .i64 m.taken) ∧ w' = w := by
  have C := made_yes h hm
  obtain ⟨c0, c1, c34, c35, c36, c37, c38, c39⟩ := h.cells hm.sixteen
  clear h
  go_enter Tryz.func42, Tryz.ntmps42
  go_wp2_with fail
  refine C.mono ?_
  rintro e w1 ⟨rfl, rfl⟩
  go_wp2
  go_ret
  exact ⟨rfl, rfl⟩
set_option maxRecDepth 100000 in
set_option maxHeartbeats 1000000 in
theorem memory_yes (h : PAt w base P s m) (hm : Fine m) (_hn : m.steps ≤ 1048576) : Calls Tryz.prog 44 #[.pointer (some ⟨P, 0, none⟩)] w (Cl_w w m.mem.length (wVals m.mem)) := by
  have C1 := made_yes h hm
  have hml := hm.mlen
  have hpl := hm.ports
  obtain ⟨c0, c1, c34, c35, c36, c37, c38, c39⟩ := h.cells hm.sixteen
  have C2 := clone_w h.mem (wVals_one _) (by omega)
  clear h
  go_enter Tryz.func44, Tryz.ntmps44
  go_wp2_with (first
    | (go_at_call 62; refine C1.mono ?_; rintro e w1 ⟨rfl, hw1⟩; have hw1 := hw1.symm; subst hw1)
    | (go_at_call 68; refine C2.mono ?_; rintro e w1 ⟨v, rfl, hv⟩))
  go_ret
  exact ⟨_, rfl, hv⟩

set_option maxRecDepth 100000 in
set_option maxHeartbeats 1000000 in
theorem ports_yes (h : PAt w base P s m) (hm : Fine m) (hn : m.steps ≤ 1048576) : Calls Tryz.prog 41 #[.pointer (some ⟨P, 0, none⟩)] w (Cl_p w m.ports.length (pVals m.ports)) := by
  have C1 := made_yes h hm
  have hml := hm.mlen
  have hpl := hm.ports
  obtain ⟨c0, c1, c34, c35, c36, c37, c38, c39⟩ := h.cells hm.sixteen
  have C2 := clone_p h.ports (pVals_one _) (by omega)
  clear h
  go_enter Tryz.func41, Tryz.ntmps41
  go_wp2_with (first
    | (go_at_call 62; refine C1.mono ?_; rintro e w1 ⟨rfl, hw1⟩; have hw1 := hw1.symm; subst hw1)
    | (go_at_call 67; refine C2.mono ?_; rintro e w1 ⟨v, rfl, hv⟩))
  go_ret
  exact ⟨_, rfl, hv⟩
end

end Go.Proofs.YtfnicgihpelhhaaGreat

namespace Go.Proofs.YtfnicgihpelhhaaGreat
open Go.RowKit

/-- A deed: it gives up, and nothing is other; or it tells the next place, and the machine is as r says. -/
def DidP (w : World) (base P : Nat) (s : Loc) (_m : Mach) (r : Did) (e : Ending) (w' : World) : Prop :=
  (¬ r.err = 0 ∧ e = stopM r.err ∧ Below w.heap.size w w') ∨ (r.err = 0 ∧ e = .returned (.int .i64 r.to) ∧ ∃ s', PAt w' base P s' r.m ∧ Upto (Foot s P) w w' ∧ ∀ b, Foot s' P b → Foot s P b ∨ w.heap.size ≤ b)
section
variable {w w' : World} {base P : Nat} {s : Loc} {m : Mach}
theorem did_no {f : Int} (hf : ¬ f = 0) (hb : Below w.heap.size w w') : DidP w base P s m (noD m f) (stopM f) w' := .inl ⟨hf, rfl, hb⟩
theorem did_yes {r : Did} {k : Int} (he : r.err = 0) (hk : k = r.to) (h : PAt w' base P s r.m) (hu : Upto (Foot s P) w w') : DidP w base P s m r (.returned (.int .i64 k)) w' := .inr ⟨he, by rw [hk], s, h, hu, fun _ hb => .inl hb⟩
theorem did_put {r : Nat} {x : Wd} {k : Int} (hk : k = (m.pc : Int) + 1) (h : PAt w' base P s (putM m r x)) (hu : Upto (Foot s P) w w') : DidP w base P s m (putD m r x) (.returned (.int .i64 k)) w' := did_yes rfl hk h hu
theorem wrap_pc {k : Nat} (h : k ≤ 16384) : IntKind.i64.wrap ((k : Int) + 1) = (k : Int) + 1 := by
  simp [IntKind.wrap, IntKind.signed, IntKind.bits]; omega
theorem have_wd {G : Prop} {w w1 : World} (p : Nat) (hb : Below w.heap.size w w1) (h : w.cell? ⟨p, 0, none⟩ = some (.int .i64 0) ∧ w.cell? ⟨p, 1, none⟩ = some (.bool false) ∧ w.frozen? ⟨p, 0, none⟩ = false ∧ w.frozen? ⟨p, 1, none⟩ = false) (k : w1.cell? ⟨p, 0, none⟩ = some (.int .i64 0) → w1.cell? ⟨p, 1, none⟩ = some (.bool false) → w1.frozen? ⟨p, 0, none⟩ = false → w1.frozen? ⟨p, 1, none⟩ = false → G) : G :=
  k (lkeep hb h.1) (lkeep hb h.2.1) ((hb.frozen (p := ⟨p, 0, none⟩) (World.block_lt_of_cell? w _ h.1)).trans h.2.2.1) ((hb.frozen (p := ⟨p, 1, none⟩) (World.block_lt_of_cell? w _ h.2.1)).trans h.2.2.2)
theorem lb_new {w w1 : World} {i : Nat} {v : Value} (h : Below w.heap.size w w1) : Below w.heap.size w (w1.setCell ⟨w.heap.size, i, none⟩ v) := h.setCell (p := ⟨w.heap.size, i, none⟩) (Nat.le_refl _) v
/-- The machine's box alone may be other, and of it the lists stand. -/
structure Near (P : Nat) (W0 W : World) : Prop where
  but : But P W0 W
  hdr : W.cell? ⟨P, 34, none⟩ = W0.cell? ⟨P, 34, none⟩
  tap : W.cell? ⟨P, 1, none⟩ = W0.cell? ⟨P, 1, none⟩
  tak : W.cell? ⟨P, 38, none⟩ = W0.cell? ⟨P, 38, none⟩
theorem Near.refl (P : Nat) (W : World) : Near P W W := ⟨But.refl _ _, rfl, rfl, rfl⟩
theorem Near.drew {P : Nat} {W0 W : World} (h : Near P W0 W) : Near P W0 W.drew := ⟨h.but, h.hdr, h.tap, h.tak⟩
theorem Near.trans {P : Nat} {a b c : World} (h : Near P a b) (k : Near P b c) : Near P a c := ⟨h.but.trans k.but, k.hdr.trans h.hdr, k.tap.trans h.tap, k.tak.trans h.tak⟩
theorem Near.below {P : Nat} {a b c : World} (h : Near P a b) (hb : Below b.heap.size b c) (hP : P < b.heap.size) : Near P a c := ⟨h.but.on hb, (hb.cell (p := ⟨P, 34, none⟩) hP).trans h.hdr, (hb.cell (p := ⟨P, 1, none⟩) hP).trans h.tap, (hb.cell (p := ⟨P, 38, none⟩) hP).trans h.tak⟩
theorem Near.box {P B i : Nat} {W0 W : World} {v : Value} (h : Near P W0 W) (hB : B ≠ P) (hc : W0.cell? ⟨B, i, none⟩ = some v) : W.cell? ⟨B, i, none⟩ = some v := h.but.cell (p := ⟨B, i, none⟩) hB hc
theorem Near.up {P : Nat} {W0 W : World} {s : Loc} (h : Near P W0 W) : Upto (Foot s P) W0 W := ⟨h.but.1, h.but.2.1, h.but.2.2.1, h.but.2.2.2.1, fun b hb hn => h.but.2.2.2.2 b hb (fun e => hn (.inl e))⟩
theorem put_near {base P : Nat} {s : Loc} {m : Mach} {w : World} (h : PAt w base P s m) (hm : Fine m) (r : Nat) (hr : r < 16) (x : Wd) : Calls Tryz.prog 115 #[.pointer (some ⟨P, 0, none⟩), .int .i8 r, .agg #[.int .i64 x.1, .bool x.2]] w fun e w' => e = .returned (.int .i64 ((m.pc : Int) + 1)) ∧ PAt w' base P s (putM m r x) ∧ Near P w w' := by
  have hq := ((h.put hm.sixteen hr x).alloc (.cells #[.int .i64 x.1, .bool x.2] 82)).drew
  obtain ⟨d0, d1⟩ := h.reg hm.sixteen hr
  obtain ⟨c0, c1, c34, c35, c36, c37, c38, c39⟩ := h.cells hm.sixteen
  have f0 := h.fro (2 + r * 2)
  have f1 := h.fro (2 + r * 2 + 1)
  have hP := h.lt
  have hpc := hm.pc
  have HC : Hid (w.cell? ⟨P, 34, none⟩ = some (.slice s.M m.mem.length s.mc) ∧ w.cell? ⟨P, 1, none⟩ = some (.slice s.X m.tape.length s.xc) ∧ w.cell? ⟨P, 38, none⟩ = some (.int .i64 m.taken)) := ⟨c34, c1, c38⟩
  have HN : Hid (But P w ((((w.setCell ⟨P, 2 + r * 2, none⟩ (.int .i64 x.1)).setCell ⟨P, 2 + r * 2 + 1, none⟩ (.bool x.2)).alloc (.cells #[.int .i64 x.1, .bool x.2] 82)).drew)) := (((But.refl P w).set _ _).set _ _).on (Below.drew (lb_alloc (Below.refl _ _) _))
  clear h
  go_enter Tryz.func115, Tryz.ntmps115
  go_wp2_with fail
  go_region
  all_goals (
    go_wp2
    go_ret
    obtain ⟨-, k1, k34, -, -, -, k38, -⟩ := hq.cells (m := putM m r x) (by simp [putM, hm.sixteen])
    exact ⟨rfl, hq, ⟨HN.out, k34.trans HC.out.1.symm, k1.trans HC.out.2.1.symm, k38.trans HC.out.2.2.symm⟩⟩)
theorem up_on {F : Nat → Prop} {w1 : World} (hb : Below w.heap.size w w1) (hu : Upto F w1 w') : Upto F w w' := (Upto.of hb).trans hu
end





end Go.Proofs.YtfnicgihpelhhaaGreat

namespace Go.Proofs.YtfnicgihpelhhaaGreat
open Go.RowKit

section
variable {w : World} {base P : Nat} {s : Loc} {m : Mach}
theorem trap_any (_h : PAt w base P s m) (op d a b n : Int) : Calls Tryz.prog 95 #[.pointer (some ⟨P, 0, none⟩), .agg #[.int .i8 op, .int .i8 d, .int .i8 a, .int .i8 b, .int .i64 n]] w (DidP w base P s m (noD m 2)) := by
  go_enter Tryz.func95, Tryz.ntmps95
  go_wp2
  exact ⟨rfl, did_no (by decide) (lb_alloc (Below.refl _ _) _)⟩
theorem jump_any (h : PAt w base P s m) (_hm : Fine m) (_hp : m.pc < 16384) {op d a b n : Int} (hi : InsIn op d a b n) (hq : op = 15) : Calls Tryz.prog 103 #[.pointer (some ⟨P, 0, none⟩), .agg #[.int .i8 op, .int .i8 d, .int .i8 a, .int .i8 b, .int .i64 n]] w (DidP w base P s m (goD m n)) := by
  have hn := (hi.pl (.inl hq)).1
  clear hq
  have h2 := h.alloc (.cells #[.int .i8 op, .int .i8 d, .int .i8 a, .int .i8 b, .int .i64 n] 50)
  go_enter Tryz.func103, Tryz.ntmps103
  go_wp2
  go_ret
  exact did_yes rfl (by simp [goD]; omega) h2 ((Upto.refl _ _).alloc _)
theorem halt_any (h : PAt w base P s m) (hm : Fine m) (_hp : m.pc < 16384) {op d a b n : Int} (_hi : InsIn op d a b n) : Calls Tryz.prog 109 #[.pointer (some ⟨P, 0, none⟩), .agg #[.int .i8 op, .int .i8 d, .int .i8 a, .int .i8 b, .int .i64 n]] w (DidP w base P s m (haltD m)) := by
  have h2 := (h.status hm.sixteen 1).alloc (.cells #[.int .i8 op, .int .i8 d, .int .i8 a, .int .i8 b, .int .i64 n] 50)
  obtain ⟨c0, c1, c34, c35, c36, c37, c38, c39⟩ := h.cells hm.sixteen
  have f9 := h.fro 39
  have hP := h.lt
  clear h
  go_enter Tryz.func109, Tryz.ntmps109
  go_wp2
  go_ret
  exact did_yes rfl rfl h2 (((Upto.refl _ _).set (Or.inl (Or.inl rfl)) _ _).alloc _)
theorem set_any (h : PAt w base P s m) (hm : Fine m) (_hp : m.pc < 16384) {op d a b n : Int} (hi : InsIn op d a b n) : Calls Tryz.prog 96 #[.pointer (some ⟨P, 0, none⟩), .agg #[.int .i8 op, .int .i8 d, .int .i8 a, .int .i8 b, .int .i64 n]] w (DidP w base P s m (putD m d (n, false))) := by
  have C1 := plain_any n
  obtain ⟨k, hk0⟩ := Int.eq_ofNat_of_zero_le hi.d0
  have hk : k < 16 := by have := hi.d1; omega
  subst hk0
  have C2 := fun (W : World) (h : PAt W base P s m) => put_any h hm k hk (n, false)
  have hP := h.lt
  go_enter Tryz.func96, Tryz.ntmps96
  go_wp2_with fail
  go_region_with (first
    | (go_at_call 37; refine (C1 _).mono ?_; rintro e w1 ⟨rfl, rfl⟩)
    | (go_at_call 115; refine (C2 _ (by repeat (first | assumption | apply PAt.drew | apply PAt.alloc))).mono ?_; rintro e w1 ⟨rfl, hq, hu⟩))
  all_goals (
    go_wp2
    go_ret
    exact did_put rfl hq (Upto.trans (by repeat (first | exact Upto.refl _ _ | apply Upto.drew | apply Upto.alloc)) hu))
theorem place_any (h : PAt w base P s m) (hm : Fine m) (_hp : m.pc < 16384) {op d a b n : Int} (hi : InsIn op d a b n) : Calls Tryz.prog 108 #[.pointer (some ⟨P, 0, none⟩), .agg #[.int .i8 op, .int .i8 d, .int .i8 a, .int .i8 b, .int .i64 n]] w (DidP w base P s m (putD m d (n, true))) := by
  have C1 := sealed_any n
  obtain ⟨k, hk0⟩ := Int.eq_ofNat_of_zero_le hi.d0
  have hk : k < 16 := by have := hi.d1; omega
  subst hk0
  have C2 := fun (W : World) (h : PAt W base P s m) => put_any h hm k hk (n, true)
  have hP := h.lt
  go_enter Tryz.func108, Tryz.ntmps108
  go_wp2_with fail
  go_region_with (first
    | (go_at_call 122; refine (C1 _).mono ?_; rintro e w1 ⟨rfl, rfl⟩)
    | (go_at_call 115; refine (C2 _ (by repeat (first | assumption | apply PAt.drew | apply PAt.alloc))).mono ?_; rintro e w1 ⟨rfl, hq, hu⟩))
  all_goals (
    go_wp2
    go_ret
    exact did_put rfl hq (Upto.trans (by repeat (first | exact Upto.refl _ _ | apply Upto.drew | apply Upto.alloc)) hu))
end





end Go.Proofs.YtfnicgihpelhhaaGreat
