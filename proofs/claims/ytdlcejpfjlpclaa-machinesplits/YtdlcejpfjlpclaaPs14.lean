/-
  Rows of words and ports, cloned; Memory and Ports of the program's machine. Where an instruction goes, as plain functions of numbers; no Go in sight. When an image may be, as plain mathematics; no Go in sight. Ends, Falls, Target and Aim of the document's answer, for every word of 32 bits; no other condition. Ends, Falls, Target and Aim of package isa, over what Decode, Has and Encode return; no other condition.
-/
import Derived.Test.YtdlcejpfjlpclaaProg
import Derived.WalkKit
import Derived.WalkSpells
import Derived.WalkLawsBesides
import Derived.RowKit3
import Derived.Below
import Derived.Deep.QuietTactic
import Derived.BigQuiet
import Derived.WalkSmall
import Derived.Laws.Rows
import Derived.Test.YtdlcejpfjlpclaaPs11
import Derived.Test.YtdlcejpfjlpclaaPs02
import Derived.Test.YtdlcejpfjlpclaaPs05
import Derived.Test.YtdlcejpfjlpclaaPs10
namespace Go.Proofs.Ytdlcejpfjlpclaa
open Go.RowKit

theorem bs_w (w : World) : (Instr.buildSlice 38 0 #[]).run Try.prog w = .ok (.slice (some ⟨w.heap.size, 0, none⟩) 0 0) (w.alloc (.cells #[] 47)) := by kernel_rfl
theorem nil_w (w : World) : (binOp BinOp.eql 38 (.slice none 0 0) (.slice none 0 0)).run Try.prog w = .ok (.bool true) w := by kernel_rfl
theorem some_w (g n c : Nat) (w : World) : (binOp BinOp.eql 38 (.slice (some ⟨g, 0, none⟩) n c) (.slice none 0 0)).run Try.prog w = .ok (.bool false) w := by kernel_rfl
theorem info_w : ∃ i, Try.prog.info? 47 = some i ∧ i.zero = some (.agg #[.int .i64 0, .bool false]) ∧ i.size = 2 ∧ i.bytes = 16 :=
  ⟨(Try.prog.info? 47).get (by kernel_rfl), by kernel_rfl, by kernel_rfl, by kernel_rfl, by kernel_rfl⟩
/-- A row, cloned. -/
def Cl_w (w : World) (n : Nat) (xs : List Value) (e : Ending) (w' : World) : Prop := ∃ v, e = .returned v ∧ w'.ownsRow w.heap.size 47 2 v n xs ∧ Below w.heap.size w w'
set_option maxRecDepth 100000 in
set_option maxHeartbeats 1000000 in
theorem clone_w {w : World} {b n : Nat} {v : Value} {xs : List Value} (h : w.ownsRow b 47 2 v n xs) (h1 : ∀ u ∈ xs, u.oneCell' = true) (hn : n ≤ 1048576) : Calls Try.prog 23 #[v] w (Cl_w w n xs) := by
  obtain ⟨i0, hi, hz0, hz1, hz2⟩ := info_w
  have hlen := h.1
  rcases h.2 with ⟨rfl, h0⟩ | ⟨g, cap, cur, rfl, hb, hg, hc, hm, hs, ht⟩
  · subst h0
    have hx : xs = [] := List.eq_nil_of_length_eq_zero (by simpa using hlen)
    subst hx
    have hn0 := nil_w
    go_enter Try.func23, Try.ntmps23
    go_wp2
    go_ret
    exact ⟨_, rfl, World.ownsRow_nil _ _ _ _, Below.refl _ _⟩
  · have hb0 := bs_w
    have hn0 := some_w g n cap
    have HC : Hid (∀ j u, xs[j]? = some u → (w.alloc (.cells #[] 47)).cell? ((⟨g, 0, none⟩ : Addr).add j) = some u) := fun j u hu => by
      rw [add_at]
      refine lkeep (lb_alloc (Below.refl _ _) _) (box_at hg ?_)
      have hj : j < n * 2 := by rw [← hlen]; exact (List.getElem?_eq_some_iff.1 hu).1
      rw [← ht, List.getElem?_take_of_lt hj] at hu
      simpa using hu
    have H1 : Hid (∀ u ∈ xs, u.oneCell' = true) := h1
    have HL : Hid (xs.length = n * 2) := hlen
    clear h1 hlen ht h hb hc hs
    go_enter Try.func23, Try.ntmps23
    go_wp2_with (at_builtin; refine wpList_append_own _ rfl (.tmp 5) (.tmp 6) 38 rfl w.heap.size 47 i0 (.agg #[.int .i64 0, .bool false]) 2 16 Try.underlying38 hi hz0 hz1 hz2 rfl (by decide) (.slice (some ⟨w.heap.size, 0, none⟩) 0 0) 0 [] rfl (World.ownsRow_made w #[] 0 (Nat.le_refl _) (Nat.zero_le _) rfl) ⟨g, 0, none⟩ n cap xs rfl HL.out HC.out H1.out (by unfold maxLen; omega) (by omega) (by simp) ?_; intro v' w' hown hgrow hnil)
    all_goals (
      have HO : Hid (w'.ownsRow w.heap.size 47 2 v' n xs) := by have e := hown; rw [Nat.zero_add, List.nil_append] at e; exact e
      have HG : Hid _ := hgrow
      clear hown hgrow hnil
      go_wp2
      go_ret
      refine ⟨_, rfl, ?_, ?_⟩
      · exact HO.out
      · exact Below.grown (lb_alloc (Below.refl _ _) _) HG.out (by simp) (fun k e => by simp [Value.ownBlock] at e; omega))

theorem bs_p (w : World) : (Instr.buildSlice 41 0 #[]).run Try.prog w = .ok (.slice (some ⟨w.heap.size, 0, none⟩) 0 0) (w.alloc (.cells #[] 63)) := by kernel_rfl
theorem nil_p (w : World) : (binOp BinOp.eql 41 (.slice none 0 0) (.slice none 0 0)).run Try.prog w = .ok (.bool true) w := by kernel_rfl
theorem some_p (g n c : Nat) (w : World) : (binOp BinOp.eql 41 (.slice (some ⟨g, 0, none⟩) n c) (.slice none 0 0)).run Try.prog w = .ok (.bool false) w := by kernel_rfl
theorem info_p : ∃ i, Try.prog.info? 63 = some i ∧ i.zero = some (.agg #[.int .i64 0, .int .i64 0]) ∧ i.size = 2 ∧ i.bytes = 16 :=
  ⟨(Try.prog.info? 63).get (by kernel_rfl), by kernel_rfl, by kernel_rfl, by kernel_rfl, by kernel_rfl⟩
/-- A row, cloned. -/
def Cl_p (w : World) (n : Nat) (xs : List Value) (e : Ending) (w' : World) : Prop := ∃ v, e = .returned v ∧ w'.ownsRow w.heap.size 63 2 v n xs ∧ Below w.heap.size w w'
set_option maxRecDepth 100000 in
set_option maxHeartbeats 1000000 in
theorem clone_p {w : World} {b n : Nat} {v : Value} {xs : List Value} (h : w.ownsRow b 63 2 v n xs) (h1 : ∀ u ∈ xs, u.oneCell' = true) (hn : n ≤ 1048576) : Calls Try.prog 24 #[v] w (Cl_p w n xs) := by
  obtain ⟨i0, hi, hz0, hz1, hz2⟩ := info_p
  have hlen := h.1
  rcases h.2 with ⟨rfl, h0⟩ | ⟨g, cap, cur, rfl, hb, hg, hc, hm, hs, ht⟩
  · subst h0
    have hx : xs = [] := List.eq_nil_of_length_eq_zero (by simpa using hlen)
    subst hx
    have hn0 := nil_p
    go_enter Try.func24, Try.ntmps24
    go_wp2
    go_ret
    exact ⟨_, rfl, World.ownsRow_nil _ _ _ _, Below.refl _ _⟩
  · have hb0 := bs_p
    have hn0 := some_p g n cap
    have HC : Hid (∀ j u, xs[j]? = some u → (w.alloc (.cells #[] 63)).cell? ((⟨g, 0, none⟩ : Addr).add j) = some u) := fun j u hu => by
      rw [add_at]
      refine lkeep (lb_alloc (Below.refl _ _) _) (box_at hg ?_)
      have hj : j < n * 2 := by rw [← hlen]; exact (List.getElem?_eq_some_iff.1 hu).1
      rw [← ht, List.getElem?_take_of_lt hj] at hu
      simpa using hu
    have H1 : Hid (∀ u ∈ xs, u.oneCell' = true) := h1
    have HL : Hid (xs.length = n * 2) := hlen
    clear h1 hlen ht h hb hc hs
    go_enter Try.func24, Try.ntmps24
    go_wp2_with (at_builtin; refine wpList_append_own _ rfl (.tmp 5) (.tmp 6) 41 rfl w.heap.size 63 i0 (.agg #[.int .i64 0, .int .i64 0]) 2 16 Try.underlying41 hi hz0 hz1 hz2 rfl (by decide) (.slice (some ⟨w.heap.size, 0, none⟩) 0 0) 0 [] rfl (World.ownsRow_made w #[] 0 (Nat.le_refl _) (Nat.zero_le _) rfl) ⟨g, 0, none⟩ n cap xs rfl HL.out HC.out H1.out (by unfold maxLen; omega) (by omega) (by simp) ?_; intro v' w' hown hgrow hnil)
    all_goals (
      have HO : Hid (w'.ownsRow w.heap.size 63 2 v' n xs) := by have e := hown; rw [Nat.zero_add, List.nil_append] at e; exact e
      have HG : Hid _ := hgrow
      clear hown hgrow hnil
      go_wp2
      go_ret
      refine ⟨_, rfl, ?_, ?_⟩
      · exact HO.out
      · exact Below.grown (lb_alloc (Below.refl _ _) _) HG.out (by simp) (fun k e => by simp [Value.ownBlock] at e; omega))

theorem wVals_one (l : List Wd) : ∀ u ∈ wVals l, u.oneCell' = true := fun u hu => by
  simp only [wVals, List.mem_flatMap] at hu
  obtain ⟨x, -, hx⟩ := hu
  simp at hx
  rcases hx with rfl | rfl <;> rfl
theorem pVals_one (l : List (Int × Int)) : ∀ u ∈ pVals l, u.oneCell' = true := fun u hu => by
  simp only [pVals, List.mem_flatMap] at hu
  obtain ⟨x, -, hx⟩ := hu
  simp at hx
  rcases hx with rfl | rfl <;> rfl
section
variable {w : World} {base P : Nat} {s : Loc} {m : Mach}

set_option maxRecDepth 100000 in
set_option maxHeartbeats 1000000 in
theorem memory_yes (h : PAt w base P s m) (hm : Fine m) (_hn : m.steps ≤ 1048576) : Calls Try.prog 13 #[.pointer (some ⟨P, 0, none⟩)] w (Cl_w w m.mem.length (wVals m.mem)) := by
  have C1 := made_yes h hm
  have hml := hm.mlen
  have hpl := hm.ports
  obtain ⟨c0, c1, c34, c35, c36, c37, c38, c39⟩ := h.cells hm.sixteen
  have C2 := clone_w h.mem (wVals_one _) (by omega)
  clear h
  go_enter Try.func13, Try.ntmps13
  go_wp2_with (first
    | (go_at_call 22; refine C1.mono ?_; rintro e w1 ⟨rfl, hw1⟩; have hw1 := hw1.symm; subst hw1)
    | (go_at_call 23; refine C2.mono ?_; rintro e w1 ⟨v, rfl, hv⟩))
  go_ret
  exact ⟨_, rfl, hv⟩

set_option maxRecDepth 100000 in
set_option maxHeartbeats 1000000 in
theorem ports_yes (h : PAt w base P s m) (hm : Fine m) (hn : m.steps ≤ 1048576) : Calls Try.prog 15 #[.pointer (some ⟨P, 0, none⟩)] w (Cl_p w m.ports.length (pVals m.ports)) := by
  have C1 := made_yes h hm
  have hml := hm.mlen
  have hpl := hm.ports
  obtain ⟨c0, c1, c34, c35, c36, c37, c38, c39⟩ := h.cells hm.sixteen
  have C2 := clone_p h.ports (pVals_one _) (by omega)
  clear h
  go_enter Try.func15, Try.ntmps15
  go_wp2_with (first
    | (go_at_call 22; refine C1.mono ?_; rintro e w1 ⟨rfl, hw1⟩; have hw1 := hw1.symm; subst hw1)
    | (go_at_call 24; refine C2.mono ?_; rintro e w1 ⟨v, rfl, hv⟩))
  go_ret
  exact ⟨_, rfl, hv⟩
end

end Go.Proofs.Ytdlcejpfjlpclaa

namespace Go.Proofs.Ytdlcejpfjlpclaa
open Go.RowKit

/-- Does an op end a block? -/
def endsB (op : Int) : Bool := decide (op = -1 ∨ op = 0 ∨ op = 15 ∨ op = 16 ∨ op = 17 ∨ op = 18 ∨ op = 19 ∨ op = 21)
/-- Is a word one with a place? -/
def isT (w : Int) : Bool := decide (0 ≤ dOp w) && hP (dOp w)
def tgV (w : Int) : Int := if isT w then dN w else 0
/-- Aim's word and error. -/
def aimV (w p : Int) : Int := if isT w && decide (0 ≤ p ∧ p < 16384) then encV (dOp w) (dD w) (dA w) (dB w) p else 0
def aimE (w p : Int) : Int := if isT w then (if decide (0 ≤ p ∧ p < 16384) then encE (dOp w) (dD w) (dA w) (dB w) p else 11) else 10



end Go.Proofs.Ytdlcejpfjlpclaa

namespace Go.Proofs.Ytdlcejpfjlpclaa
open Go.RowKit

/-- May a word be the last one? -/
def lastOK (w : Int) : Bool := decide (dOp w = 0 ∨ dOp w = 15 ∨ dOp w = 19 ∨ dOp w = 21)
/-- Does the word at a place have a target behind the text? -/
def farT (text : List Int) (i : Nat) : Bool := isT (nth text i) && decide ((text.length : Int) ≤ tgV (nth text i))
/-- What Check tells. -/
def checkI (text : List Int) (ml : Nat) (ent : Int) : Int × Int :=
  if text.length = 0 then (50, 0) else if 16384 < text.length then (42, 16384) else if 4096 < ml then (25, 4096) else if ent < 0 ∨ (text.length : Int) ≤ ent then (41, 0) else
  match (List.range text.length).find? (farT text) with
  | some i => (22, i)
  | none => if lastOK (nth text (text.length - 1)) then (0, 0) else (50, ((text.length - 1 : Nat) : Int))
/-- What is past the first four looks. -/
structure Past (text : List Int) (ml : Nat) (ent : Int) : Prop where
  pos : 0 < text.length
  len : text.length ≤ 16384
  mem : ml ≤ 4096
  ent0 : 0 ≤ ent
  ent1 : ent < text.length
theorem check_far {text : List Int} {ml : Nat} {ent : Int} {k : Nat} (h : Past text ml ent) (hk : k < text.length) (h0 : ∀ j, j < k → farT text j = false) (e : farT text k = true) : checkI text ml ent = (22, (k : Int)) := by
  have hf : (List.range text.length).find? (farT text) = some k := by
    rw [List.find?_range_eq_some]
    exact ⟨e, by simpa using hk, fun j hj => by rw [h0 j hj]; rfl⟩
  unfold checkI
  rw [if_neg (by have := h.pos; omega), if_neg (by have := h.len; omega), if_neg (by have := h.mem; omega), if_neg (by have := h.ent0; have := h.ent1; omega), hf]
theorem check_end {text : List Int} {ml : Nat} {ent : Int} (h : Past text ml ent) (h0 : ∀ j, j < text.length → farT text j = false) : checkI text ml ent = if lastOK (nth text (text.length - 1)) then (0, 0) else (50, ((text.length - 1 : Nat) : Int)) := by
  have hf : (List.range text.length).find? (farT text) = none := by
    rw [List.find?_eq_none]
    intro j hj
    rw [h0 j (by simpa using hj)]; simp
  unfold checkI
  rw [if_neg (by have := h.pos; omega), if_neg (by have := h.len; omega), if_neg (by have := h.mem; omega), if_neg (by have := h.ent0; have := h.ent1; omega), hf]
theorem check0 {text : List Int} {ml : Nat} {ent : Int} (h : text.length = 0) : checkI text ml ent = (50, 0) := by unfold checkI; rw [if_pos h]
theorem check1 {text : List Int} {ml : Nat} {ent : Int} (h0 : ¬ text.length = 0) (h : 16384 < text.length) : checkI text ml ent = (42, 16384) := by unfold checkI; rw [if_neg h0, if_pos h]
theorem check2 {text : List Int} {ml : Nat} {ent : Int} (h0 : ¬ text.length = 0) (h1 : ¬ 16384 < text.length) (h : 4096 < ml) : checkI text ml ent = (25, 4096) := by unfold checkI; rw [if_neg h0, if_neg h1, if_pos h]
theorem check3 {text : List Int} {ml : Nat} {ent : Int} (h0 : ¬ text.length = 0) (h1 : ¬ 16384 < text.length) (h2 : ¬ 4096 < ml) (h : ent < 0 ∨ (text.length : Int) ≤ ent) : checkI text ml ent = (41, 0) := by unfold checkI; rw [if_neg h0, if_neg h1, if_neg h2, if_pos h]
/-- An image that may be. -/
structure MayI (text : List Int) (ml : Nat) (ent : Int) : Prop where
  past : Past text ml ent
  far : ∀ j, j < text.length → farT text j = false
  last : lastOK (nth text (text.length - 1)) = true
theorem check_mayI {text : List Int} {ml : Nat} {ent : Int} (h : (checkI text ml ent).1 = 0) : MayI text ml ent := by
  by_cases h0 : text.length = 0
  · rw [check0 h0] at h; cases h
  by_cases h1 : 16384 < text.length
  · rw [check1 h0 h1] at h; cases h
  by_cases h2 : 4096 < ml
  · rw [check2 h0 h1 h2] at h; cases h
  by_cases h3 : ent < 0 ∨ (text.length : Int) ≤ ent
  · rw [check3 h0 h1 h2 h3] at h; cases h
  have hp : Past text ml ent := ⟨by omega, by omega, by omega, by omega, by omega⟩
  have hall : ∀ j, j < text.length → farT text j = false := by
    intro j
    induction j using Nat.strongRecOn with
    | ind j ih =>
      intro hj
      cases e : farT text j
      · rfl
      · rw [check_far hp hj (fun i hi => ih i hi (by omega)) e] at h; cases h
  refine ⟨hp, hall, ?_⟩
  rw [check_end hp hall] at h
  cases e : lastOK (nth text (text.length - 1))
  · rw [e] at h; cases h
  · rfl
theorem may_zero {text : List Int} {ml : Nat} {ent : Int} (h : MayI text ml ent) : checkI text ml ent = (0, 0) := by
  rw [check_end h.past h.far, h.last]; rfl
theorem check_pair {text : List Int} {ml : Nat} {ent : Int} (h : (checkI text ml ent).1 = 0) : checkI text ml ent = (0, 0) := may_zero (check_mayI h)
theorem check_range (text : List Int) (ml : Nat) (ent : Int) (h : text.length ≤ 1048576) : 0 ≤ (checkI text ml ent).1 ∧ (checkI text ml ent).1 ≤ 50 ∧ 0 ≤ (checkI text ml ent).2 ∧ (checkI text ml ent).2 ≤ 1048576 := by
  unfold checkI
  repeat' split
  all_goals (simp only; try omega)
  rename_i i hi
  have := List.mem_of_find?_eq_some hi
  simp at this
  omega


end Go.Proofs.Ytdlcejpfjlpclaa

namespace Go.Proofs.Ytdlcejpfjlpclaa
open Go.RowKit

@[go_sem] theorem field_ins0 (x d a b n : Int) (w : World) : (Instr.field 58 (.agg #[.int .i8 x, .int .i8 d, .int .i8 a, .int .i8 b, .int .i64 n]) 0).run Try.prog w = .ok (.int .i8 x) w := by kernel_rfl

end Go.Proofs.Ytdlcejpfjlpclaa

namespace Go.Proofs.Ytdlcejpfjlpclaa
open Go.RowKit

theorem ends_falls (x : Int) : (!(!endsB x || x == 16) || x == 16) = endsB x := by
  by_cases h16 : x = 16
  · subst h16; rfl
  · have : (x == 16) = false := by simpa using h16
    rw [this]; simp

theorem target_of (v x d a b n : Int) (p1 p2 p3 p4 p : Bool) (w : World) (CE : ∀ wx : World, Calls Try.prog 20 #[.int .u32 v] wx fun e w' => e = .returned (.agg #[.int .i8 x, .int .i8 d, .int .i8 a, .int .i8 b, .int .i64 n]) ∧ Below wx.heap.size wx w') (CH : ∀ wx : World, Calls Try.prog 33 #[.int .i8 x] wx fun e w' => e = .returned (.tuple #[.bool p1, .bool p2, .bool p3, .bool p4, .bool p]) ∧ Below wx.heap.size wx w') : Calls Try.prog 28 #[.int .u32 v] w fun e w' => e = .returned (.tuple #[.int .i64 (if p then n else 0), .bool p]) ∧ Below w.heap.size w w' := by
  cases p
  · go_enter Try.func28, Try.ntmps28
    go_wp2_with fail
    refine (CE _).mono ?_
    rintro e w1 ⟨rfl, hb⟩
    go_wp2_with fail
    refine (CH _).mono ?_
    rintro e w2 ⟨rfl, hb2⟩
    go_wp2
    go_ret2
    exact ⟨rfl, bel_trans (bel_alloc hb _) hb2⟩
  · go_enter Try.func28, Try.ntmps28
    go_wp2_with fail
    refine (CE _).mono ?_
    rintro e w1 ⟨rfl, hb⟩
    go_wp2_with fail
    refine (CH _).mono ?_
    rintro e w2 ⟨rfl, hb2⟩
    have c4 : w2.cell? ⟨w1.heap.size, 4, none⟩ = some (.int .i64 n) := cell_keep hb2 (by simp [go_sem])
    have HB : Hid (Below w.heap.size w w2) := bel_trans (bel_alloc hb _) hb2
    clear hb hb2
    go_wp2
    go_ret2
    exact ⟨rfl, HB.out⟩



end Go.Proofs.Ytdlcejpfjlpclaa
