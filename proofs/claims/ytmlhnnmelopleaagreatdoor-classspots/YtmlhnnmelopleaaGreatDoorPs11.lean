/-
  leaves and Check of package image, by what they return; each word is of 32 bits. What gather answers. A row of bools in memory; what the document marks. What can be reached, plain; how it is counted.
-/
import Derived.Test.YtmlhnnmelopleaaGreatDoorProg
import Derived.WalkKit
import Derived.WalkSpells
import Derived.WalkLawsBesides
import Derived.RowKit3
import Derived.Below
import Derived.Deep.QuietTactic
import Derived.BigQuiet
import Derived.WalkSmall
import Derived.Laws.Rows
import Derived.Test.YtmlhnnmelopleaaGreatDoorPs04
import Derived.Test.YtmlhnnmelopleaaGreatDoorPs09
import Derived.Deep.AppendLies
import Derived.Test.YtmlhnnmelopleaaGreatDoorPs10
namespace Go.Proofs.YtmlhnnmelopleaaGreatDoor
open Go.RowKit

theorem leaves_any (v : Int) (h0 : 0 ≤ v) (h1 : v < 4294967296) (w : World) : Calls Tryz.prog 98 #[.int .u32 v] w fun e w' => e = .returned (.bool (lastOK v)) ∧ Below w.heap.size w w' := by
  have C := isadecode_any v h0 h1 w
  unfold lastOK
  generalize dOp v = x at *
  generalize dD v = x1 at *
  generalize dA v = x2 at *
  generalize dB v = x3 at *
  generalize dN v = x4 at *
  go_enter Tryz.func98, Tryz.ntmps98
  go_wp2_with fail
  refine C.mono ?_
  rintro e w1 ⟨rfl, hb⟩
  clear C
  go_wp2
  all_goals (
    go_ret
    refine ⟨retB ?_, hb⟩
    simp_all)
theorem lb_box0 {w w1 : World} {B : Nat} {cs : Array Value} {t : TypeId} (h : w.heap[B]? = some (.cells cs t (0, 0))) (hb : Below w.heap.size w w1) : w1.heap[B]? = some (.cells cs t (0, 0)) := by
  rw [hb.block B (Array.getElem?_eq_some_iff.1 h).1]; exact h
def ChkP (E N : Int) (w : World) (e : Ending) (w' : World) : Prop := e = .returned (.tuple #[.int .i64 E, .int .i64 N]) ∧ Below w.heap.size w w'
set_option maxRecDepth 100000 in
set_option maxHeartbeats 1000000 in
theorem check_any (A1 A2 : Option Addr) (c1 ml c2 : Nat) (ent : Int) (text : List Int) (w : World) (hT : IntsAt w A1 .u32 text) (hR : ∀ i, i < text.length → 0 ≤ nth text i ∧ nth text i < 4294967296) (hl : text.length ≤ 1048576) (hm : ml ≤ 1048576) :
    Calls Tryz.prog 88 #[.agg #[.slice A1 text.length c1, .int .i64 ent, .slice A2 ml c2]] w (ChkP (checkI text ml ent).1 (checkI text ml ent).2 w) := by
  by_cases h0 : text.length = 0
  · rw [check0 h0, h0]
    go_enter Tryz.func88, Tryz.ntmps88
    go_wp2
    go_ret2
    exact ⟨rfl, lb_alloc (Below.refl _ _) _⟩
  have n0 : ((text.length : Int) == 0) = false := by simpa using h0
  by_cases h1 : 16384 < text.length
  · rw [check1 h0 h1]
    go_enter Tryz.func88, Tryz.ntmps88
    go_wp2
    go_ret2
    exact ⟨rfl, lb_alloc (Below.refl _ _) _⟩
  by_cases h2 : 4096 < ml
  · rw [check2 h0 h1 h2]
    go_enter Tryz.func88, Tryz.ntmps88
    go_wp2
    go_ret2
    exact ⟨rfl, lb_alloc (Below.refl _ _) _⟩
  by_cases h3 : ent < 0
  · rw [check3 h0 h1 h2 (.inl h3)]
    go_enter Tryz.func88, Tryz.ntmps88
    go_wp2
    go_ret2
    exact ⟨rfl, lb_alloc (Below.refl _ _) _⟩
  by_cases h4 : (text.length : Int) ≤ ent
  · rw [check3 h0 h1 h2 (.inr h4)]
    go_enter Tryz.func88, Tryz.ntmps88
    go_wp2
    go_ret2
    exact ⟨rfl, lb_alloc (Below.refl _ _) _⟩
  have HP : Hid (Past text ml ent) := ⟨by omega, by omega, by omega, by omega, by omega⟩
  have HB0 : Hid (Below w.heap.size w (w.alloc (.cells #[.slice A1 text.length c1, .int .i64 ent, .slice A2 ml c2] 31))) := lb_alloc (Below.refl _ _) _
  have HX : Hid ((w.alloc (.cells #[.slice A1 text.length c1, .int .i64 ent, .slice A2 ml c2] 31)).heap[w.heap.size]? = some (.cells #[.slice A1 text.length c1, .int .i64 ent, .slice A2 ml c2] 31 (0, 0))) := heap_alloc_new _ _
  have HS : Hid (∀ i, i < text.length → ∃ a : Addr, A1 = some a) := fun i hi => (hT i hi).imp fun a h => h.1
  clear h1 h2 h3 h4
  have hlen : text.length ≤ 16384 := HP.out.len
  have hml := HP.out.mem
  have hpos := HP.out.pos
  have he0 := HP.out.ent0
  have he1 := HP.out.ent1
  go_enter Tryz.func88, Tryz.ntmps88
  go_wp2
  go_loopw [37] (fun i wr => ∃ k : Nat, i = .int .i64 k ∧ k ≤ text.length ∧ Hid (∀ j, j < k → farT text j = false) ∧ Hid (Below (w.alloc (.cells #[.slice A1 text.length c1, .int .i64 ent, .slice A2 ml c2] 31)).heap.size (w.alloc (.cells #[.slice A1 text.length c1, .int .i64 ent, .slice A2 ml c2] 31)) wr)) (fun i _ => text.length - (intOf i).toNat)
  case atStart => exact ⟨0, rfl, by omega, fun j hj => by omega, Below.refl _ _⟩
  case round =>
    obtain ⟨k, rfl, hk, hj, hb⟩ := hrel
    have HBr : Hid (Below w.heap.size w wr) := lb_trans HB0.out hb.out
    by_cases hlt : k < text.length
    · obtain ⟨a, rfl, q⟩ := (hT.keep HBr.out) k hlt
      obtain ⟨hv0, hv1⟩ := hR k hlt
      have C := isatarget_any (nth text k) hv0 hv1 wr
      have HF : Hid (farT text k = (isT (nth text k) && decide ((text.length : Int) ≤ tgV (nth text k)))) := rfl
      generalize nth text k = v at *
      generalize isT v = t at *
      generalize tgV v = z at *
      cases t with
      | false =>
        go_wp2_with (go_at_call 97; refine C.mono ?_; rintro e w1 ⟨rfl, hb1⟩)
        go_roundw
        case rel => exact ⟨k + 1, by go_num, by omega, fun j hj1 => by
          by_cases hjk : j = k
          · subst hjk; rw [HF.out]; rfl
          · exact hj.out j (by omega), lb_trans hb.out hb1⟩
        case measure => simp [intOf]; omega
      | true =>
        by_cases hz : (text.length : Int) ≤ z
        · go_wp2_with (go_at_call 97; refine C.mono ?_; rintro e w1 ⟨rfl, hb1⟩)
          go_ret2
          have e := check_far HP.out hlt hj.out (by rw [HF.out]; simpa using hz)
          rw [e]
          exact ⟨rfl, lb_trans HBr.out hb1⟩
        · go_wp2_with (go_at_call 97; refine C.mono ?_; rintro e w1 ⟨rfl, hb1⟩)
          go_roundw
          case rel => exact ⟨k + 1, by go_num, by omega, fun j hj1 => by
            by_cases hjk : j = k
            · subst hjk; rw [HF.out]; simpa using hz
            · exact hj.out j (by omega), lb_trans hb.out hb1⟩
          case measure => simp [intOf]; omega
    · obtain rfl : k = text.length := by omega
      obtain ⟨a, rfl, q⟩ := (hT.keep HBr.out) (text.length - 1) (by omega)
      have hx := lb_box0 HX.out hb.out
      have x0 : wr.cell? ⟨w.heap.size, 0, none⟩ = some (.slice (some a) text.length c1) := by simp [World.cell?, hx]
      obtain ⟨hv0, hv1⟩ := hR (text.length - 1) (by omega)
      have C := leaves_any (nth text (text.length - 1)) hv0 hv1 wr
      have HE : Hid _ := check_end HP.out hj.out
      have hc : ((text.length - 1 : Nat) : Int) = (text.length : Int) - 1 := by omega
      generalize nth text (text.length - 1) = v at *
      generalize lastOK v = t at *
      cases t with
      | true =>
        go_wp2_with (go_at_call 98; refine C.mono ?_; rintro e w1 ⟨rfl, hb1⟩)
        go_ret2
        rw [HE.out]
        exact ⟨rfl, lb_trans HBr.out hb1⟩
      | false =>
        go_wp2_with (go_at_call 98; refine C.mono ?_; rintro e w1 ⟨rfl, hb1⟩)
        go_ret2
        rw [HE.out]
        exact ⟨by simp; omega, lb_trans HBr.out hb1⟩







end Go.Proofs.YtmlhnnmelopleaaGreatDoor

namespace Go.Proofs.YtmlhnnmelopleaaGreatDoor
open Go.RowKit

/-- The places that are told: none, if the image may not be. -/
def outL (text : List Int) (ml : Nat) (ent : Int) (f : Int → Bool) : List Int := if (checkI text ml ent).1 = 0 then plcT f text.length else []
theorem outL_ok {text : List Int} {ml : Nat} {ent : Int} {f : Int → Bool} (h : (checkI text ml ent).1 = 0) : outL text ml ent f = plcT f text.length := if_pos h
theorem outL_no {text : List Int} {ml : Nat} {ent : Int} {f : Int → Bool} (h : ¬ (checkI text ml ent).1 = 0) : outL text ml ent f = [] := if_neg h
def GatP (E : Int) (ps : List Int) (w : World) (e : Ending) (w' : World) : Prop :=
  ∃ (A : Option Addr) (c : Nat), e = .returned (.tuple #[.slice A ps.length c, .int .i64 E]) ∧ w'.ownsRow w.heap.size 3 1 (.slice A ps.length c) ps.length (iVals .i64 ps) ∧ Below w.heap.size w w'
theorem gat_no {text : List Int} {ml : Nat} {ent : Int} {f : Int → Bool} (h : ¬ (checkI text ml ent).1 = 0) {w w' : World} (hb : Below w.heap.size w w') : GatP (checkI text ml ent).1 (outL text ml ent f) w (.returned (.tuple #[.slice none 0 0, .int .i64 (checkI text ml ent).1])) w' := by
  rw [outL_no h]
  exact ⟨none, 0, rfl, World.ownsRow_nil _ _ _ _, hb⟩
theorem infoI : ∃ i, Tryz.prog.info? 3 = some i ∧ i.zero = some (.int .i64 0) ∧ i.size = 1 ∧ i.bytes = 8 :=
  ⟨(Tryz.prog.info? 3).get (by kernel_rfl), by kernel_rfl, by kernel_rfl, by kernel_rfl, by kernel_rfl⟩
theorem one_oneI {x : Int} : ∀ u ∈ [Value.int .i64 x], u.oneCell' = true := fun u hu => by
  simp only [List.mem_cons, List.not_mem_nil, or_false] at hu
  rw [hu]; rfl
theorem own_sl {w : World} {b n : Nat} {e : TypeId} {sz : Nat} {v : Value} {xs : List Value} (h : w.ownsRow b e sz v n xs) : ∃ A c, v = .slice A n c := own_form h
/-- A row stays where a map is written. -/
theorem row_map {w w1 : World} {base : Nat} {e : TypeId} {sz : Nat} {v : Value} {n : Nat} {xs : List Value} {b : Nat} (h : w.ownsRow base e sz v n xs) (hg : w.grownBy w1 (some b)) (hb : ∀ cs t, w.heap[b]? ≠ some (.cells cs t (0, 0))) : w1.ownsRow base e sz v n xs := by
  refine h.kept hg ?_
  rcases h.2 with ⟨rfl, _⟩ | ⟨g, cap, cur, rfl, _, hg2, _⟩
  · exact .inl rfl
  · refine .inr fun e => ?_
    cases e
    exact hb _ _ hg2




end Go.Proofs.YtmlhnnmelopleaaGreatDoor

namespace Go.Proofs.YtmlhnnmelopleaaGreatDoor
open Go.RowKit

/-- A row of bools, each as a function tells. -/
def BlsAt (w : World) (g n : Nat) (F : Int → Bool) : Prop := ∃ cs : Array Value, w.heap[g]? = some (.cells cs 4 (0, 0)) ∧ cs.size = n ∧ ∀ i : Nat, i < n → cs[i]? = some (.bool (F (i : Int)))
theorem BlsAt.lt {w : World} {g n : Nat} {F : Int → Bool} (h : BlsAt w g n F) : g < w.heap.size := by
  obtain ⟨cs, h1, _⟩ := h
  exact (Array.getElem?_eq_some_iff.1 h1).1
theorem BlsAt.keep {w w1 : World} {g n : Nat} {F : Int → Bool} (h : BlsAt w g n F) (hb : Below w.heap.size w w1) : BlsAt w1 g n F := by
  obtain ⟨cs, h1, h2⟩ := h
  exact ⟨cs, by rw [hb.block g (Array.getElem?_eq_some_iff.1 h1).1]; exact h1, h2⟩
theorem BlsAt.cell {w : World} {g n : Nat} {F : Int → Bool} (h : BlsAt w g n F) {x : Int} (h0 : 0 ≤ x) (h1 : x < n) : w.cell? ⟨g, x.toNat, none⟩ = some (.bool (F x)) := by
  obtain ⟨cs, hb, hs, hc⟩ := h
  have := hc x.toNat (by omega)
  rw [show ((x.toNat : Nat) : Int) = x by omega] at this
  simp [World.cell?, hb, this]
theorem BlsAt.cellN {w : World} {g n : Nat} {F : Int → Bool} (h : BlsAt w g n F) {x : Nat} (h1 : x < n) : w.cell? ⟨g, x, none⟩ = some (.bool (F (x : Int))) := by
  obtain ⟨cs, hb, hs, hc⟩ := h
  simp [World.cell?, hb, hc x h1]
theorem BlsAt.fro {w : World} {g n : Nat} {F : Int → Bool} (h : BlsAt w g n F) (x : Nat) : w.frozen? ⟨g, x, none⟩ = false := by
  obtain ⟨cs, hb, _⟩ := h
  simp [World.frozen?, hb]
theorem BlsAt.set {w : World} {g n : Nat} {F : Int → Bool} (h : BlsAt w g n F) {x : Int} (h0 : 0 ≤ x) (_h1 : x < n) : BlsAt (w.setCell ⟨g, x.toNat, none⟩ (.bool true)) g n (setF F x) := by
  obtain ⟨cs, hb, hs, hc⟩ := h
  refine ⟨cs.setIfInBounds x.toNat (.bool true), box_set hb _ _, by simpa using hs, fun i hi => ?_⟩
  rw [Array.getElem?_setIfInBounds]
  by_cases e : x.toNat = i
  · rw [if_pos e, if_pos (by omega)]
    unfold setF
    rw [show ((i : Int) == x) = true by rw [beq_iff_eq]; omega]
    rfl
  · rw [if_neg e, hc i hi]
    unfold setF
    rw [show ((i : Int) == x) = false by rw [beq_eq_false_iff_ne]; omega]
    rfl
theorem BlsAt.setN {w : World} {g n : Nat} {F : Int → Bool} (h : BlsAt w g n F) {k : Nat} (h1 : k < n) : BlsAt (w.setCell ⟨g, k, none⟩ (.bool true)) g n (setF F (k : Int)) := by
  have := h.set (x := (k : Int)) (by omega) (by omega)
  rwa [show ((k : Int)).toNat = k by omega] at this
theorem BlsAt.fit {w : World} {g n : Nat} {F G : Int → Bool} (h : BlsAt w g n F) (e : ∀ x, F x = G x) : BlsAt w g n G := by
  obtain ⟨cs, hb, hs, hc⟩ := h
  exact ⟨cs, hb, hs, fun i hi => by rw [← e]; exact hc i hi⟩
theorem gset11 (w : World) (g i : Nat) (v : Value) : w.grownBy (w.setCell ⟨g, i, none⟩ v) (some g) :=
  ⟨rfl, rfl, rfl, Nat.le_of_eq (by simp [go_sem]), fun k _ hn => Below.heap_setCell _ _ _ _ (fun e => hn (by rw [e]))⟩
theorem infoL : ∃ i, Tryz.prog.info? 4 = some i ∧ i.zero = some (.bool false) ∧ i.size = 1 ∧ i.bytes = 1 :=
  ⟨(Tryz.prog.info? 4).get (by kernel_rfl), by kernel_rfl, by kernel_rfl, by kernel_rfl, by kernel_rfl⟩
theorem make_bls (n : Nat) (hn : n ≤ 1048576) (w : World) : (Instr.makeSlice 107 (.int .i64 (n : Int)) (.int .i64 (n : Int))).run Tryz.prog w = .ok (.slice (some ⟨w.heap.size, 0, none⟩) n n) (w.alloc (.cells (madeCells #[.bool false] n) 4)) := by
  obtain ⟨i, hi, hz, hs, hb⟩ := infoL
  have h := run_makeSlice (P := Tryz.prog) w 107 4 i _ Tryz.underlying107 hi hz .i64 .i64 (n : Int) (n : Int) (by omega) (by omega) (by rw [hs]; omega) (by rw [hb]; omega) (by omega)
  rw [hs, show ((n : Int)).toNat = n by omega, Nat.mul_one] at h
  exact h
theorem BlsAt.made (w : World) (n : Nat) : BlsAt (w.alloc (.cells (madeCells #[.bool false] n) 4)) w.heap.size n noF :=
  ⟨_, heap_alloc_new _ _, by simp [madeCells], fun i hi => by simp [madeCells, hi, noF, Nat.mod_one]⟩
theorem far_in {text : List Int} {i : Nat} (h : farT text i = false) (ht : isT (nth text i) = true) : tgV (nth text i) < text.length := by
  unfold farT at h
  rw [ht, Bool.true_and, decide_eq_false_iff_not] at h
  omega
theorem sit_in {text : List Int} {ml : Nat} {ent : Int} (h : MayI text ml ent) {i : Nat} (hi : i < text.length) (ho : (dOp (nth text i) == 17) = true ∨ (dOp (nth text i) == 18) = true) : i + 1 < text.length := by
  by_cases e : i + 1 = text.length
  · have hl := h.last
    rw [show text.length - 1 = i by omega] at hl
    unfold lastOK at hl
    rw [decide_eq_true_eq] at hl
    simp at ho
    omega
  · omega
/-- What Marks answers. -/
def MarkP (n : Nat) (F : Int → Bool) (w : World) (e : Ending) (w' : World) : Prop := ∃ g : Nat, e = .returned (.slice (some ⟨g, 0, none⟩) n n) ∧ BlsAt w' g n F ∧ Below w.heap.size w w'
theorem lab_set (text : List Int) (ent : Int) (y : Int) : setF (addK noF (gLab text) text.length) ent y = labF text ent y := by
  show ((y == ent) || (false || anyF (gLab text) text.length y)) = (((y == ent) || false) || anyF (gLab text) text.length y)
  rw [Bool.or_false, Bool.false_or]
theorem grown_belowR {w w1 w2 : World} {B b : Nat} (h : Below B w w1) (hg : w1.grownBy w2 (some b)) (hb : B ≤ b) (hB : B ≤ w1.heap.size) : Below B w w2 := h.grown hg hB (fun j hj => by cases hj; exact hb)
theorem cell_other {w w1 : World} {g : Nat} (hg : w.grownBy w1 (some g)) {p : Addr} {v : Value} (hc : w.cell? p = some v) (hp : p.block ≠ g) : w1.cell? p = some v := hg.cell hc (fun e => hp (by injection e))




end Go.Proofs.YtmlhnnmelopleaaGreatDoor

namespace Go.Proofs.YtmlhnnmelopleaaGreatDoor
open Go.RowKit

/-- The blocks that can be reached. -/
inductive Rch (L : List (List Int)) (e : Int) : Int → Prop
  | base : Rch L e e
  | step {i x : Int} : Rch L e i → 0 ≤ i → x ∈ rowZ L i.toNat → Rch L e x
open Classical in
noncomputable def rchF (L : List (List Int)) (e : Int) (x : Int) : Bool := decide (Rch L e x)
open Classical in
theorem rchF_iff {L : List (List Int)} {e x : Int} : rchF L e x = true ↔ Rch L e x := by
  unfold rchF
  exact decide_eq_true_iff
/-- Only what can be reached is marked, and the first one is. -/
structure Snd (L : List (List Int)) (e : Int) (F : Int → Bool) : Prop where
  here : F e = true
  snd : ∀ x, F x = true → Rch L e x
/-- From what is marked, up to n, nothing leads out. -/
def Cls (L : List (List Int)) (F : Int → Bool) (n : Nat) : Prop := ∀ i : Nat, i < n → F (i : Int) = true → ∀ t, t < (rowZ L i).length → F (nth (rowZ L i) t) = true
theorem rowZ_out {L : List (List Int)} {i : Nat} {x : Int} (h : x ∈ rowZ L i) : i < L.length := by
  unfold rowZ at h
  by_cases hi : i < L.length
  · exact hi
  · rw [List.getD_eq_getElem?_getD, List.getElem?_eq_none (by omega)] at h
    simp at h
theorem rch_in {L : List (List Int)} {e : Int} {F : Int → Bool} (h : Snd L e F) (hc : Cls L F L.length) {x : Int} (hx : Rch L e x) : F x = true := by
  induction hx with
  | base => exact h.here
  | step _ h0 hm ih =>
    have hl := rowZ_out hm
    obtain ⟨t, ht, e⟩ := mem_nth hm
    rw [← e]
    refine hc _ hl ?_ t ht
    rw [show ((Int.toNat _ : Nat) : Int) = _ from Int.toNat_of_nonneg h0]
    exact ih
theorem rch_same {L : List (List Int)} {e : Int} {F : Int → Bool} (h : Snd L e F) (hc : Cls L F L.length) (x : Int) : F x = rchF L e x := by
  rw [Bool.eq_iff_iff, rchF_iff]
  exact ⟨h.snd x, rch_in h hc⟩
theorem snd_zero (L : List (List Int)) (e : Int) : Snd L e (setF noF e) := ⟨by simp [setF], fun x hx => by
  have : x = e := by simpa [setF, noF] using hx
  rw [this]
  exact .base⟩
theorem Snd.more {L : List (List Int)} {e : Int} {F : Int → Bool} (h : Snd L e F) {i t : Nat} (hi : F (i : Int) = true) (ht : t < (rowZ L i).length) : Snd L e (setF F (nth (rowZ L i) t)) := ⟨by simp [setF, h.here], fun x hx => by
  have hx' : x = nth (rowZ L i) t ∨ F x = true := by simpa [setF] using hx
  rcases hx' with rfl | hx'
  · exact .step (h.snd _ hi) (by omega) (by simpa using nth_mem ht)
  · exact h.snd x hx'⟩
/-- How many are not marked. -/
def lowN (F : Int → Bool) : Nat → Nat
  | 0 => 0
  | n + 1 => lowN F n + (if F (n : Int) then 0 else 1)
theorem lowN_le {F G : Int → Bool} {n : Nat} (h : ∀ i : Nat, i < n → F (i : Int) = true → G (i : Int) = true) : lowN G n ≤ lowN F n := by
  induction n with
  | zero => exact Nat.le_refl _
  | succ n ih =>
    have h1 := ih fun i hi => h i (by omega)
    have h2 := h n (by omega)
    unfold lowN
    cases hf : F (n : Int) with
    | true => rw [h2 hf]; simpa using h1
    | false => cases G (n : Int) <;> simp <;> omega
theorem lowN_same {F G : Int → Bool} {n : Nat} (h : ∀ i : Nat, i < n → F (i : Int) = G (i : Int)) : lowN F n = lowN G n :=
  Nat.le_antisymm (lowN_le fun i hi e => by rw [h i hi]; exact e) (lowN_le fun i hi e => by rw [← h i hi]; exact e)
theorem lowN_set {F : Int → Bool} {n : Nat} {x : Int} (h0 : 0 ≤ x) (h1 : x < (n : Int)) (hF : F x = false) : lowN (setF F x) n < lowN F n := by
  induction n with
  | zero => omega
  | succ n ih =>
    unfold lowN
    by_cases e : x = (n : Int)
    · have h2 : lowN (setF F x) n ≤ lowN F n := lowN_le fun i _ h => by simp [setF, h]
      rw [← e, hF, show setF F x x = true by simp [setF]]
      simp
      omega
    · have h2 := ih (by omega)
      have h3 : setF F x (n : Int) = F (n : Int) := by
        unfold setF
        rw [show ((n : Int) == x) = false by rw [beq_eq_false_iff_ne]; omega]
        rfl
      rw [h3]
      omega
/-- What a row of bools holds, read off the world. -/
def cellF (w : World) (g : Nat) (x : Int) : Bool := match w.cell? ⟨g, x.toNat, none⟩ with
  | some (.bool b) => b
  | _ => false
theorem BlsAt.low {w : World} {g n : Nat} {F : Int → Bool} (h : BlsAt w g n F) : lowN (cellF w g) n = lowN F n := lowN_same fun i hi => by
  unfold cellF
  rw [h.cell (x := (i : Int)) (by omega) (by omega)]
def bolOf : Value → Nat
  | .bool true => 1
  | _ => 0
/-- How a round has come on. -/
def Onw (L : List (List Int)) (n : Nat) (F G : Int → Bool) (m : Bool) (k : Nat) : Prop := (m = false → G = F ∧ Cls L F k) ∧ (m = true → lowN G n < lowN F n)
def Onw2 (L : List (List Int)) (n : Nat) (F G : Int → Bool) (m : Bool) (k j : Nat) : Prop := (m = false → G = F ∧ Cls L F k ∧ ∀ t, t < j → F (nth (rowZ L k) t) = true) ∧ (m = true → lowN G n < lowN F n)
theorem Onw.zero (L : List (List Int)) (n : Nat) (F : Int → Bool) : Onw L n F F false 0 := ⟨fun _ => ⟨rfl, fun _i hi => absurd hi (Nat.not_lt_zero _)⟩, fun h => by cases h⟩
theorem Onw.start {L : List (List Int)} {n : Nat} {F G : Int → Bool} {m : Bool} {k : Nat} (h : Onw L n F G m k) : Onw2 L n F G m k 0 := ⟨fun e => ⟨(h.1 e).1, (h.1 e).2, fun _t ht => absurd ht (Nat.not_lt_zero _)⟩, h.2⟩
theorem Onw2.stop {L : List (List Int)} {n : Nat} {F G : Int → Bool} {m : Bool} {k j : Nat} (h : Onw2 L n F G m k j) (hj : (rowZ L k).length ≤ j ∨ G (k : Int) = false) : Onw L n F G m (k + 1) := ⟨fun e => by
  obtain ⟨h1, h2, h3⟩ := h.1 e
  refine ⟨h1, fun i hi hf t ht => ?_⟩
  by_cases e2 : i = k
  · subst e2
    rcases hj with hj | hj
    · exact h3 t (by omega)
    · rw [h1, hf] at hj; cases hj
  · exact h2 i (by omega) hf t ht, h.2⟩
theorem Onw2.met {L : List (List Int)} {n : Nat} {F G : Int → Bool} {m : Bool} {k j : Nat} (h : Onw2 L n F G m k j) (hx : G (nth (rowZ L k) j) = true) : Onw2 L n F G m k (j + 1) := ⟨fun e => by
  obtain ⟨h1, h2, h3⟩ := h.1 e
  refine ⟨h1, h2, fun t ht => ?_⟩
  by_cases e2 : t = j
  · rw [e2, ← h1]; exact hx
  · exact h3 t (by omega), h.2⟩
theorem Onw2.new {L : List (List Int)} {n : Nat} {F G : Int → Bool} {m : Bool} {k j j' : Nat} {x : Int} (h : Onw2 L n F G m k j) (h0 : 0 ≤ x) (h1 : x < (n : Int)) (hx : G x = false) : Onw2 L n F (setF G x) true k j' := by
  have h2 := lowN_set h0 h1 hx
  refine ⟨fun e => (by cases e), fun _ => ?_⟩
  cases m with
  | true => have := h.2 rfl; omega
  | false => have := (h.1 rfl).1; subst this; exact h2
theorem Onw.done {L : List (List Int)} {n : Nat} {F G : Int → Bool} {m : Bool} {k : Nat} (h : Onw L n F G m k) (e : m = false) : Cls L G k := by
  obtain ⟨h1, h2⟩ := h.1 e
  rw [h1]; exact h2
theorem edg_row {text : List Int} {ent : Int} {n k : Nat} (hk : k < n) : rowZ (edgT text ent n) k = plcT (edgR text ent k) (blkL text ent).length := rowZ_map hk
theorem edg_in {text : List Int} {ent : Int} {n k t : Nat} (hk : k < n) (ht : t < (rowZ (edgT text ent n) k).length) : 0 ≤ nth (rowZ (edgT text ent n) k) t ∧ nth (rowZ (edgT text ent n) k) t < ((blkL text ent).length : Int) := by
  have h := nth_mem ht
  rw [edg_row hk] at h ⊢
  exact ⟨(plcT_mem.1 h).1, (plcT_mem.1 h).2.1⟩
theorem beg_ent (text : List Int) (ent : Int) : begF text ent ent = true := by simp [begF, addK, setF]
theorem ent_blk {text : List Int} {ent : Int} (h0 : 0 ≤ ent) (h1 : ent < (text.length : Int)) : ∃ k : Nat, k < (blkL text ent).length ∧ ofB (blkL text ent) ent = (k : Int) := by
  obtain ⟨k, hk, e, _⟩ := blk_begin (f := begF text ent) (n := text.length) (plcT_mem.2 ⟨h0, h1, beg_ent text ent⟩)
  exact ⟨k, hk, e⟩
theorem below_setAt {B : Nat} {w w1 : World} (h : Below B w w1) {g i : Nat} {v : Value} (hg : B ≤ g) (hB : B ≤ w1.heap.size) : Below B w (w1.setCell ⟨g, i, none⟩ v) := grown_belowR h (gset11 _ _ _ _) hg hB




end Go.Proofs.YtmlhnnmelopleaaGreatDoor
