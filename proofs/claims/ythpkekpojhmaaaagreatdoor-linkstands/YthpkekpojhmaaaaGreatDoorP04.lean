/-
  Ends, Falls, Target and Aim of package isa, each by what it returns; a word is of 32 bits. Package object: what is asked of the relocations, and which places are marked; the list is at most 2^20 long, the code at most 2^14, words of 32 bits. Which names were met, as a map reads; no Go in sight. Package object: what is asked of the symbols; the list is at most 2^20 long, its names at most 2^47 bytes. The look at an object's symbols, by the document's answer; the lists are at most 2^20 long. Check of the document's answer: what is wrong with an object first; its lists are at most 2^20 long, its words of 32 bits. Package object: what is asked of the targets; the code is at most 2^14 long, words of 32 bits. Package object: the later questions, each by what it answers; the lists are at most 2^20 long, names at most 2^47 bytes, words of 32 bits. How things stand between two questions; the lists are at most 2^20 long, names at most 2^47 bytes, words of 32 bits. The calls of package object, each by what it returns; the lists are at most 2^20 long, names at most 2^47 bytes, words of 32 bits, DataAt a number of 64 bits. The program writes lists of numbers into an output; what is written is at most 2^20 bytes. The program writes lists of symbols and relocations into an output; what is written is at most 2^20 bytes. The program writes a whole object into an output; what is written is at most 2^20 bytes. The document adds bytes up; they are at most 2^20. What an object that may be is, as plain mathematics: its parts, and that each relocation is found; no Go in sight. An object that may be, with one word more, one relocation less, one symbol twice, as plain mathematics; no Go in sight. An object that may be is of few bytes; no Go in sight.
-/
import Derived.Test.YthpkekpojhmaaaaGreatDoorProg
import Derived.Test.YthpkekpojhmaaaaGreatDoorP03
import Derived.WalkKit
import Derived.WalkSpells
import Derived.WalkLawsBesides
import Derived.RowKit3
import Derived.Below
import Derived.Deep.QuietTactic
import Derived.BigQuiet
import Derived.WalkSmall
import Derived.Deep.DeepCutAuto
import Derived.Test.YthpkekpojhmaaaaGreatDoorP01
import Derived.Maps.OwnSet
import Derived.Maps.Own
import Derived.Deep.RegionHeld3
import Derived.Test.YthpkekpojhmaaaaGreatDoorP02
import Derived.Laws.Rows
namespace Go.Proofs.YthpkekpojhmaaaaGreatDoor
open Go.RowKit

theorem dOp_le {v : Int} (h1 : v < 4294967296) : dOp v ≤ 31 := by
  unfold dOp wOp; split <;> omega
theorem isT_hP (v : Int) : isT v = hP (dOp v) := by
  unfold isT
  cases h : hP (dOp v)
  · simp
  · unfold hP at h
    simp at h
    rw [decide_eq_true (by omega)]; rfl
theorem isatarget_any (v : Int) (h0 : 0 ≤ v) (h1 : v < 4294967296) (w : World) : Calls Tryz.prog 25 #[.int .u32 v] w fun e w' => e = .returned (.tuple #[.int .i64 (tgV v), .bool (isT v)]) ∧ Below w.heap.size w w' := by
  have h := target_of v _ _ _ _ _ _ _ _ _ _ w (isadecode_any v h0 h1) (isahas_any (dOp v) (by have := dOp_le h1; omega))
  rw [← isT_hP] at h
  exact h
theorem aim_no {v p : Int} (hT : isT v = true) (hp : ¬ (0 ≤ p ∧ p < 16384)) : encV (dOp v) (dD v) (dA v) (dB v) p = 0 ∧ encE (dOp v) (dD v) (dA v) (dB v) p = 11 := by
  rw [isT_hP] at hT
  have hN := hP_hN _ hT
  have hr : ¬ (dOp v < 0 ∨ 21 < dOp v) := by unfold hP at hT; simp at hT; omega
  refine encE_no hr ?_
  unfold insOK numOK
  rw [hT, hN, decide_eq_false hp]
  simp





end Go.Proofs.YthpkekpojhmaaaaGreatDoor

namespace Go.Proofs.YthpkekpojhmaaaaGreatDoor
open Go.RowKit

set_option maxRecDepth 100000 in
set_option maxHeartbeats 4000000 in
theorem askrels_any (nm : ByteArray) (dA : Int) (A1 A2 A3 A : Option Addr) (c1 nd c2 ns c3 c4 : Nat) (code : List Int) (zs : List Rel) (g : Nat) (m0 : Nat → Bool) (w0 w : World) (hC : IntsAt w0 A1 .u32 code) (hR : ∀ i, i < code.length → 0 ≤ nth code i ∧ nth code i < 4294967296) (hA : RelsAt w0 A zs) (hb0 : Below w0.heap.size w0 w) (hg0 : w0.heap.size ≤ g) (hz : zs.length ≤ 1048576) (hc : code.length ≤ 16384) (hm : MarksAt w g m0) (hs : Safe code m0) :
    Calls Tryz.prog 161 #[.agg #[.string nm, .slice A1 code.length c1, .int .i64 dA, .slice A2 nd c2, .slice A3 ns c3, .slice A zs.length c4], .pointer (some ⟨g, 0, none⟩)] w fun e w' => e = .returned (.tuple #[.int .i64 (relC zs code ns).1, .int .i64 (relC zs code ns).2]) ∧ But g w w' ∧ ∃ m, MarksAt w' g m ∧ Safe code m := by
  have hgl : g < w.heap.size := World.block_lt_of_cell? w _ (hm.1 0 (by omega))
  have hgn : w.heap.size ≠ g := by omega
  go_enter Tryz.func161, Tryz.ntmps161
  go_wp2
  go_loopw [14, 6] (fun i ah wr => ∃ (k : Nat) (m : Nat → Bool), i = .int .i64 k ∧ k ≤ zs.length ∧ ah = .int .i64 (aheadV zs k) ∧ But g (w.alloc (.cells #[.string nm, .slice A1 code.length c1, .int .i64 dA, .slice A2 nd c2, .slice A3 ns c3, .slice A zs.length c4] 75)) wr ∧ MarksAt wr g m ∧ Hid (Safe code m) ∧ Hid (∀ j, j < k → relE zs code ns j = 0)) (fun i _ _ => zs.length - (intOf i).toNat)
  case atStart => exact ⟨0, m0, rfl, by omega, rfl, But.refl _ _, hm.keep (lb_alloc (Below.refl _ _) _), hs, fun j hj => by omega⟩
  case round =>
    obtain ⟨k, m, rfl, hk, rfl, hB, hM, HS, HT⟩ := hrel
    rename_i wr _
    have f0 : wr.cell? ⟨w.heap.size, 0, none⟩ = some (.string nm) := hB.cell hgn (by simp [go_sem])
    have f1 : wr.cell? ⟨w.heap.size, 1, none⟩ = some (.slice A1 code.length c1) := hB.cell hgn (by simp [go_sem])
    have f2 : wr.cell? ⟨w.heap.size, 2, none⟩ = some (.int .i64 dA) := hB.cell hgn (by simp [go_sem])
    have f3 : wr.cell? ⟨w.heap.size, 3, none⟩ = some (.slice A2 nd c2) := hB.cell hgn (by simp [go_sem])
    have f4 : wr.cell? ⟨w.heap.size, 4, none⟩ = some (.slice A3 ns c3) := hB.cell hgn (by simp [go_sem])
    have f5 : wr.cell? ⟨w.heap.size, 5, none⟩ = some (.slice A zs.length c4) := hB.cell hgn (by simp [go_sem])
    have HB0 : Hid (But g (w.alloc (.cells #[.string nm, .slice A1 code.length c1, .int .i64 dA, .slice A2 nd c2, .slice A3 ns c3, .slice A zs.length c4] 75)) wr) := hB
    have HB : Hid (But g w wr) := (But.of (lb_alloc (Below.refl _ _) _)).trans hB
    have HW : Hid (Below w0.heap.size w0 wr) := HB.out.below hb0 hg0
    clear hB
    by_cases hlt : k < zs.length
    · obtain ⟨a, rfl, c0, c1'⟩ := (hA.keep HW.out) k hlt
      have d1 : wr.cell? ⟨(a.add (k * 2)).block, (a.add (k * 2)).off + 1, none⟩ = some (.int .i64 (rSym zs k)) := c1'
      clear c1'
      have g0 : (wr.alloc (.cells #[.int .i64 (rAt zs k), .int .i64 (rSym zs k)] 83)).cell? ⟨w.heap.size, 0, none⟩ = some (.string nm) := lkeep (lb_alloc (Below.refl _ _) _) f0
      have g1 : (wr.alloc (.cells #[.int .i64 (rAt zs k), .int .i64 (rSym zs k)] 83)).cell? ⟨w.heap.size, 1, none⟩ = some (.slice A1 code.length c1) := lkeep (lb_alloc (Below.refl _ _) _) f1
      have g2 : (wr.alloc (.cells #[.int .i64 (rAt zs k), .int .i64 (rSym zs k)] 83)).cell? ⟨w.heap.size, 2, none⟩ = some (.int .i64 dA) := lkeep (lb_alloc (Below.refl _ _) _) f2
      have g3 : (wr.alloc (.cells #[.int .i64 (rAt zs k), .int .i64 (rSym zs k)] 83)).cell? ⟨w.heap.size, 3, none⟩ = some (.slice A2 nd c2) := lkeep (lb_alloc (Below.refl _ _) _) f3
      have g4 : (wr.alloc (.cells #[.int .i64 (rAt zs k), .int .i64 (rSym zs k)] 83)).cell? ⟨w.heap.size, 4, none⟩ = some (.slice A3 ns c3) := lkeep (lb_alloc (Below.refl _ _) _) f4
      have g5 : (wr.alloc (.cells #[.int .i64 (rAt zs k), .int .i64 (rSym zs k)] 83)).cell? ⟨w.heap.size, 5, none⟩ = some (.slice (some a) zs.length c4) := lkeep (lb_alloc (Below.refl _ _) _) f5
      have HBB : Hid (But g w (wr.alloc (.cells #[.int .i64 (rAt zs k), .int .i64 (rSym zs k)] 83))) := HB.out.on (lb_alloc (Below.refl _ _) _)
      have HBC : Hid (But g (w.alloc (.cells #[.string nm, .slice A1 code.length c1, .int .i64 dA, .slice A2 nd c2, .slice A3 ns c3, .slice (some a) zs.length c4] 75)) (wr.alloc (.cells #[.int .i64 (rAt zs k), .int .i64 (rSym zs k)] 83))) := HB0.out.on (lb_alloc (Below.refl _ _) _)
      have HMM : Hid (MarksAt (wr.alloc (.cells #[.int .i64 (rAt zs k), .int .i64 (rSym zs k)] 83)) g m) := hM.keep (lb_alloc (Below.refl _ _) _)
      clear hM
      by_cases h1 : rAt zs k ≤ aheadV zs k
      · have HE : Hid (relE zs code ns k = 24) := rel_bad HT.out (Or.inl h1)
        go_wp2
        go_ret2
        exact ⟨ret2I (by rw [relC, first_hit hlt HT.out (by rw [HE.out]; omega), HE.out]), HBB.out, m, HMM.out, HS.out⟩
      by_cases h2 : (code.length : Int) ≤ rAt zs k
      · have HE : Hid (relE zs code ns k = 24) := rel_bad HT.out (Or.inr (Or.inl h2))
        go_wp2
        go_ret2
        exact ⟨ret2I (by rw [relC, first_hit hlt HT.out (by rw [HE.out]; omega), HE.out]), HBB.out, m, HMM.out, HS.out⟩
      by_cases h3 : rSym zs k < 0
      · have HE : Hid (relE zs code ns k = 24) := rel_bad HT.out (Or.inr (Or.inr (Or.inl h3)))
        go_wp2
        go_ret2
        exact ⟨ret2I (by rw [relC, first_hit hlt HT.out (by rw [HE.out]; omega), HE.out]), HBB.out, m, HMM.out, HS.out⟩
      by_cases h4 : (ns : Int) ≤ rSym zs k
      · have HE : Hid (relE zs code ns k = 24) := rel_bad HT.out (Or.inr (Or.inr (Or.inr h4)))
        go_wp2
        go_ret2
        exact ⟨ret2I (by rw [relC, first_hit hlt HT.out (by rw [HE.out]; omega), HE.out]), HBB.out, m, HMM.out, HS.out⟩
      obtain ⟨p0, hE1, hE0⟩ := rel_fine HT.out h1 h2 h3 h4
      have hl : (rAt zs k).toNat < code.length := by omega
      obtain ⟨a1, rfl, q0⟩ := (hC.keep HW.out) (rAt zs k).toNat hl
      have q1 : (wr.alloc (.cells #[.int .i64 (rAt zs k), .int .i64 (rSym zs k)] 83)).cell? (a1.add (rAt zs k).toNat) = some (.int .u32 (nth code (rAt zs k).toNat)) := lkeep (lb_alloc (Below.refl _ _) _) q0
      clear q0
      obtain ⟨v0, v1⟩ := hR _ hl
      have CT := isatarget_any (nth code (rAt zs k).toNat) v0 v1
      have HE1 : Hid _ := hE1
      have HE0 : Hid _ := hE0
      clear hE1 hE0
      have HVV : Hid (tgV (nth code (rAt zs k).toNat) = 0 → Safe code (fun j => j == (rAt zs k).toNat || m j)) := fun h => HS.out.set _ h
      generalize nth code (rAt zs k).toNat = v at q1 v0 v1 CT HE1 HE0 HVV
      go_wp2_with fail
      refine (CT _).mono ?_
      rintro e w5 ⟨rfl, hb5⟩
      clear CT q1 c0 d1
      have k0 : w5.cell? ⟨wr.heap.size, 0, none⟩ = some (.int .i64 (rAt zs k)) := lkeep hb5 (by simp [go_sem])
      have k1 : w5.cell? ⟨wr.heap.size, 1, none⟩ = some (.int .i64 (rSym zs k)) := lkeep hb5 (by simp [go_sem])
      have HB5 : Hid (But g w w5) := HBB.out.on hb5
      have HC5 : Hid (But g (w.alloc (.cells #[.string nm, .slice (some a1) code.length c1, .int .i64 dA, .slice A2 nd c2, .slice A3 ns c3, .slice (some a) zs.length c4] 75)) w5) := HBC.out.on hb5
      have HM5 : Hid (MarksAt w5 g m) := HMM.out.keep hb5
      clear hb5 g0 g1 g2 g3 g4 g5 f0 f1 f2 f3 f4 f5
      cases hT : isT v with
      | false =>
        have HE : Hid (relE zs code ns k = 24) := HE1.out (Or.inl hT)
        clear hT
        go_wp2
        go_ret2
        exact ⟨ret2I (by rw [relC, first_hit hlt HT.out (by rw [HE.out]; omega), HE.out]), HB5.out, m, HM5.out, HS.out⟩
      | true =>
      cases hV : (tgV v == 0) with
      | false =>
        have HE : Hid (relE zs code ns k = 24) := HE1.out (Or.inr (by simpa using hV))
        have hV' : (tgV v != 0) = true := by simpa using hV
        clear hT
        go_wp2
        go_ret2
        exact ⟨ret2I (by rw [relC, first_hit hlt HT.out (by rw [HE.out]; omega), HE.out]), HB5.out, m, HM5.out, HS.out⟩
      | true =>
        have HE : Hid (relE zs code ns k = 0) := HE0.out (by rw [hT]; simp; simpa using hV)
        have HV2 : Hid _ := HVV.out (by simpa using hV)
        have hV' : (tgV v != 0) = false := by simpa using hV
        clear hT
        have z0 : w5.cell? ⟨g, (rAt zs k).toNat, none⟩ = some (.bool (m (rAt zs k).toNat)) := HM5.out.1 _ (by omega)
        have z1 : w5.frozen? ⟨g, (rAt zs k).toNat, none⟩ = false := HM5.out.2 _
        have p1 : rAt zs k < 16384 := by omega
        have n1 : g < wr.heap.size := Nat.lt_of_lt_of_le hgl HB.out.2.2.2.1
        have n2 : ¬ g = wr.heap.size := by omega
        have n3 : ¬ wr.heap.size = g := by omega
        go_wp2
        go_region
        all_goals go_wp2
        all_goals go_roundw
        case rel => exact ⟨k + 1, _, by go_num, by omega, by rw [ahead_succ], (HC5.out.drewN 1).set _ _, (HM5.out.drewN 1).set _, HV2.out, fun j hj => by
          by_cases hjk : j = k
          · rw [hjk]; exact HE.out
          · exact HT.out j (by omega)⟩
        case measure => simp [intOf]; omega
    · have HC : Hid (relC zs code ns = (0, 0)) := first_none fun j hj => HT.out j (by omega)
      go_wp2
      go_ret2
      exact ⟨ret2I (by rw [HC.out]), HB.out, m, hM, HS.out⟩





end Go.Proofs.YthpkekpojhmaaaaGreatDoor

namespace Go.Proofs.YthpkekpojhmaaaaGreatDoor
open Go.RowKit

theorem bytes_same {a b : ByteArray} (h : a.data.toList = b.data.toList) : a = b := by
  cases a; cases b; simp at h; congr
/-- The map holds just the names of the first k symbols. -/
def Met (zs : List Sym) (k : Nat) (D : DataW Unit) : Prop := Maps.IsMap D ∧ ∀ s : ByteArray, Maps.has D (.string s.data.toList) = true ↔ ∃ j, j < k ∧ sName zs j = s
theorem met_zero (zs : List Sym) : Met zs 0 (.map []) := ⟨Maps.isMap_empty, fun s => ⟨fun h => by simp [Maps.has] at h, fun ⟨j, h, _⟩ => by omega⟩⟩
theorem met_step {zs : List Sym} {k : Nat} {D d : DataW Unit} (h : Met zs k D) : Met zs (k + 1) (D.put (.string (sName zs k).data.toList) d) := by
  refine ⟨h.1.put _ _, fun s => ?_⟩
  by_cases hs : s = sName zs k
  · subst hs
    exact ⟨fun _ => ⟨k, by omega, rfl⟩, fun _ => Maps.has_put_same h.1 (by simp [WideAt.IsKeyLit]) d⟩
  · rw [Maps.has_put_other (fun e => hs (bytes_same (by injection e)))]
    rw [h.2 s]
    constructor
    · rintro ⟨j, hj, e⟩; exact ⟨j, by omega, e⟩
    · rintro ⟨j, hj, e⟩
      refine ⟨j, ?_, e⟩
      by_cases hjk : j = k
      · subst hjk; exact absurd e.symm hs
      · omega
theorem toList_same {a b : ByteArray} (h : a.toList = b.toList) : a = b := by
  rw [ByteArray.toList_eq, ByteArray.toList_eq] at h; exact bytes_same h
theorem str_self (s : ByteArray) : (s.toList == s.toList) = true := by simp
theorem of_before {zs : List Sym} {s : ByteArray} : ∀ (d k : Nat), d + k ≤ zs.length → (∀ j, k ≤ j → j < d + k → ((sName zs j).toList == s.toList) = false) → ofFrom (zs.drop k) s k = ofFrom (zs.drop (d + k)) s (d + k)
  | 0, k, _, _ => by rw [Nat.zero_add]
  | d + 1, k, hl, h => by
    rw [of_miss (by omega) (h k (by omega) (by omega)), of_before d (k + 1) (by omega) (fun j h1 h2 => h j (by omega) (by omega)), show d + (k + 1) = d + 1 + k by omega]
theorem of_new {zs : List Sym} {k : Nat} (hk : k < zs.length) (h : ∀ j, j < k → ((sName zs j).toList == (sName zs k).toList) = false) : ofS zs (sName zs k) = k := by
  have e := of_before (zs := zs) (s := sName zs k) k 0 (by omega) (fun j _ hj => h j (by omega))
  rw [List.drop_zero, Nat.add_zero] at e
  rw [ofS, e, of_hit hk (str_self _)]
theorem of_old {zs : List Sym} {k j : Nat} (hk : k < zs.length) (hj : j < k) (h : ((sName zs j).toList == (sName zs k).toList) = true) : ¬ ofS zs (sName zs k) = k := by
  intro e
  have key : ∀ (d i : Nat), i + d = j → ∃ m : Nat, m ≤ j ∧ ofFrom (zs.drop i) (sName zs k) i = m := by
    intro d
    induction d with
    | zero => intro i hi; exact ⟨j, Nat.le_refl _, by rw [show i = j by omega, of_hit (by omega) h]⟩
    | succ d ih =>
      intro i hi
      cases c : ((sName zs i).toList == (sName zs k).toList) with
      | true => exact ⟨i, by omega, of_hit (by omega) c⟩
      | false => rw [of_miss (by omega) c]; exact ih (i + 1) (by omega)
  obtain ⟨m, hm, em⟩ := key j 0 (by omega)
  rw [List.drop_zero] at em
  rw [ofS, em] at e
  omega
theorem met_no {zs : List Sym} {k : Nat} {D : DataW Unit} (h : Met zs k D) (hk : k < zs.length) (e : Maps.has D (.string (sName zs k).data.toList) = false) : ofS zs (sName zs k) = k := by
  refine of_new hk fun j hj => ?_
  cases c : ((sName zs j).toList == (sName zs k).toList) with
  | false => rfl
  | true =>
    have : Maps.has D (.string (sName zs k).data.toList) = true := (h.2 _).2 ⟨j, hj, toList_same (by simpa using c)⟩
    rw [e] at this; cases this
theorem met_yes {zs : List Sym} {k : Nat} {D : DataW Unit} (h : Met zs k D) (hk : k < zs.length) (e : Maps.has D (.string (sName zs k).data.toList) = true) : ¬ ofS zs (sName zs k) = k := by
  obtain ⟨j, hj, ej⟩ := (h.2 _).1 e
  exact of_old hk hj (by rw [ej]; exact str_self _)





end Go.Proofs.YthpkekpojhmaaaaGreatDoor

namespace Go.Proofs.YthpkekpojhmaaaaGreatDoor
open Go.RowKit

open Go.Maps Go.WideMaps
theorem law9 : Keyed Tryz.prog 9 := string_keyed Tryz.underlying9
theorem zero3 (w : World) : (zeroValue 3).run Tryz.prog w = .ok (.int .i64 0) w := by kernel_rfl
theorem mkMap (n : Int) (w : World) : (Instr.makeMap 202 (some (.int .i64 n))).run Tryz.prog w = .ok (.map (some w.heap.size)) (w.alloc (.map #[] 0)) := by
  simp [Instr.makeMap, run_underlying Tryz.underlying202, asInt, asIntOf, Result.andThen]
theorem ownsMap_below {w w' : World} {B b n : Nat} {D : DataW Unit} (h : w.ownsMap Tryz.prog 9 (plainElem Tryz.prog 3) b n D) (hb : Below B w w') (hB : b < B) : w'.ownsMap Tryz.prog 9 (plainElem Tryz.prog 3) b n D := by
  obtain ⟨es, clock, h1, h2⟩ := h
  exact ⟨es, clock, by rw [hb.block b hB]; exact h1, h2⟩
set_option maxRecDepth 100000 in
set_option maxHeartbeats 4000000 in
theorem asksyms_any (nm : ByteArray) (dA : Int) (A1 A2 A A4 : Option Addr) (nc c1 nd c2 c3 nr c4 : Nat) (zs : List Sym) (w : World) (hA : SymsAt w A zs) (hz : zs.length ≤ 1048576) (hN : ∀ i, (sName zs i).size ≤ 140737488355328) :
    Calls Tryz.prog 159 #[.agg #[.string nm, .slice A1 nc c1, .int .i64 dA, .slice A2 nd c2, .slice A zs.length c3, .slice A4 nr c4]] w fun e w' => e = .returned (.tuple #[.int .i64 (symC zs nc).1, .int .i64 (symC zs nc).2]) ∧ Below w.heap.size w w' := by
  have hmm := mkMap
  go_enter Tryz.func159, Tryz.ntmps159
  go_wp2
  go_loopw [16] (fun i wr => ∃ (k : Nat) (D : DataW Unit), i = .int .i64 k ∧ k ≤ zs.length ∧ Below (w.alloc (.cells #[.string nm, .slice A1 nc c1, .int .i64 dA, .slice A2 nd c2, .slice A zs.length c3, .slice A4 nr c4] 75)).heap.size (w.alloc (.cells #[.string nm, .slice A1 nc c1, .int .i64 dA, .slice A2 nd c2, .slice A zs.length c3, .slice A4 nr c4] 75)) wr ∧ wr.ownsMap Tryz.prog 9 (plainElem Tryz.prog 3) (w.heap.size + 1) k D ∧ Hid (Met zs k D) ∧ Hid (∀ j, j < k → symE zs nc j = 0)) (fun i _ => zs.length - (intOf i).toNat)
  case atStart => exact ⟨0, _, rfl, by omega, lb_alloc (Below.refl _ _) _, by simpa using World.ownsMap_made (w.alloc (.cells #[.string nm, .slice A1 nc c1, .int .i64 dA, .slice A2 nd c2, .slice A zs.length c3, .slice A4 nr c4] 75)) Tryz.prog 9 (plainElem Tryz.prog 3), met_zero zs, fun j hj => by omega⟩
  case round =>
    obtain ⟨k, D, rfl, hk, hB, hown, HM, HT⟩ := hrel
    rename_i wr _
    have f0 : wr.cell? ⟨w.heap.size, 0, none⟩ = some (.string nm) := lkeep hB (by simp [go_sem])
    have f1 : wr.cell? ⟨w.heap.size, 1, none⟩ = some (.slice A1 nc c1) := lkeep hB (by simp [go_sem])
    have f2 : wr.cell? ⟨w.heap.size, 2, none⟩ = some (.int .i64 dA) := lkeep hB (by simp [go_sem])
    have f3 : wr.cell? ⟨w.heap.size, 3, none⟩ = some (.slice A2 nd c2) := lkeep hB (by simp [go_sem])
    have f4 : wr.cell? ⟨w.heap.size, 4, none⟩ = some (.slice A zs.length c3) := lkeep hB (by simp [go_sem])
    have f5 : wr.cell? ⟨w.heap.size, 5, none⟩ = some (.slice A4 nr c4) := lkeep hB (by simp [go_sem])
    have HB : Hid (Below w.heap.size w wr) := lb_trans (lb_alloc (Below.refl _ _) _) hB
    have HB0 : Hid (Below (w.alloc (.cells #[.string nm, .slice A1 nc c1, .int .i64 dA, .slice A2 nd c2, .slice A zs.length c3, .slice A4 nr c4] 75)).heap.size (w.alloc (.cells #[.string nm, .slice A1 nc c1, .int .i64 dA, .slice A2 nd c2, .slice A zs.length c3, .slice A4 nr c4] 75)) wr) := hB
    clear hB
    by_cases hlt : k < zs.length
    · obtain ⟨a, rfl, c0, c1', c2'⟩ := (hA.keep HB.out) k hlt
      have d1 : wr.cell? ⟨(a.add (k * 3)).block, (a.add (k * 3)).off + 1, none⟩ = some (.int .i8 (sKind zs k)) := c1'
      have d2 : wr.cell? ⟨(a.add (k * 3)).block, (a.add (k * 3)).off + 2, none⟩ = some (.int .i64 (sAt zs k)) := c2'
      clear c1' c2'
      have hkey : keyOf Tryz.prog 9 (.string (sName zs k)) = some (.string (sName zs k).data.toList) := keyOf_string_mk Tryz.underlying9 (by have := hN k; unfold maxLen; omega)
      have g0 : (wr.alloc (.cells #[.string (sName zs k), .int .i8 (sKind zs k), .int .i64 (sAt zs k)] 131)).cell? ⟨w.heap.size, 0, none⟩ = some (.string nm) := lkeep (lb_alloc (Below.refl _ _) _) f0
      have g1 : (wr.alloc (.cells #[.string (sName zs k), .int .i8 (sKind zs k), .int .i64 (sAt zs k)] 131)).cell? ⟨w.heap.size, 1, none⟩ = some (.slice A1 nc c1) := lkeep (lb_alloc (Below.refl _ _) _) f1
      have g2 : (wr.alloc (.cells #[.string (sName zs k), .int .i8 (sKind zs k), .int .i64 (sAt zs k)] 131)).cell? ⟨w.heap.size, 2, none⟩ = some (.int .i64 dA) := lkeep (lb_alloc (Below.refl _ _) _) f2
      have g3 : (wr.alloc (.cells #[.string (sName zs k), .int .i8 (sKind zs k), .int .i64 (sAt zs k)] 131)).cell? ⟨w.heap.size, 3, none⟩ = some (.slice A2 nd c2) := lkeep (lb_alloc (Below.refl _ _) _) f3
      have g4 : (wr.alloc (.cells #[.string (sName zs k), .int .i8 (sKind zs k), .int .i64 (sAt zs k)] 131)).cell? ⟨w.heap.size, 4, none⟩ = some (.slice (some a) zs.length c3) := lkeep (lb_alloc (Below.refl _ _) _) f4
      have g5 : (wr.alloc (.cells #[.string (sName zs k), .int .i8 (sKind zs k), .int .i64 (sAt zs k)] 131)).cell? ⟨w.heap.size, 5, none⟩ = some (.slice A4 nr c4) := lkeep (lb_alloc (Below.refl _ _) _) f5
      have g6 : (wr.alloc (.cells #[.string (sName zs k), .int .i8 (sKind zs k), .int .i64 (sAt zs k)] 131)).cell? ⟨wr.heap.size, 0, none⟩ = some (.string (sName zs k)) := by simp [go_sem]
      have g7 : (wr.alloc (.cells #[.string (sName zs k), .int .i8 (sKind zs k), .int .i64 (sAt zs k)] 131)).cell? ⟨wr.heap.size, 1, none⟩ = some (.int .i8 (sKind zs k)) := by simp [go_sem]
      have g8 : (wr.alloc (.cells #[.string (sName zs k), .int .i8 (sKind zs k), .int .i64 (sAt zs k)] 131)).cell? ⟨wr.heap.size, 2, none⟩ = some (.int .i64 (sAt zs k)) := by simp [go_sem]
      have BS : Below (wr.alloc (.cells #[.string (sName zs k), .int .i8 (sKind zs k), .int .i64 (sAt zs k)] 131)).heap.size (wr.alloc (.cells #[.string (sName zs k), .int .i8 (sKind zs k), .int .i64 (sAt zs k)] 131)) (wr.alloc (.cells #[.string (sName zs k), .int .i8 (sKind zs k), .int .i64 (sAt zs k)] 131)) := Below.refl _ _
      have CN := objname_raw (sName zs k)
      cases h1 : nameOK (sName zs k) with
      | false =>
        rw [h1] at CN
        have HE : Hid (symE zs nc k = 20) := by unfold Hid symE; rw [if_pos h1]
        clear h1
        go_wp2_with (at_lookup; refine wpList_lookup_own_ok_int _ rfl _ _ 202 rfl 9 3 .i64 law9 Tryz.underlying202 Tryz.underlying3 (zero3 _) (w.heap.size + 1) k D rfl (hown.alloc _) _ _ rfl hkey ?_; intro c hat hwc)
        refine (CN _).mono ?_
        rintro e w2 ⟨rfl, rfl⟩
        go_wp2
        go_ret2
        exact ⟨ret2I (by rw [symC, first_hit hlt HT.out (by rw [HE.out]; omega), HE.out]), lb_alloc HB.out _⟩
      | true =>
      rw [h1] at CN
      have HNm : Hid (¬ nameOK (sName zs k) = false) := by rw [Hid, h1]; simp
      clear h1
      cases h2 : Maps.has D (.string (sName zs k).data.toList) with
      | true =>
        have HE : Hid (symE zs nc k = 26) := by unfold Hid symE; rw [if_neg HNm.out, if_pos (met_yes HM.out hlt h2)]
        go_wp2_with (at_lookup; refine wpList_lookup_own_ok_int _ rfl _ _ 202 rfl 9 3 .i64 law9 Tryz.underlying202 Tryz.underlying3 (zero3 _) (w.heap.size + 1) k D rfl (hown.alloc _) _ _ rfl hkey ?_; intro c hat hwc)
        refine (CN _).mono ?_
        rintro e w2 ⟨rfl, rfl⟩
        go_wp2
        go_ret2
        exact ⟨ret2I (by rw [symC, first_hit hlt HT.out (by rw [HE.out]; omega), HE.out]), lb_alloc HB.out _⟩
      | false =>
      have HO : Hid (¬ ¬ ofS zs (sName zs k) = (k : Int)) := by rw [Hid]; exact fun h => h (met_no HM.out hlt h2)
      by_cases h3 : sKind zs k < 0
      · have HE : Hid (symE zs nc k = 23) := by unfold Hid symE; rw [if_neg HNm.out, if_neg HO.out, if_pos (Or.inl h3)]
        go_wp2_with (at_lookup; refine wpList_lookup_own_ok_int _ rfl _ _ 202 rfl 9 3 .i64 law9 Tryz.underlying202 Tryz.underlying3 (zero3 _) (w.heap.size + 1) k D rfl (hown.alloc _) _ _ rfl hkey ?_; intro c hat hwc)
        refine (CN _).mono ?_
        rintro e w2 ⟨rfl, rfl⟩
        go_wp2
        go_ret2
        exact ⟨ret2I (by rw [symC, first_hit hlt HT.out (by rw [HE.out]; omega), HE.out]), lb_alloc HB.out _⟩
      by_cases h4 : 3 < sKind zs k
      · have HE : Hid (symE zs nc k = 23) := by unfold Hid symE; rw [if_neg HNm.out, if_neg HO.out, if_pos (Or.inr h4)]
        go_wp2_with (at_lookup; refine wpList_lookup_own_ok_int _ rfl _ _ 202 rfl 9 3 .i64 law9 Tryz.underlying202 Tryz.underlying3 (zero3 _) (w.heap.size + 1) k D rfl (hown.alloc _) _ _ rfl hkey ?_; intro c hat hwc)
        refine (CN _).mono ?_
        rintro e w2 ⟨rfl, rfl⟩
        go_wp2
        go_ret2
        exact ⟨ret2I (by rw [symC, first_hit hlt HT.out (by rw [HE.out]; omega), HE.out]), lb_alloc HB.out _⟩
      have HK : Hid (¬ (sKind zs k < 0 ∨ 3 < sKind zs k)) := by rw [Hid]; omega
      by_cases h5 : sAt zs k < 0
      · have HE : Hid (symE zs nc k = 22) := by unfold Hid symE; rw [if_neg HNm.out, if_neg HO.out, if_neg HK.out, if_pos (Or.inl h5)]
        go_wp2_with (at_lookup; refine wpList_lookup_own_ok_int _ rfl _ _ 202 rfl 9 3 .i64 law9 Tryz.underlying202 Tryz.underlying3 (zero3 _) (w.heap.size + 1) k D rfl (hown.alloc _) _ _ rfl hkey ?_; intro c hat hwc)
        refine (CN _).mono ?_
        rintro e w2 ⟨rfl, rfl⟩
        go_upto_region 12 with fail
        go_big_quiet (fail)
        go_wp2
        go_ret2
        exact ⟨ret2I (by rw [symC, first_hit hlt HT.out (by rw [HE.out]; omega), HE.out]), below_drewN (lb_alloc HB.out _) _⟩
      have h5d : decide (sAt zs k < 0) = false := decide_eq_false h5
      by_cases h6 : lastP (sKind zs k) nc < sAt zs k
      · have h6d : decide (lastP (sKind zs k) nc < sAt zs k) = true := decide_eq_true h6
        have HE : Hid (symE zs nc k = 22) := by
          have h6' := h6
          unfold lastP at h6'
          unfold Hid symE; rw [if_neg HNm.out, if_neg HO.out, if_neg HK.out, if_pos (by split at h6' <;> omega)]
        go_wp2_with (at_lookup; refine wpList_lookup_own_ok_int _ rfl _ _ 202 rfl 9 3 .i64 law9 Tryz.underlying202 Tryz.underlying3 (zero3 _) (w.heap.size + 1) k D rfl (hown.alloc _) _ _ rfl hkey ?_; intro c hat hwc)
        refine (CN _).mono ?_
        rintro e w2 ⟨rfl, rfl⟩
        clear CN
        go_upto_region 12 with fail
        go_region_held3 (fun W => Below (wr.alloc (.cells #[.string (sName zs k), .int .i8 (sKind zs k), .int .i64 (sAt zs k)] 131)).heap.size (wr.alloc (.cells #[.string (sName zs k), .int .i8 (sKind zs k), .int .i64 (sAt zs k)] 131)) W ∧ W.cell? ⟨w.heap.size, 0, none⟩ = some (.string nm) ∧ W.cell? ⟨w.heap.size, 1, none⟩ = some (.slice A1 nc c1) ∧ W.cell? ⟨w.heap.size, 2, none⟩ = some (.int .i64 dA) ∧ W.cell? ⟨w.heap.size, 3, none⟩ = some (.slice A2 nd c2) ∧ W.cell? ⟨w.heap.size, 4, none⟩ = some (.slice (some a) zs.length c3) ∧ W.cell? ⟨w.heap.size, 5, none⟩ = some (.slice A4 nr c4) ∧ W.cell? ⟨wr.heap.size, 0, none⟩ = some (.string (sName zs k)) ∧ W.cell? ⟨wr.heap.size, 1, none⟩ = some (.int .i8 (sKind zs k)) ∧ W.cell? ⟨wr.heap.size, 2, none⟩ = some (.int .i64 (sAt zs k))) (first | (refine ⟨lb_trans ?_ hb, lkeep hb ?_, lkeep hb ?_, lkeep hb ?_, lkeep hb ?_, lkeep hb ?_, lkeep hb ?_, lkeep hb ?_, lkeep hb ?_, lkeep hb ?_⟩ <;> first | assumption | exact (‹Below _ _ _ ∧ _›).1 | exact Below.drew (by assumption) | (simp [*]; done)) | (refine ⟨?_, ?_, ?_, ?_, ?_, ?_, ?_, ?_, ?_, ?_⟩ <;> first | assumption | exact Below.drew (by assumption) | exact Below.drew (‹Below _ _ _ ∧ _›).1 | (simp [*]; done)))
          (first
            | (go_at_call 179; refine (last_any nm dA (sKind zs k) A1 A2 (some a) A4 nc c1 nd c2 zs.length c3 nr c4 _).mono ?_; rintro e w5 ⟨rfl, hb⟩))
        rename_i hS'
        have HB5 : Hid (Below w.heap.size w _) := lb_trans (lb_alloc HB.out _) hS'.1
        go_wp2
        go_ret2
        exact ⟨ret2I (by rw [symC, first_hit hlt HT.out (by rw [HE.out]; omega), HE.out]), HB5.out⟩
      · have h6d : decide (lastP (sKind zs k) nc < sAt zs k) = false := decide_eq_false h6
        have HE : Hid (symE zs nc k = 0) := by
          have h6' := h6
          unfold lastP at h6'
          unfold Hid symE; rw [if_neg HNm.out, if_neg HO.out, if_neg HK.out, if_neg (by split at h6' <;> omega)]
        go_wp2_with (at_lookup; refine wpList_lookup_own_ok_int _ rfl _ _ 202 rfl 9 3 .i64 law9 Tryz.underlying202 Tryz.underlying3 (zero3 _) (w.heap.size + 1) k D rfl (hown.alloc _) _ _ rfl hkey ?_; intro c hat hwc)
        refine (CN _).mono ?_
        rintro e w2 ⟨rfl, rfl⟩
        clear CN
        go_upto_region 12 with fail
        go_region_held3 (fun W => Below (wr.alloc (.cells #[.string (sName zs k), .int .i8 (sKind zs k), .int .i64 (sAt zs k)] 131)).heap.size (wr.alloc (.cells #[.string (sName zs k), .int .i8 (sKind zs k), .int .i64 (sAt zs k)] 131)) W ∧ W.cell? ⟨w.heap.size, 0, none⟩ = some (.string nm) ∧ W.cell? ⟨w.heap.size, 1, none⟩ = some (.slice A1 nc c1) ∧ W.cell? ⟨w.heap.size, 2, none⟩ = some (.int .i64 dA) ∧ W.cell? ⟨w.heap.size, 3, none⟩ = some (.slice A2 nd c2) ∧ W.cell? ⟨w.heap.size, 4, none⟩ = some (.slice (some a) zs.length c3) ∧ W.cell? ⟨w.heap.size, 5, none⟩ = some (.slice A4 nr c4) ∧ W.cell? ⟨wr.heap.size, 0, none⟩ = some (.string (sName zs k)) ∧ W.cell? ⟨wr.heap.size, 1, none⟩ = some (.int .i8 (sKind zs k)) ∧ W.cell? ⟨wr.heap.size, 2, none⟩ = some (.int .i64 (sAt zs k))) (first | (refine ⟨lb_trans ?_ hb, lkeep hb ?_, lkeep hb ?_, lkeep hb ?_, lkeep hb ?_, lkeep hb ?_, lkeep hb ?_, lkeep hb ?_, lkeep hb ?_, lkeep hb ?_⟩ <;> first | assumption | exact (‹Below _ _ _ ∧ _›).1 | exact Below.drew (by assumption) | (simp [*]; done)) | (refine ⟨?_, ?_, ?_, ?_, ?_, ?_, ?_, ?_, ?_, ?_⟩ <;> first | assumption | exact Below.drew (by assumption) | exact Below.drew (‹Below _ _ _ ∧ _›).1 | (simp [*]; done)))
          (first
            | (go_at_call 179; refine (last_any nm dA (sKind zs k) A1 A2 (some a) A4 nc c1 nd c2 zs.length c3 nr c4 _).mono ?_; rintro e w5 ⟨rfl, hb⟩))
        rename_i hS'
        obtain ⟨sB, s0, s1, s2, s3, s4, s5, t0, t1, t2⟩ := hS'
        have hlt' : w.heap.size + 1 < (wr.alloc (.cells #[.string (sName zs k), .int .i8 (sKind zs k), .int .i64 (sAt zs k)] 131)).heap.size := by
          have := hown.lt; simp; omega
        have hown5 := ownsMap_below (hown.alloc (.cells #[.string (sName zs k), .int .i8 (sKind zs k), .int .i64 (sAt zs k)] 131)) sB hlt'
        have HB5 : Hid (Below (w.alloc (.cells #[.string nm, .slice A1 nc c1, .int .i64 dA, .slice A2 nd c2, .slice (some a) zs.length c3, .slice A4 nr c4] 75)).heap.size (w.alloc (.cells #[.string nm, .slice A1 nc c1, .int .i64 dA, .slice A2 nd c2, .slice (some a) zs.length c3, .slice A4 nr c4] 75)) _) := lb_trans (lb_alloc HB0.out _) sB
        clear sB g0 g1 g2 g3 g4 g5 g6 g7 g8 BS hown
        go_wp2_with (at_mapUpdate; refine wpList_mapUpdate_own _ rfl _ _ _ 202 rfl 9 3 law9 Tryz.underlying202 _ (w.heap.size + 1) k _ rfl hown5 (by unfold maxLen; omega) _ _ _ rfl rfl hkey _ [] (plainElem_int Tryz.underlying3 (WalkArith.wf_i64 (by omega))) ?_; intro w6 hown6 hgrow6)
        go_roundw
        case rel => exact ⟨k + 1, _, by go_num, by omega, HB5.out.grown (by assumption) HB5.out.size (fun j hj => by cases hj; simp), by assumption, met_step HM.out, fun j hj => by
            by_cases hjk : j = k
            · rw [hjk]; exact HE.out
            · exact HT.out j (by omega)⟩
        case measure => simp [intOf]; omega
    · have HC : Hid (symC zs nc = (0, 0)) := first_none fun j hj => HT.out j (by omega)
      go_wp2
      go_ret2
      exact ⟨ret2I (by rw [HC.out]), HB.out⟩





end Go.Proofs.YthpkekpojhmaaaaGreatDoor

namespace Go.Proofs.YthpkekpojhmaaaaGreatDoor
open Go.RowKit

set_option maxRecDepth 100000 in
set_option maxHeartbeats 2000000 in
theorem refsyms_any (nm : ByteArray) (dA : Int) (A1 A2 A A4 : Option Addr) (nc c1 nd c2 c3 nr c4 : Nat) (zs : List Sym) (w : World) (hA : SymsAt w A zs) (hz : zs.length ≤ 1048576) :
    Calls Tryz.prog 172 #[.agg #[.string nm, .slice A1 nc c1, .int .i64 dA, .slice A2 nd c2, .slice A zs.length c3, .slice A4 nr c4]] w fun e w' => e = .returned (.tuple #[.int .i64 (symC zs nc).1, .int .i64 (symC zs nc).2]) ∧ Below w.heap.size w w' := by
  go_enter Tryz.func172, Tryz.ntmps172
  go_wp2
  go_loopw [4] (fun i wr => ∃ k : Nat, i = .int .i64 k ∧ k ≤ zs.length ∧ Below (w.alloc (.cells #[.string nm, .slice A1 nc c1, .int .i64 dA, .slice A2 nd c2, .slice A zs.length c3, .slice A4 nr c4] 75)).heap.size (w.alloc (.cells #[.string nm, .slice A1 nc c1, .int .i64 dA, .slice A2 nd c2, .slice A zs.length c3, .slice A4 nr c4] 75)) wr ∧ Hid (∀ j, j < k → symE zs nc j = 0)) (fun i _ => zs.length - (intOf i).toNat)
  case atStart => exact ⟨0, rfl, by omega, Below.refl _ _, fun j hj => by omega⟩
  case round =>
    obtain ⟨k, rfl, hk, hB, HT⟩ := hrel
    rename_i wr _
    have f0 : wr.cell? ⟨w.heap.size, 0, none⟩ = some (.string nm) := lkeep hB (by simp [go_sem])
    have f1 : wr.cell? ⟨w.heap.size, 1, none⟩ = some (.slice A1 nc c1) := lkeep hB (by simp [go_sem])
    have f2 : wr.cell? ⟨w.heap.size, 2, none⟩ = some (.int .i64 dA) := lkeep hB (by simp [go_sem])
    have f3 : wr.cell? ⟨w.heap.size, 3, none⟩ = some (.slice A2 nd c2) := lkeep hB (by simp [go_sem])
    have f4 : wr.cell? ⟨w.heap.size, 4, none⟩ = some (.slice A zs.length c3) := lkeep hB (by simp [go_sem])
    have f5 : wr.cell? ⟨w.heap.size, 5, none⟩ = some (.slice A4 nr c4) := lkeep hB (by simp [go_sem])
    have HB : Hid (Below w.heap.size w wr) := lb_trans (lb_alloc (Below.refl _ _) _) hB
    have HB0 : Hid (Below (w.alloc (.cells #[.string nm, .slice A1 nc c1, .int .i64 dA, .slice A2 nd c2, .slice A zs.length c3, .slice A4 nr c4] 75)).heap.size (w.alloc (.cells #[.string nm, .slice A1 nc c1, .int .i64 dA, .slice A2 nd c2, .slice A zs.length c3, .slice A4 nr c4] 75)) wr) := hB
    clear hB
    by_cases hlt : k < zs.length
    · obtain ⟨a, rfl, c0, c1', c2'⟩ := (hA.keep HB.out) k hlt
      have d1 : wr.cell? ⟨(a.add (k * 3)).block, (a.add (k * 3)).off + 1, none⟩ = some (.int .i8 (sKind zs k)) := c1'
      have d2 : wr.cell? ⟨(a.add (k * 3)).block, (a.add (k * 3)).off + 2, none⟩ = some (.int .i64 (sAt zs k)) := c2'
      clear c1' c2'
      have CN := refname_any (sName zs k)
      have g0 : (wr.alloc (.cells #[.string (sName zs k), .int .i8 (sKind zs k), .int .i64 (sAt zs k)] 131)).cell? ⟨w.heap.size, 0, none⟩ = some (.string nm) := lkeep (lb_alloc (Below.refl _ _) _) f0
      have g1 : (wr.alloc (.cells #[.string (sName zs k), .int .i8 (sKind zs k), .int .i64 (sAt zs k)] 131)).cell? ⟨w.heap.size, 1, none⟩ = some (.slice A1 nc c1) := lkeep (lb_alloc (Below.refl _ _) _) f1
      have g2 : (wr.alloc (.cells #[.string (sName zs k), .int .i8 (sKind zs k), .int .i64 (sAt zs k)] 131)).cell? ⟨w.heap.size, 2, none⟩ = some (.int .i64 dA) := lkeep (lb_alloc (Below.refl _ _) _) f2
      have g3 : (wr.alloc (.cells #[.string (sName zs k), .int .i8 (sKind zs k), .int .i64 (sAt zs k)] 131)).cell? ⟨w.heap.size, 3, none⟩ = some (.slice A2 nd c2) := lkeep (lb_alloc (Below.refl _ _) _) f3
      have g4 : (wr.alloc (.cells #[.string (sName zs k), .int .i8 (sKind zs k), .int .i64 (sAt zs k)] 131)).cell? ⟨w.heap.size, 4, none⟩ = some (.slice (some a) zs.length c3) := lkeep (lb_alloc (Below.refl _ _) _) f4
      have g5 : (wr.alloc (.cells #[.string (sName zs k), .int .i8 (sKind zs k), .int .i64 (sAt zs k)] 131)).cell? ⟨w.heap.size, 5, none⟩ = some (.slice A4 nr c4) := lkeep (lb_alloc (Below.refl _ _) _) f5
      have HA2 : Hid (SymsAt (wr.alloc (.cells #[.string (sName zs k), .int .i8 (sKind zs k), .int .i64 (sAt zs k)] 131)) (some a) zs) := (hA.keep HB.out).keep (lb_alloc (Below.refl _ _) _)
      cases h1 : nameOK (sName zs k) with
      | false =>
        rw [h1] at CN
        have HE : Hid (symE zs nc k = 20) := by unfold Hid symE; rw [if_pos h1]
        clear h1
        go_wp2_with fail
        refine (CN _).mono ?_
        rintro e w2 ⟨rfl, rfl⟩
        go_wp2
        go_ret2
        exact ⟨ret2I (by rw [symC, first_hit hlt HT.out (by rw [HE.out]; omega), HE.out]), lb_alloc HB.out _⟩
      | true =>
        rw [h1] at CN
        have HN : Hid (¬ nameOK (sName zs k) = false) := by rw [Hid, h1]; simp
        clear h1
        go_wp2_with fail
        refine (CN _).mono ?_
        rintro e w2 ⟨rfl, rfl⟩
        clear CN
        go_wp2_with fail
        refine (refof_any nm dA A1 A2 A4 (some a) nc c1 nd c2 nr c4 c3 zs (sName zs k) _ HA2.out hz).mono ?_
        rintro e w3 ⟨rfl, hb3⟩
        have s0 : w3.cell? ⟨wr.heap.size, 0, none⟩ = some (.string (sName zs k)) := lkeep hb3 (by simp [go_sem])
        have s1 : w3.cell? ⟨wr.heap.size, 1, none⟩ = some (.int .i8 (sKind zs k)) := lkeep hb3 (by simp [go_sem])
        have s2 : w3.cell? ⟨wr.heap.size, 2, none⟩ = some (.int .i64 (sAt zs k)) := lkeep hb3 (by simp [go_sem])
        have b1 := lkeep hb3 g1
        have HB3 : Hid (Below (w.alloc (.cells #[.string nm, .slice A1 nc c1, .int .i64 dA, .slice A2 nd c2, .slice (some a) zs.length c3, .slice A4 nr c4] 75)).heap.size (w.alloc (.cells #[.string nm, .slice A1 nc c1, .int .i64 dA, .slice A2 nd c2, .slice (some a) zs.length c3, .slice A4 nr c4] 75)) w3) := lb_trans (lb_alloc HB0.out _) hb3
        have HW : Hid (Below w.heap.size w w3) := lb_trans (lb_alloc HB.out _) hb3
        clear hb3 g0 g1 g2 g3 g4 g5 f0 f1 f2 f3 f4 f5 c0 d1 d2
        cases h2 : (ofS zs (sName zs k) == (k : Int)) with
        | false =>
          have HE : Hid (symE zs nc k = 26) := by unfold Hid symE; rw [if_neg HN.out, if_pos (by simpa using h2)]
          go_wp2
          go_ret2
          exact ⟨ret2I (by rw [symC, first_hit hlt HT.out (by rw [HE.out]; omega), HE.out]), HW.out⟩
        | true =>
        have HO : Hid (¬ ¬ ofS zs (sName zs k) = (k : Int)) := by rw [Hid]; simpa using h2
        by_cases h3 : sKind zs k < 0
        · have HE : Hid (symE zs nc k = 23) := by unfold Hid symE; rw [if_neg HN.out, if_neg HO.out, if_pos (Or.inl h3)]
          go_wp2
          go_ret2
          exact ⟨ret2I (by rw [symC, first_hit hlt HT.out (by rw [HE.out]; omega), HE.out]), HW.out⟩
        by_cases h4 : 3 < sKind zs k
        · have HE : Hid (symE zs nc k = 23) := by unfold Hid symE; rw [if_neg HN.out, if_neg HO.out, if_pos (Or.inr h4)]
          go_wp2
          go_ret2
          exact ⟨ret2I (by rw [symC, first_hit hlt HT.out (by rw [HE.out]; omega), HE.out]), HW.out⟩
        have HK : Hid (¬ (sKind zs k < 0 ∨ 3 < sKind zs k)) := by rw [Hid]; omega
        by_cases h5 : sAt zs k < 0
        · have HE : Hid (symE zs nc k = 22) := by unfold Hid symE; rw [if_neg HN.out, if_neg HO.out, if_neg HK.out, if_pos (Or.inl h5)]
          go_wp2
          go_ret2
          exact ⟨ret2I (by rw [symC, first_hit hlt HT.out (by rw [HE.out]; omega), HE.out]), HW.out⟩
        by_cases h6 : (nc : Int) < sAt zs k
        · have HE : Hid (symE zs nc k = 22) := by unfold Hid symE; rw [if_neg HN.out, if_neg HO.out, if_neg HK.out, if_pos (Or.inr (Or.inl h6))]
          go_wp2
          go_ret2
          exact ⟨ret2I (by rw [symC, first_hit hlt HT.out (by rw [HE.out]; omega), HE.out]), HW.out⟩
        cases h7 : (sKind zs k == 3) with
        | false =>
          have HE : Hid (symE zs nc k = 0) := by
            have e7 : ¬ sKind zs k = 3 := by simpa using h7
            unfold Hid symE; rw [if_neg HN.out, if_neg HO.out, if_neg HK.out, if_neg (by omega)]
          go_wp2
          go_roundw
          case rel => exact ⟨k + 1, by go_num, by omega, HB3.out, fun j hj => by
            by_cases hjk : j = k
            · rw [hjk]; exact HE.out
            · exact HT.out j (by omega)⟩
          case measure => simp [intOf]; omega
        | true =>
        cases h8 : (sAt zs k == 0) with
        | false =>
          have h8' : (sAt zs k != 0) = true := by simpa using h8
          have HE : Hid (symE zs nc k = 22) := by unfold Hid symE; rw [if_neg HN.out, if_neg HO.out, if_neg HK.out, if_pos (Or.inr (Or.inr ⟨by simpa using h7, by simpa using h8⟩))]
          go_wp2
          go_ret2
          exact ⟨ret2I (by rw [symC, first_hit hlt HT.out (by rw [HE.out]; omega), HE.out]), HW.out⟩
        | true =>
          have h8' : (sAt zs k != 0) = false := by simpa using h8
          have HE : Hid (symE zs nc k = 0) := by
            have e8 : sAt zs k = 0 := by simpa using h8
            unfold Hid symE; rw [if_neg HN.out, if_neg HO.out, if_neg HK.out, if_neg (by omega)]
          go_wp2
          go_roundw
          case rel => exact ⟨k + 1, by go_num, by omega, HB3.out, fun j hj => by
            by_cases hjk : j = k
            · rw [hjk]; exact HE.out
            · exact HT.out j (by omega)⟩
          case measure => simp [intOf]; omega
    · have HC : Hid (symC zs nc = (0, 0)) := first_none fun j hj => HT.out j (by omega)
      go_wp2
      go_ret2
      exact ⟨ret2I (by rw [HC.out]), HB.out⟩







end Go.Proofs.YthpkekpojhmaaaaGreatDoor

namespace Go.Proofs.YthpkekpojhmaaaaGreatDoor
open Go.RowKit

theorem cod_hit {code : List Int} {k : Nat} (hk : k < code.length) (h : ∀ j, j < k → codE code j = 0) (e : codE code k = 22) : codC code = (22, -1 - (k : Int)) := by
  unfold codC
  rw [first_hit hk h (by rw [e]; omega), e, if_neg (by simp)]
theorem cod_none {code : List Int} (h : ∀ j, j < code.length → codE code j = 0) : codC code = (0, 0) := by
  unfold codC
  rw [first_none h]; rfl
set_option maxRecDepth 100000 in
set_option maxHeartbeats 2000000 in
theorem check1 (nm : ByteArray) (dA : Int) (A1 A2 A3 A4 : Option Addr) (c1 nd c2 c3 c4 : Nat) (code : List Int) (ss : List Sym) (rs : List Rel) (S Y R : Int × Int) (w : World)
    (C1 : ∀ wx : World, Calls Tryz.prog 171 #[.agg #[.string nm, .slice A1 code.length c1, .int .i64 dA, .slice A2 nd c2, .slice A3 ss.length c3, .slice A4 rs.length c4]] wx fun e w' => e = .returned (.tuple #[.int .i64 S.1, .int .i64 S.2]) ∧ Below wx.heap.size wx w')
    (_C2 : ∀ wx : World, Below w.heap.size w wx → Calls Tryz.prog 172 #[.agg #[.string nm, .slice A1 code.length c1, .int .i64 dA, .slice A2 nd c2, .slice A3 ss.length c3, .slice A4 rs.length c4]] wx fun e w' => e = .returned (.tuple #[.int .i64 Y.1, .int .i64 Y.2]) ∧ Below wx.heap.size wx w')
    (_C3 : ∀ wx : World, Below w.heap.size w wx → Calls Tryz.prog 173 #[.agg #[.string nm, .slice A1 code.length c1, .int .i64 dA, .slice A2 nd c2, .slice A3 ss.length c3, .slice A4 rs.length c4]] wx fun e w' => e = .returned (.tuple #[.int .i64 R.1, .int .i64 R.2]) ∧ Below wx.heap.size wx w') (e1 : (S.1 == 0) = false) : Calls Tryz.prog 143 #[.agg #[.string nm, .slice A1 code.length c1, .int .i64 dA, .slice A2 nd c2, .slice A3 ss.length c3, .slice A4 rs.length c4]] w fun e w' => e = .returned (.tuple #[.int .i64 S.1, .int .i64 S.2]) ∧ Below w.heap.size w w' := by
  go_enter Tryz.func143, Tryz.ntmps143
  go_wp2_with fail
  refine (C1 _).mono ?_
  rintro e w1 ⟨rfl, hb1⟩
  have HX1 : Hid (Below (w.alloc (.cells #[.string nm, .slice A1 code.length c1, .int .i64 dA, .slice A2 nd c2, .slice A3 ss.length c3, .slice A4 rs.length c4] 75)).heap.size (w.alloc (.cells #[.string nm, .slice A1 code.length c1, .int .i64 dA, .slice A2 nd c2, .slice A3 ss.length c3, .slice A4 rs.length c4] 75)) w1) := hb1
  have HB1 : Hid (Below w.heap.size w w1) := lb_trans (lb_alloc (Below.refl _ _) _) HX1.out
  have f10 : w1.cell? ⟨w.heap.size, 0, none⟩ = some (.string nm) := lkeep HX1.out (by simp [go_sem])
  have f11 : w1.cell? ⟨w.heap.size, 1, none⟩ = some (.slice A1 code.length c1) := lkeep HX1.out (by simp [go_sem])
  have f12 : w1.cell? ⟨w.heap.size, 2, none⟩ = some (.int .i64 dA) := lkeep HX1.out (by simp [go_sem])
  have f13 : w1.cell? ⟨w.heap.size, 3, none⟩ = some (.slice A2 nd c2) := lkeep HX1.out (by simp [go_sem])
  have f14 : w1.cell? ⟨w.heap.size, 4, none⟩ = some (.slice A3 ss.length c3) := lkeep HX1.out (by simp [go_sem])
  have f15 : w1.cell? ⟨w.heap.size, 5, none⟩ = some (.slice A4 rs.length c4) := lkeep HX1.out (by simp [go_sem])
  clear hb1
  go_wp2
  go_ret2
  exact ⟨rfl, HB1.out⟩
set_option maxRecDepth 100000 in
set_option maxHeartbeats 2000000 in
theorem check2 (nm : ByteArray) (dA : Int) (A1 A2 A3 A4 : Option Addr) (c1 nd c2 c3 c4 : Nat) (code : List Int) (ss : List Sym) (rs : List Rel) (S Y R : Int × Int) (w : World)
    (C1 : ∀ wx : World, Calls Tryz.prog 171 #[.agg #[.string nm, .slice A1 code.length c1, .int .i64 dA, .slice A2 nd c2, .slice A3 ss.length c3, .slice A4 rs.length c4]] wx fun e w' => e = .returned (.tuple #[.int .i64 0, .int .i64 S.2]) ∧ Below wx.heap.size wx w')
    (C2 : ∀ wx : World, Below w.heap.size w wx → Calls Tryz.prog 172 #[.agg #[.string nm, .slice A1 code.length c1, .int .i64 dA, .slice A2 nd c2, .slice A3 ss.length c3, .slice A4 rs.length c4]] wx fun e w' => e = .returned (.tuple #[.int .i64 Y.1, .int .i64 Y.2]) ∧ Below wx.heap.size wx w')
    (_C3 : ∀ wx : World, Below w.heap.size w wx → Calls Tryz.prog 173 #[.agg #[.string nm, .slice A1 code.length c1, .int .i64 dA, .slice A2 nd c2, .slice A3 ss.length c3, .slice A4 rs.length c4]] wx fun e w' => e = .returned (.tuple #[.int .i64 R.1, .int .i64 R.2]) ∧ Below wx.heap.size wx w') (e2 : (Y.1 == 0) = false) : Calls Tryz.prog 143 #[.agg #[.string nm, .slice A1 code.length c1, .int .i64 dA, .slice A2 nd c2, .slice A3 ss.length c3, .slice A4 rs.length c4]] w fun e w' => e = .returned (.tuple #[.int .i64 Y.1, .int .i64 Y.2]) ∧ Below w.heap.size w w' := by
  go_enter Tryz.func143, Tryz.ntmps143
  go_wp2_with fail
  refine (C1 _).mono ?_
  rintro e w1 ⟨rfl, hb1⟩
  have HX1 : Hid (Below (w.alloc (.cells #[.string nm, .slice A1 code.length c1, .int .i64 dA, .slice A2 nd c2, .slice A3 ss.length c3, .slice A4 rs.length c4] 75)).heap.size (w.alloc (.cells #[.string nm, .slice A1 code.length c1, .int .i64 dA, .slice A2 nd c2, .slice A3 ss.length c3, .slice A4 rs.length c4] 75)) w1) := hb1
  have HB1 : Hid (Below w.heap.size w w1) := lb_trans (lb_alloc (Below.refl _ _) _) HX1.out
  have f10 : w1.cell? ⟨w.heap.size, 0, none⟩ = some (.string nm) := lkeep HX1.out (by simp [go_sem])
  have f11 : w1.cell? ⟨w.heap.size, 1, none⟩ = some (.slice A1 code.length c1) := lkeep HX1.out (by simp [go_sem])
  have f12 : w1.cell? ⟨w.heap.size, 2, none⟩ = some (.int .i64 dA) := lkeep HX1.out (by simp [go_sem])
  have f13 : w1.cell? ⟨w.heap.size, 3, none⟩ = some (.slice A2 nd c2) := lkeep HX1.out (by simp [go_sem])
  have f14 : w1.cell? ⟨w.heap.size, 4, none⟩ = some (.slice A3 ss.length c3) := lkeep HX1.out (by simp [go_sem])
  have f15 : w1.cell? ⟨w.heap.size, 5, none⟩ = some (.slice A4 rs.length c4) := lkeep HX1.out (by simp [go_sem])
  clear hb1
  go_wp2_with fail
  refine (C2 _ HB1.out).mono ?_
  rintro e w2 ⟨rfl, hb2⟩
  have HX2 : Hid (Below (w.alloc (.cells #[.string nm, .slice A1 code.length c1, .int .i64 dA, .slice A2 nd c2, .slice A3 ss.length c3, .slice A4 rs.length c4] 75)).heap.size (w.alloc (.cells #[.string nm, .slice A1 code.length c1, .int .i64 dA, .slice A2 nd c2, .slice A3 ss.length c3, .slice A4 rs.length c4] 75)) w2) := lb_trans HX1.out hb2
  have HB2 : Hid (Below w.heap.size w w2) := lb_trans (lb_alloc (Below.refl _ _) _) HX2.out
  have f20 : w2.cell? ⟨w.heap.size, 0, none⟩ = some (.string nm) := lkeep HX2.out (by simp [go_sem])
  have f21 : w2.cell? ⟨w.heap.size, 1, none⟩ = some (.slice A1 code.length c1) := lkeep HX2.out (by simp [go_sem])
  have f22 : w2.cell? ⟨w.heap.size, 2, none⟩ = some (.int .i64 dA) := lkeep HX2.out (by simp [go_sem])
  have f23 : w2.cell? ⟨w.heap.size, 3, none⟩ = some (.slice A2 nd c2) := lkeep HX2.out (by simp [go_sem])
  have f24 : w2.cell? ⟨w.heap.size, 4, none⟩ = some (.slice A3 ss.length c3) := lkeep HX2.out (by simp [go_sem])
  have f25 : w2.cell? ⟨w.heap.size, 5, none⟩ = some (.slice A4 rs.length c4) := lkeep HX2.out (by simp [go_sem])
  clear hb2 f10 f11 f12 f13 f14 f15
  go_wp2
  go_ret2
  exact ⟨rfl, HB2.out⟩
set_option maxRecDepth 100000 in
set_option maxHeartbeats 2000000 in
theorem check3 (nm : ByteArray) (dA : Int) (A1 A2 A3 A4 : Option Addr) (c1 nd c2 c3 c4 : Nat) (code : List Int) (ss : List Sym) (rs : List Rel) (S Y R : Int × Int) (w : World)
    (C1 : ∀ wx : World, Calls Tryz.prog 171 #[.agg #[.string nm, .slice A1 code.length c1, .int .i64 dA, .slice A2 nd c2, .slice A3 ss.length c3, .slice A4 rs.length c4]] wx fun e w' => e = .returned (.tuple #[.int .i64 0, .int .i64 S.2]) ∧ Below wx.heap.size wx w')
    (C2 : ∀ wx : World, Below w.heap.size w wx → Calls Tryz.prog 172 #[.agg #[.string nm, .slice A1 code.length c1, .int .i64 dA, .slice A2 nd c2, .slice A3 ss.length c3, .slice A4 rs.length c4]] wx fun e w' => e = .returned (.tuple #[.int .i64 0, .int .i64 Y.2]) ∧ Below wx.heap.size wx w')
    (C3 : ∀ wx : World, Below w.heap.size w wx → Calls Tryz.prog 173 #[.agg #[.string nm, .slice A1 code.length c1, .int .i64 dA, .slice A2 nd c2, .slice A3 ss.length c3, .slice A4 rs.length c4]] wx fun e w' => e = .returned (.tuple #[.int .i64 R.1, .int .i64 R.2]) ∧ Below wx.heap.size wx w') (e3 : (R.1 == 0) = false) : Calls Tryz.prog 143 #[.agg #[.string nm, .slice A1 code.length c1, .int .i64 dA, .slice A2 nd c2, .slice A3 ss.length c3, .slice A4 rs.length c4]] w fun e w' => e = .returned (.tuple #[.int .i64 R.1, .int .i64 R.2]) ∧ Below w.heap.size w w' := by
  go_enter Tryz.func143, Tryz.ntmps143
  go_wp2_with fail
  refine (C1 _).mono ?_
  rintro e w1 ⟨rfl, hb1⟩
  have HX1 : Hid (Below (w.alloc (.cells #[.string nm, .slice A1 code.length c1, .int .i64 dA, .slice A2 nd c2, .slice A3 ss.length c3, .slice A4 rs.length c4] 75)).heap.size (w.alloc (.cells #[.string nm, .slice A1 code.length c1, .int .i64 dA, .slice A2 nd c2, .slice A3 ss.length c3, .slice A4 rs.length c4] 75)) w1) := hb1
  have HB1 : Hid (Below w.heap.size w w1) := lb_trans (lb_alloc (Below.refl _ _) _) HX1.out
  have f10 : w1.cell? ⟨w.heap.size, 0, none⟩ = some (.string nm) := lkeep HX1.out (by simp [go_sem])
  have f11 : w1.cell? ⟨w.heap.size, 1, none⟩ = some (.slice A1 code.length c1) := lkeep HX1.out (by simp [go_sem])
  have f12 : w1.cell? ⟨w.heap.size, 2, none⟩ = some (.int .i64 dA) := lkeep HX1.out (by simp [go_sem])
  have f13 : w1.cell? ⟨w.heap.size, 3, none⟩ = some (.slice A2 nd c2) := lkeep HX1.out (by simp [go_sem])
  have f14 : w1.cell? ⟨w.heap.size, 4, none⟩ = some (.slice A3 ss.length c3) := lkeep HX1.out (by simp [go_sem])
  have f15 : w1.cell? ⟨w.heap.size, 5, none⟩ = some (.slice A4 rs.length c4) := lkeep HX1.out (by simp [go_sem])
  clear hb1
  go_wp2_with fail
  refine (C2 _ HB1.out).mono ?_
  rintro e w2 ⟨rfl, hb2⟩
  have HX2 : Hid (Below (w.alloc (.cells #[.string nm, .slice A1 code.length c1, .int .i64 dA, .slice A2 nd c2, .slice A3 ss.length c3, .slice A4 rs.length c4] 75)).heap.size (w.alloc (.cells #[.string nm, .slice A1 code.length c1, .int .i64 dA, .slice A2 nd c2, .slice A3 ss.length c3, .slice A4 rs.length c4] 75)) w2) := lb_trans HX1.out hb2
  have HB2 : Hid (Below w.heap.size w w2) := lb_trans (lb_alloc (Below.refl _ _) _) HX2.out
  have f20 : w2.cell? ⟨w.heap.size, 0, none⟩ = some (.string nm) := lkeep HX2.out (by simp [go_sem])
  have f21 : w2.cell? ⟨w.heap.size, 1, none⟩ = some (.slice A1 code.length c1) := lkeep HX2.out (by simp [go_sem])
  have f22 : w2.cell? ⟨w.heap.size, 2, none⟩ = some (.int .i64 dA) := lkeep HX2.out (by simp [go_sem])
  have f23 : w2.cell? ⟨w.heap.size, 3, none⟩ = some (.slice A2 nd c2) := lkeep HX2.out (by simp [go_sem])
  have f24 : w2.cell? ⟨w.heap.size, 4, none⟩ = some (.slice A3 ss.length c3) := lkeep HX2.out (by simp [go_sem])
  have f25 : w2.cell? ⟨w.heap.size, 5, none⟩ = some (.slice A4 rs.length c4) := lkeep HX2.out (by simp [go_sem])
  clear hb2 f10 f11 f12 f13 f14 f15
  go_wp2_with fail
  refine (C3 _ HB2.out).mono ?_
  rintro e w3 ⟨rfl, hb3⟩
  have HX3 : Hid (Below (w.alloc (.cells #[.string nm, .slice A1 code.length c1, .int .i64 dA, .slice A2 nd c2, .slice A3 ss.length c3, .slice A4 rs.length c4] 75)).heap.size (w.alloc (.cells #[.string nm, .slice A1 code.length c1, .int .i64 dA, .slice A2 nd c2, .slice A3 ss.length c3, .slice A4 rs.length c4] 75)) w3) := lb_trans HX2.out hb3
  have HB3 : Hid (Below w.heap.size w w3) := lb_trans (lb_alloc (Below.refl _ _) _) HX3.out
  have f30 : w3.cell? ⟨w.heap.size, 0, none⟩ = some (.string nm) := lkeep HX3.out (by simp [go_sem])
  have f31 : w3.cell? ⟨w.heap.size, 1, none⟩ = some (.slice A1 code.length c1) := lkeep HX3.out (by simp [go_sem])
  have f32 : w3.cell? ⟨w.heap.size, 2, none⟩ = some (.int .i64 dA) := lkeep HX3.out (by simp [go_sem])
  have f33 : w3.cell? ⟨w.heap.size, 3, none⟩ = some (.slice A2 nd c2) := lkeep HX3.out (by simp [go_sem])
  have f34 : w3.cell? ⟨w.heap.size, 4, none⟩ = some (.slice A3 ss.length c3) := lkeep HX3.out (by simp [go_sem])
  have f35 : w3.cell? ⟨w.heap.size, 5, none⟩ = some (.slice A4 rs.length c4) := lkeep HX3.out (by simp [go_sem])
  clear hb3 f20 f21 f22 f23 f24 f25
  go_wp2
  go_ret2
  exact ⟨rfl, HB3.out⟩
set_option maxRecDepth 100000 in
set_option maxHeartbeats 2000000 in
theorem check4 (nm : ByteArray) (dA : Int) (A1 A2 A3 A4 : Option Addr) (c1 nd c2 c3 c4 : Nat) (code : List Int) (ss : List Sym) (rs : List Rel) (S Y R : Int × Int) (w : World)
    (C1 : ∀ wx : World, Calls Tryz.prog 171 #[.agg #[.string nm, .slice A1 code.length c1, .int .i64 dA, .slice A2 nd c2, .slice A3 ss.length c3, .slice A4 rs.length c4]] wx fun e w' => e = .returned (.tuple #[.int .i64 0, .int .i64 S.2]) ∧ Below wx.heap.size wx w')
    (C2 : ∀ wx : World, Below w.heap.size w wx → Calls Tryz.prog 172 #[.agg #[.string nm, .slice A1 code.length c1, .int .i64 dA, .slice A2 nd c2, .slice A3 ss.length c3, .slice A4 rs.length c4]] wx fun e w' => e = .returned (.tuple #[.int .i64 0, .int .i64 Y.2]) ∧ Below wx.heap.size wx w')
    (C3 : ∀ wx : World, Below w.heap.size w wx → Calls Tryz.prog 173 #[.agg #[.string nm, .slice A1 code.length c1, .int .i64 dA, .slice A2 nd c2, .slice A3 ss.length c3, .slice A4 rs.length c4]] wx fun e w' => e = .returned (.tuple #[.int .i64 0, .int .i64 R.2]) ∧ Below wx.heap.size wx w') (hC : IntsAt w A1 .u32 code) (hR : ∀ i, i < code.length → 0 ≤ nth code i ∧ nth code i < 4294967296) (hc : code.length ≤ 1048576) : Calls Tryz.prog 143 #[.agg #[.string nm, .slice A1 code.length c1, .int .i64 dA, .slice A2 nd c2, .slice A3 ss.length c3, .slice A4 rs.length c4]] w fun e w' => e = .returned (.tuple #[.int .i64 (codC code).1, .int .i64 (codC code).2]) ∧ Below w.heap.size w w' := by
  go_enter Tryz.func143, Tryz.ntmps143
  go_wp2_with fail
  refine (C1 _).mono ?_
  rintro e w1 ⟨rfl, hb1⟩
  have HX1 : Hid (Below (w.alloc (.cells #[.string nm, .slice A1 code.length c1, .int .i64 dA, .slice A2 nd c2, .slice A3 ss.length c3, .slice A4 rs.length c4] 75)).heap.size (w.alloc (.cells #[.string nm, .slice A1 code.length c1, .int .i64 dA, .slice A2 nd c2, .slice A3 ss.length c3, .slice A4 rs.length c4] 75)) w1) := hb1
  have HB1 : Hid (Below w.heap.size w w1) := lb_trans (lb_alloc (Below.refl _ _) _) HX1.out
  have f10 : w1.cell? ⟨w.heap.size, 0, none⟩ = some (.string nm) := lkeep HX1.out (by simp [go_sem])
  have f11 : w1.cell? ⟨w.heap.size, 1, none⟩ = some (.slice A1 code.length c1) := lkeep HX1.out (by simp [go_sem])
  have f12 : w1.cell? ⟨w.heap.size, 2, none⟩ = some (.int .i64 dA) := lkeep HX1.out (by simp [go_sem])
  have f13 : w1.cell? ⟨w.heap.size, 3, none⟩ = some (.slice A2 nd c2) := lkeep HX1.out (by simp [go_sem])
  have f14 : w1.cell? ⟨w.heap.size, 4, none⟩ = some (.slice A3 ss.length c3) := lkeep HX1.out (by simp [go_sem])
  have f15 : w1.cell? ⟨w.heap.size, 5, none⟩ = some (.slice A4 rs.length c4) := lkeep HX1.out (by simp [go_sem])
  clear hb1
  go_wp2_with fail
  refine (C2 _ HB1.out).mono ?_
  rintro e w2 ⟨rfl, hb2⟩
  have HX2 : Hid (Below (w.alloc (.cells #[.string nm, .slice A1 code.length c1, .int .i64 dA, .slice A2 nd c2, .slice A3 ss.length c3, .slice A4 rs.length c4] 75)).heap.size (w.alloc (.cells #[.string nm, .slice A1 code.length c1, .int .i64 dA, .slice A2 nd c2, .slice A3 ss.length c3, .slice A4 rs.length c4] 75)) w2) := lb_trans HX1.out hb2
  have HB2 : Hid (Below w.heap.size w w2) := lb_trans (lb_alloc (Below.refl _ _) _) HX2.out
  have f20 : w2.cell? ⟨w.heap.size, 0, none⟩ = some (.string nm) := lkeep HX2.out (by simp [go_sem])
  have f21 : w2.cell? ⟨w.heap.size, 1, none⟩ = some (.slice A1 code.length c1) := lkeep HX2.out (by simp [go_sem])
  have f22 : w2.cell? ⟨w.heap.size, 2, none⟩ = some (.int .i64 dA) := lkeep HX2.out (by simp [go_sem])
  have f23 : w2.cell? ⟨w.heap.size, 3, none⟩ = some (.slice A2 nd c2) := lkeep HX2.out (by simp [go_sem])
  have f24 : w2.cell? ⟨w.heap.size, 4, none⟩ = some (.slice A3 ss.length c3) := lkeep HX2.out (by simp [go_sem])
  have f25 : w2.cell? ⟨w.heap.size, 5, none⟩ = some (.slice A4 rs.length c4) := lkeep HX2.out (by simp [go_sem])
  clear hb2 f10 f11 f12 f13 f14 f15
  go_wp2_with fail
  refine (C3 _ HB2.out).mono ?_
  rintro e w3 ⟨rfl, hb3⟩
  have HX3 : Hid (Below (w.alloc (.cells #[.string nm, .slice A1 code.length c1, .int .i64 dA, .slice A2 nd c2, .slice A3 ss.length c3, .slice A4 rs.length c4] 75)).heap.size (w.alloc (.cells #[.string nm, .slice A1 code.length c1, .int .i64 dA, .slice A2 nd c2, .slice A3 ss.length c3, .slice A4 rs.length c4] 75)) w3) := lb_trans HX2.out hb3
  have HB3 : Hid (Below w.heap.size w w3) := lb_trans (lb_alloc (Below.refl _ _) _) HX3.out
  have f30 : w3.cell? ⟨w.heap.size, 0, none⟩ = some (.string nm) := lkeep HX3.out (by simp [go_sem])
  have f31 : w3.cell? ⟨w.heap.size, 1, none⟩ = some (.slice A1 code.length c1) := lkeep HX3.out (by simp [go_sem])
  have f32 : w3.cell? ⟨w.heap.size, 2, none⟩ = some (.int .i64 dA) := lkeep HX3.out (by simp [go_sem])
  have f33 : w3.cell? ⟨w.heap.size, 3, none⟩ = some (.slice A2 nd c2) := lkeep HX3.out (by simp [go_sem])
  have f34 : w3.cell? ⟨w.heap.size, 4, none⟩ = some (.slice A3 ss.length c3) := lkeep HX3.out (by simp [go_sem])
  have f35 : w3.cell? ⟨w.heap.size, 5, none⟩ = some (.slice A4 rs.length c4) := lkeep HX3.out (by simp [go_sem])
  clear hb3 f20 f21 f22 f23 f24 f25
  clear C1 C2 C3 f30 f31 f32 f33 f34 f35
  go_wp2
  go_loopw [6] (fun i wr => ∃ k : Nat, i = .int .i64 k ∧ k ≤ code.length ∧ Below (w.alloc (.cells #[.string nm, .slice A1 code.length c1, .int .i64 dA, .slice A2 nd c2, .slice A3 ss.length c3, .slice A4 rs.length c4] 75)).heap.size (w.alloc (.cells #[.string nm, .slice A1 code.length c1, .int .i64 dA, .slice A2 nd c2, .slice A3 ss.length c3, .slice A4 rs.length c4] 75)) wr ∧ Hid (∀ j, j < k → codE code j = 0)) (fun i _ => code.length - (intOf i).toNat)
  case atStart => exact ⟨0, rfl, by omega, HX3.out, fun j hj => by omega⟩
  case round =>
    obtain ⟨k, rfl, hk, hB, HT⟩ := hrel
    rename_i wr _
    have f1 : wr.cell? ⟨w.heap.size, 1, none⟩ = some (.slice A1 code.length c1) := lkeep hB (by simp [go_sem])
    have HB : Hid (Below w.heap.size w wr) := lb_trans (lb_alloc (Below.refl _ _) _) hB
    have HB0 : Hid (Below (w.alloc (.cells #[.string nm, .slice A1 code.length c1, .int .i64 dA, .slice A2 nd c2, .slice A3 ss.length c3, .slice A4 rs.length c4] 75)).heap.size (w.alloc (.cells #[.string nm, .slice A1 code.length c1, .int .i64 dA, .slice A2 nd c2, .slice A3 ss.length c3, .slice A4 rs.length c4] 75)) wr) := hB
    clear hB
    by_cases hlt : k < code.length
    · obtain ⟨a, rfl, q0⟩ := (hC.keep HB.out) k hlt
      obtain ⟨v0, v1⟩ := hR k hlt
      have CT := reftarget_any (nth code k) v0 v1
      have HE1 : Hid (isT (nth code k) = true ∧ (code.length : Int) < tgV (nth code k) → codE code k = 22) := fun h => by unfold codE; rw [if_pos h]
      have HE0 : Hid (¬ (isT (nth code k) = true ∧ (code.length : Int) < tgV (nth code k)) → codE code k = 0) := fun h => by unfold codE; rw [if_neg h]
      generalize nth code k = v at q0 v0 v1 CT HE1 HE0
      go_wp2_with fail
      refine (CT _).mono ?_
      rintro e w5 ⟨rfl, hb5⟩
      have f5 := lkeep hb5 f1
      have HB5 : Hid (Below w.heap.size w w5) := lb_trans HB.out hb5
      have HB6 : Hid (Below (w.alloc (.cells #[.string nm, .slice (some a) code.length c1, .int .i64 dA, .slice A2 nd c2, .slice A3 ss.length c3, .slice A4 rs.length c4] 75)).heap.size (w.alloc (.cells #[.string nm, .slice (some a) code.length c1, .int .i64 dA, .slice A2 nd c2, .slice A3 ss.length c3, .slice A4 rs.length c4] 75)) w5) := lb_trans HB0.out hb5
      clear hb5 CT q0 f1
      cases hT : isT v with
      | false =>
        have HE : Hid (codE code k = 0) := HE0.out (by rw [hT]; simp)
        clear hT
        go_wp2
        go_roundw
        case rel => exact ⟨k + 1, by go_num, by omega, HB6.out, fun j hj => by
          by_cases hjk : j = k
          · rw [hjk]; exact HE.out
          · exact HT.out j (by omega)⟩
        case measure => simp [intOf]; omega
      | true =>
      by_cases hV : (code.length : Int) < tgV v
      · have HE : Hid (codE code k = 22) := HE1.out ⟨hT, hV⟩
        clear hT
        go_wp2
        go_ret2
        exact ⟨ret2I (by rw [cod_hit hlt HT.out HE.out]), HB5.out⟩
      · have HE : Hid (codE code k = 0) := HE0.out (fun h => hV h.2)
        clear hT
        go_wp2
        go_roundw
        case rel => exact ⟨k + 1, by go_num, by omega, HB6.out, fun j hj => by
          by_cases hjk : j = k
          · rw [hjk]; exact HE.out
          · exact HT.out j (by omega)⟩
        case measure => simp [intOf]; omega
    · have HC : Hid (codC code = (0, 0)) := cod_none fun j hj => HT.out j (by omega)
      go_wp2
      go_ret2
      exact ⟨ret2I (by rw [HC.out]), HB.out⟩
theorem refcheck_any (nm : ByteArray) (dA : Int) (A1 A2 A3 A4 : Option Addr) (c1 nd c2 c3 c4 : Nat) (code : List Int) (ss : List Sym) (rs : List Rel) (w : World) (hC : IntsAt w A1 .u32 code) (hR : ∀ i, i < code.length → 0 ≤ nth code i ∧ nth code i < 4294967296) (hS : SymsAt w A3 ss) (hL : RelsAt w A4 rs) (hc : code.length ≤ 1048576) (hd : nd ≤ 1048576) (hs : ss.length ≤ 1048576) (hl : rs.length ≤ 1048576) : Calls Tryz.prog 143 #[.agg #[.string nm, .slice A1 code.length c1, .int .i64 dA, .slice A2 nd c2, .slice A3 ss.length c3, .slice A4 rs.length c4]] w fun e w' => e = .returned (.tuple #[.int .i64 (checkC nm code dA nd ss rs).1, .int .i64 (checkC nm code dA nd ss rs).2]) ∧ Below w.heap.size w w' := by
  have C1 := refsize_any nm dA A1 A2 A3 A4 code.length c1 nd c2 ss.length c3 rs.length c4
  have C2 := fun wx (h : Below w.heap.size w wx) => refsyms_any nm dA A1 A2 A3 A4 code.length c1 nd c2 c3 rs.length c4 ss wx (hS.keep h) hs
  have C3 := fun wx (h : Below w.heap.size w wx) => refrels_any nm dA A1 A2 A3 A4 c1 nd c2 ss.length c3 c4 code rs wx (hC.keep h) hR (hL.keep h) hl hc
  unfold checkC
  by_cases e1 : (sizeC (nameOK nm) code.length ss.length rs.length nd dA).1 = 0
  · rw [if_neg (by simpa using e1)]
    rw [e1] at C1
    by_cases e2 : (symC ss code.length).1 = 0
    · rw [if_neg (by simpa using e2)]
      have C2' := C2
      simp only [e2] at C2'
      by_cases e3 : (relC rs code ss.length).1 = 0
      · rw [if_neg (by simpa using e3)]
        have C3' := C3
        simp only [e3] at C3'
        exact check4 nm dA A1 A2 A3 A4 c1 nd c2 c3 c4 code ss rs _ _ _ w (fun wx => C1 wx hd) C2' C3' hC hR hc
      · rw [if_pos e3]
        exact check3 nm dA A1 A2 A3 A4 c1 nd c2 c3 c4 code ss rs _ _ _ w (fun wx => C1 wx hd) C2' C3 (by simpa using e3)
    · rw [if_pos e2]
      exact check2 nm dA A1 A2 A3 A4 c1 nd c2 c3 c4 code ss rs _ _ _ w (fun wx => C1 wx hd) C2 C3 (by simpa using e2)
  · rw [if_pos e1]
    exact check1 nm dA A1 A2 A3 A4 c1 nd c2 c3 c4 code ss rs _ _ _ w (fun wx => C1 wx hd) C2 C3 (by simpa using e1)







end Go.Proofs.YthpkekpojhmaaaaGreatDoor

namespace Go.Proofs.YthpkekpojhmaaaaGreatDoor
open Go.RowKit

set_option maxRecDepth 100000 in
set_option maxHeartbeats 4000000 in
theorem asktgts_any (nm : ByteArray) (dA : Int) (A1 A2 A3 A4 : Option Addr) (c1 nd c2 ns c3 nr c4 : Nat) (code : List Int) (g : Nat) (m : Nat → Bool) (w : World) (hC : IntsAt w A1 .u32 code) (hR : ∀ i, i < code.length → 0 ≤ nth code i ∧ nth code i < 4294967296) (hc : code.length ≤ 16384) (hm : MarksAt w g m) (hs : Safe code m) :
    Calls Tryz.prog 163 #[.agg #[.string nm, .slice A1 code.length c1, .int .i64 dA, .slice A2 nd c2, .slice A3 ns c3, .slice A4 nr c4], .pointer (some ⟨g, 0, none⟩)] w fun e w' => e = .returned (.tuple #[.int .i64 (codC code).1, .int .i64 (codC code).2]) ∧ Below w.heap.size w w' := by
  go_enter Tryz.func163, Tryz.ntmps163
  go_wp2
  go_loopw [13] (fun i wr => ∃ k : Nat, i = .int .i64 k ∧ k ≤ code.length ∧ Below (w.alloc (.cells #[.string nm, .slice A1 code.length c1, .int .i64 dA, .slice A2 nd c2, .slice A3 ns c3, .slice A4 nr c4] 75)).heap.size (w.alloc (.cells #[.string nm, .slice A1 code.length c1, .int .i64 dA, .slice A2 nd c2, .slice A3 ns c3, .slice A4 nr c4] 75)) wr ∧ Hid (∀ j, j < k → codE code j = 0)) (fun i _ => code.length - (intOf i).toNat)
  case atStart => exact ⟨0, rfl, by omega, Below.refl _ _, fun j hj => by omega⟩
  case round =>
    obtain ⟨k, rfl, hk, hB, HT⟩ := hrel
    rename_i wr _
    have f0 : wr.cell? ⟨w.heap.size, 0, none⟩ = some (.string nm) := lkeep hB (by simp [go_sem])
    have f1 : wr.cell? ⟨w.heap.size, 1, none⟩ = some (.slice A1 code.length c1) := lkeep hB (by simp [go_sem])
    have f2 : wr.cell? ⟨w.heap.size, 2, none⟩ = some (.int .i64 dA) := lkeep hB (by simp [go_sem])
    have f3 : wr.cell? ⟨w.heap.size, 3, none⟩ = some (.slice A2 nd c2) := lkeep hB (by simp [go_sem])
    have f4 : wr.cell? ⟨w.heap.size, 4, none⟩ = some (.slice A3 ns c3) := lkeep hB (by simp [go_sem])
    have f5 : wr.cell? ⟨w.heap.size, 5, none⟩ = some (.slice A4 nr c4) := lkeep hB (by simp [go_sem])
    have HB : Hid (Below w.heap.size w wr) := lb_trans (lb_alloc (Below.refl _ _) _) hB
    have HB0 : Hid (Below (w.alloc (.cells #[.string nm, .slice A1 code.length c1, .int .i64 dA, .slice A2 nd c2, .slice A3 ns c3, .slice A4 nr c4] 75)).heap.size (w.alloc (.cells #[.string nm, .slice A1 code.length c1, .int .i64 dA, .slice A2 nd c2, .slice A3 ns c3, .slice A4 nr c4] 75)) wr) := hB
    clear hB
    by_cases hlt : k < code.length
    · obtain ⟨a1, rfl, q1⟩ := (hC.keep HB.out) k hlt
      obtain ⟨v0, v1⟩ := hR _ hlt
      have CT := isatarget_any (nth code k) v0 v1
      have HE1 : Hid (isT (nth code k) = true ∧ (code.length : Int) < tgV (nth code k) → codE code k = 22) := fun h => by unfold codE; rw [if_pos h]
      have HE0 : Hid (¬ (isT (nth code k) = true ∧ (code.length : Int) < tgV (nth code k)) → codE code k = 0) := fun h => by unfold codE; rw [if_neg h]
      have HV : Hid (m k = true → tgV (nth code k) = 0) := hs k
      have HMR : Hid (MarksAt wr g m) := hm.keep HB.out
      generalize nth code k = v at q1 v0 v1 CT HE1 HE0 HV
      go_wp2_with fail
      refine (CT _).mono ?_
      rintro e w5 ⟨rfl, hb5⟩
      have e1 := lkeep hb5 f1
      have z0 : w5.cell? ⟨g, k, none⟩ = some (.bool (m k)) := (HMR.out.keep hb5).1 k (by omega)
      have HB5 : Hid (Below w.heap.size w w5) := lb_trans HB.out hb5
      have HB6 : Hid (Below (w.alloc (.cells #[.string nm, .slice (some a1) code.length c1, .int .i64 dA, .slice A2 nd c2, .slice A3 ns c3, .slice A4 nr c4] 75)).heap.size (w.alloc (.cells #[.string nm, .slice (some a1) code.length c1, .int .i64 dA, .slice A2 nd c2, .slice A3 ns c3, .slice A4 nr c4] 75)) w5) := lb_trans HB0.out hb5
      clear CT hb5 q1 f0 f1 f2 f3 f4 f5
      cases hT : isT v with
      | false =>
          have HE : Hid (codE code k = 0) := HE0.out (by rw [hT]; simp)
          clear hT
          go_wp2
          go_roundw
          case rel => exact ⟨k + 1, by go_num, by omega, HB6.out, fun j hj => by
            by_cases hjk : j = k
            · rw [hjk]; exact HE.out
            · exact HT.out j (by omega)⟩
          case measure => simp [intOf]; omega
      | true =>
        cases hM : m k with
        | true =>
          rw [hM] at z0
          have HE : Hid (codE code k = 0) := HE0.out (by rw [HV.out hM]; omega)
          clear hT hM
          go_wp2
          go_roundw
          case rel => exact ⟨k + 1, by go_num, by omega, HB6.out, fun j hj => by
            by_cases hjk : j = k
            · rw [hjk]; exact HE.out
            · exact HT.out j (by omega)⟩
          case measure => simp [intOf]; omega
        | false =>
          rw [hM] at z0
          by_cases h6 : (code.length : Int) < tgV v
          · have HE : Hid (codE code k = 22) := HE1.out ⟨hT, h6⟩
            clear hT hM
            go_wp2
            go_ret2
            exact ⟨ret2I (by rw [cod_hit hlt HT.out HE.out]), HB5.out⟩
          have HE : Hid (codE code k = 0) := HE0.out (by omega)
          clear hT hM
          go_wp2
          go_roundw
          case rel => exact ⟨k + 1, by go_num, by omega, HB6.out, fun j hj => by
            by_cases hjk : j = k
            · rw [hjk]; exact HE.out
            · exact HT.out j (by omega)⟩
          case measure => simp [intOf]; omega
    · have HC : Hid (codC code = (0, 0)) := cod_none fun j hj => HT.out j (by omega)
      go_wp2
      go_ret2
      exact ⟨ret2I (by rw [HC.out]), HB.out⟩





end Go.Proofs.YthpkekpojhmaaaaGreatDoor

namespace Go.Proofs.YthpkekpojhmaaaaGreatDoor
open Go.RowKit

theorem q6_any (nm : ByteArray) (dA : Int) (A1 A2 A3 A4 : Option Addr) (nc c1 nd c2 c3 nr c4 : Nat) (zs : List Sym) (b : Nat) (w : World) (o0 : w.cell? ⟨b, 0, none⟩ = some (.string nm)) (o1 : w.cell? ⟨b, 1, none⟩ = some (.slice A1 nc c1)) (o2 : w.cell? ⟨b, 2, none⟩ = some (.int .i64 dA)) (o3 : w.cell? ⟨b, 3, none⟩ = some (.slice A2 nd c2)) (o4 : w.cell? ⟨b, 4, none⟩ = some (.slice A3 zs.length c3)) (o5 : w.cell? ⟨b, 5, none⟩ = some (.slice A4 nr c4)) (hA : SymsAt w A3 zs) (hz : zs.length ≤ 1048576) (hN : ∀ i, (sName zs i).size ≤ 140737488355328) : Calls Tryz.prog 158 #[.pointer (some ⟨b, 0, none⟩)] w fun r w' => r = .returned (.tuple #[.int .i64 (symC zs nc).1, .int .i64 (symC zs nc).2]) ∧ Below w.heap.size w w' := by
  go_enter Tryz.func158, Tryz.ntmps158
  go_wp2_with fail
  refine (asksyms_any nm dA A1 A2 A3 A4 nc c1 nd c2 c3 nr c4 zs _ hA hz hN).mono ?_
  rintro r w1 ⟨rfl, hb⟩
  have HB : Hid (Below w.heap.size w w1) := hb
  clear hb
  go_wp2
  go_ret2
  exact ⟨rfl, HB.out⟩
theorem q7_any (nm : ByteArray) (dA : Int) (A1 A2 A3 A4 : Option Addr) (c1 nd c2 ns c3 c4 : Nat) (code : List Int) (zs : List Rel) (g : Nat) (m0 : Nat → Bool) (b : Nat) (w0 w : World) (o0 : w.cell? ⟨b, 0, none⟩ = some (.string nm)) (o1 : w.cell? ⟨b, 1, none⟩ = some (.slice A1 code.length c1)) (o2 : w.cell? ⟨b, 2, none⟩ = some (.int .i64 dA)) (o3 : w.cell? ⟨b, 3, none⟩ = some (.slice A2 nd c2)) (o4 : w.cell? ⟨b, 4, none⟩ = some (.slice A3 ns c3)) (o5 : w.cell? ⟨b, 5, none⟩ = some (.slice A4 zs.length c4)) (hC : IntsAt w0 A1 .u32 code) (hR : ∀ i, i < code.length → 0 ≤ nth code i ∧ nth code i < 4294967296) (hA : RelsAt w0 A4 zs) (hb0 : Below w0.heap.size w0 w) (hg0 : w0.heap.size ≤ g) (hz : zs.length ≤ 1048576) (hc : code.length ≤ 16384) (hm : MarksAt w g m0) (hs : Safe code m0) : Calls Tryz.prog 160 #[.pointer (some ⟨b, 0, none⟩), .pointer (some ⟨g, 0, none⟩)] w fun r w' => r = .returned (.tuple #[.int .i64 (relC zs code ns).1, .int .i64 (relC zs code ns).2]) ∧ But g w w' ∧ ∃ m, MarksAt w' g m ∧ Safe code m := by
  go_enter Tryz.func160, Tryz.ntmps160
  go_wp2_with fail
  refine (askrels_any nm dA A1 A2 A3 A4 c1 nd c2 ns c3 c4 code zs g m0 w0 _ hC hR hA hb0 hg0 hz hc hm hs).mono ?_
  rintro r w1 ⟨rfl, hb, m, hm1, hs1⟩
  have HB : Hid (But g w w1) := hb
  have HM : Hid (MarksAt w1 g m) := hm1
  have HS : Hid (Safe code m) := hs1
  clear hb hm1 hs1
  go_wp2
  go_ret2
  exact ⟨rfl, HB.out, m, HM.out, HS.out⟩
theorem q8_any (nm : ByteArray) (dA : Int) (A1 A2 A3 A4 : Option Addr) (c1 nd c2 ns c3 nr c4 : Nat) (code : List Int) (g : Nat) (m : Nat → Bool) (b : Nat) (w : World) (o0 : w.cell? ⟨b, 0, none⟩ = some (.string nm)) (o1 : w.cell? ⟨b, 1, none⟩ = some (.slice A1 code.length c1)) (o2 : w.cell? ⟨b, 2, none⟩ = some (.int .i64 dA)) (o3 : w.cell? ⟨b, 3, none⟩ = some (.slice A2 nd c2)) (o4 : w.cell? ⟨b, 4, none⟩ = some (.slice A3 ns c3)) (o5 : w.cell? ⟨b, 5, none⟩ = some (.slice A4 nr c4)) (hC : IntsAt w A1 .u32 code) (hR : ∀ i, i < code.length → 0 ≤ nth code i ∧ nth code i < 4294967296) (hc : code.length ≤ 16384) (hm : MarksAt w g m) (hs : Safe code m) : Calls Tryz.prog 162 #[.pointer (some ⟨b, 0, none⟩), .pointer (some ⟨g, 0, none⟩)] w fun r w' => r = .returned (.tuple #[.int .i64 (codC code).1, .int .i64 (codC code).2]) ∧ Below w.heap.size w w' := by
  go_enter Tryz.func162, Tryz.ntmps162
  go_wp2_with fail
  refine (asktgts_any nm dA A1 A2 A3 A4 c1 nd c2 ns c3 nr c4 code g m _ hC hR hc hm hs).mono ?_
  rintro r w1 ⟨rfl, hb⟩
  have HB : Hid (Below w.heap.size w w1) := hb
  clear hb
  go_wp2
  go_ret2
  exact ⟨rfl, HB.out⟩





end Go.Proofs.YthpkekpojhmaaaaGreatDoor

namespace Go.Proofs.YthpkekpojhmaaaaGreatDoor
open Go.RowKit

/-- How things stand between two questions: the object and the questions lie where they lay; the marks are safe. -/
def Mid (nm : ByteArray) (dA : Int) (A1 A2 A3 A4 : Option Addr) (c1 nd c2 c3 c4 : Nat) (code : List Int) (ss : List Sym) (rs : List Rel) (w0 w : World) : Prop :=
  Below w0.heap.size w0 w ∧ w.cell? ⟨w0.heap.size + 1, 0, none⟩ = some (.string nm) ∧ w.cell? ⟨w0.heap.size + 1, 1, none⟩ = some (.slice A1 code.length c1) ∧ w.cell? ⟨w0.heap.size + 1, 2, none⟩ = some (.int .i64 dA) ∧ w.cell? ⟨w0.heap.size + 1, 3, none⟩ = some (.slice A2 nd c2) ∧ w.cell? ⟨w0.heap.size + 1, 4, none⟩ = some (.slice A3 ss.length c3) ∧ w.cell? ⟨w0.heap.size + 1, 5, none⟩ = some (.slice A4 rs.length c4) ∧ w.cell? ⟨w0.heap.size + 1 + 1 + 1, 0, none⟩ = some (.func (.func 150) #[] #[.pointer (some ⟨w0.heap.size + 1, 0, none⟩)]) ∧ w.cell? ⟨w0.heap.size + 1 + 1 + 1, 1, none⟩ = some (.func (.func 153) #[] #[.pointer (some ⟨w0.heap.size + 1, 0, none⟩)]) ∧ w.cell? ⟨w0.heap.size + 1 + 1 + 1, 2, none⟩ = some (.func (.func 154) #[] #[.pointer (some ⟨w0.heap.size + 1, 0, none⟩)]) ∧ w.cell? ⟨w0.heap.size + 1 + 1 + 1, 3, none⟩ = some (.func (.func 155) #[] #[.pointer (some ⟨w0.heap.size + 1, 0, none⟩)]) ∧ w.cell? ⟨w0.heap.size + 1 + 1 + 1, 4, none⟩ = some (.func (.func 156) #[] #[.pointer (some ⟨w0.heap.size + 1, 0, none⟩)]) ∧ w.cell? ⟨w0.heap.size + 1 + 1 + 1, 5, none⟩ = some (.func (.func 158) #[] #[.pointer (some ⟨w0.heap.size + 1, 0, none⟩)]) ∧ w.cell? ⟨w0.heap.size + 1 + 1 + 1, 6, none⟩ = some (.func (.func 160) #[] #[.pointer (some ⟨w0.heap.size + 1, 0, none⟩), .pointer (some ⟨w0.heap.size + 1 + 1, 0, none⟩)]) ∧ w.cell? ⟨w0.heap.size + 1 + 1 + 1, 7, none⟩ = some (.func (.func 162) #[] #[.pointer (some ⟨w0.heap.size + 1, 0, none⟩), .pointer (some ⟨w0.heap.size + 1 + 1, 0, none⟩)]) ∧ ∃ m, MarksAt w (w0.heap.size + 1 + 1) m ∧ Safe code m
theorem mid_but {nm : ByteArray} {dA : Int} {A1 A2 A3 A4 : Option Addr} {c1 nd c2 c3 c4 : Nat} {code : List Int} {ss : List Sym} {rs : List Rel} {w0 w w' : World} (h : Mid nm dA A1 A2 A3 A4 c1 nd c2 c3 c4 code ss rs w0 w) (hb' : But (w0.heap.size + 1 + 1) w w') {m' : Nat → Bool} (hm' : MarksAt w' (w0.heap.size + 1 + 1) m') (hs' : Safe code m') : Mid nm dA A1 A2 A3 A4 c1 nd c2 c3 c4 code ss rs w0 w' := by
  obtain ⟨hb, o0, o1, o2, o3, o4, o5, f0, f1, f2, f3, f4, f5, f6, f7, m, hm, hs⟩ := h
  exact ⟨hb'.below hb (by omega), hb'.cell (by simp) o0, hb'.cell (by simp) o1, hb'.cell (by simp) o2, hb'.cell (by simp) o3, hb'.cell (by simp) o4, hb'.cell (by simp) o5, hb'.cell (by simp) f0, hb'.cell (by simp) f1, hb'.cell (by simp) f2, hb'.cell (by simp) f3, hb'.cell (by simp) f4, hb'.cell (by simp) f5, hb'.cell (by simp) f6, hb'.cell (by simp) f7, m', hm', hs'⟩
theorem mid_on {nm : ByteArray} {dA : Int} {A1 A2 A3 A4 : Option Addr} {c1 nd c2 c3 c4 : Nat} {code : List Int} {ss : List Sym} {rs : List Rel} {w0 w w' : World} (h : Mid nm dA A1 A2 A3 A4 c1 nd c2 c3 c4 code ss rs w0 w) (hb' : Below w.heap.size w w') : Mid nm dA A1 A2 A3 A4 c1 nd c2 c3 c4 code ss rs w0 w' := by
  have h' := h
  obtain ⟨hb, o0, o1, o2, o3, o4, o5, f0, f1, f2, f3, f4, f5, f6, f7, m, hm, hs⟩ := h'
  exact mid_but h (But.of hb') (hm.keep hb') hs
theorem m0_any (nm : ByteArray) (dA : Int) (A1 A2 A3 A4 : Option Addr) (c1 nd c2 c3 c4 : Nat) (code : List Int) (ss : List Sym) (rs : List Rel) (w0 w : World) (_hC : IntsAt w0 A1 .u32 code) (_hS : SymsAt w0 A3 ss) (_hL : RelsAt w0 A4 rs) (_hR : ∀ i, i < code.length → 0 ≤ nth code i ∧ nth code i < 4294967296) (_hc : code.length ≤ 1048576) (_hd : nd ≤ 1048576) (_hs : ss.length ≤ 1048576) (_hl : rs.length ≤ 1048576) (_hN : ∀ i, (sName ss i).size ≤ 140737488355328) (_hA : -9223372036854775808 ≤ dA ∧ dA ≤ 9223372036854775807) (h : Mid nm dA A1 A2 A3 A4 c1 nd c2 c3 c4 code ss rs w0 w) : Calls Tryz.prog 150 #[.pointer (some ⟨w0.heap.size + 1, 0, none⟩)] w fun r w' => r = .returned (.tuple #[.int .i64 (ansQ nm code dA nd ss rs 0).1, .int .i64 (ansQ nm code dA nd ss rs 0).2]) ∧ Mid nm dA A1 A2 A3 A4 c1 nd c2 c3 c4 code ss rs w0 w' := by
  have h' := h
  obtain ⟨hb, o0, o1, o2, o3, o4, o5, f0, f1, f2, f3, f4, f5, f6, f7, m, hm, hsm⟩ := h'
  refine (q1_any nm dA A1 A2 A3 A4 code.length c1 nd c2 ss.length c3 rs.length c4 _ w o0 o1 o2 o3 o4 o5).mono ?_
  rintro r w1 ⟨rfl, hb1⟩
  exact ⟨rfl, mid_on h hb1⟩
theorem m1_any (nm : ByteArray) (dA : Int) (A1 A2 A3 A4 : Option Addr) (c1 nd c2 c3 c4 : Nat) (code : List Int) (ss : List Sym) (rs : List Rel) (w0 w : World) (_hC : IntsAt w0 A1 .u32 code) (_hS : SymsAt w0 A3 ss) (_hL : RelsAt w0 A4 rs) (_hR : ∀ i, i < code.length → 0 ≤ nth code i ∧ nth code i < 4294967296) (hc : code.length ≤ 1048576) (_hd : nd ≤ 1048576) (_hs : ss.length ≤ 1048576) (_hl : rs.length ≤ 1048576) (_hN : ∀ i, (sName ss i).size ≤ 140737488355328) (_hA : -9223372036854775808 ≤ dA ∧ dA ≤ 9223372036854775807) (h : Mid nm dA A1 A2 A3 A4 c1 nd c2 c3 c4 code ss rs w0 w) : Calls Tryz.prog 153 #[.pointer (some ⟨w0.heap.size + 1, 0, none⟩)] w fun r w' => r = .returned (.tuple #[.int .i64 (ansQ nm code dA nd ss rs 1).1, .int .i64 (ansQ nm code dA nd ss rs 1).2]) ∧ Mid nm dA A1 A2 A3 A4 c1 nd c2 c3 c4 code ss rs w0 w' := by
  have h' := h
  obtain ⟨hb, o0, o1, o2, o3, o4, o5, f0, f1, f2, f3, f4, f5, f6, f7, m, hm, hsm⟩ := h'
  refine (q2_any nm dA A1 A2 A3 A4 code.length c1 nd c2 ss.length c3 rs.length c4 _ w o0 o1 o2 o3 o4 o5 hc).mono ?_
  rintro r w1 ⟨rfl, hb1⟩
  exact ⟨rfl, mid_on h hb1⟩
theorem m2_any (nm : ByteArray) (dA : Int) (A1 A2 A3 A4 : Option Addr) (c1 nd c2 c3 c4 : Nat) (code : List Int) (ss : List Sym) (rs : List Rel) (w0 w : World) (_hC : IntsAt w0 A1 .u32 code) (_hS : SymsAt w0 A3 ss) (_hL : RelsAt w0 A4 rs) (_hR : ∀ i, i < code.length → 0 ≤ nth code i ∧ nth code i < 4294967296) (_hc : code.length ≤ 1048576) (_hd : nd ≤ 1048576) (hs : ss.length ≤ 1048576) (_hl : rs.length ≤ 1048576) (_hN : ∀ i, (sName ss i).size ≤ 140737488355328) (_hA : -9223372036854775808 ≤ dA ∧ dA ≤ 9223372036854775807) (h : Mid nm dA A1 A2 A3 A4 c1 nd c2 c3 c4 code ss rs w0 w) : Calls Tryz.prog 154 #[.pointer (some ⟨w0.heap.size + 1, 0, none⟩)] w fun r w' => r = .returned (.tuple #[.int .i64 (ansQ nm code dA nd ss rs 2).1, .int .i64 (ansQ nm code dA nd ss rs 2).2]) ∧ Mid nm dA A1 A2 A3 A4 c1 nd c2 c3 c4 code ss rs w0 w' := by
  have h' := h
  obtain ⟨hb, o0, o1, o2, o3, o4, o5, f0, f1, f2, f3, f4, f5, f6, f7, m, hm, hsm⟩ := h'
  refine (q3_any nm dA A1 A2 A3 A4 code.length c1 nd c2 ss.length c3 rs.length c4 _ w o0 o1 o2 o3 o4 o5 hs).mono ?_
  rintro r w1 ⟨rfl, hb1⟩
  exact ⟨rfl, mid_on h hb1⟩
theorem m3_any (nm : ByteArray) (dA : Int) (A1 A2 A3 A4 : Option Addr) (c1 nd c2 c3 c4 : Nat) (code : List Int) (ss : List Sym) (rs : List Rel) (w0 w : World) (_hC : IntsAt w0 A1 .u32 code) (_hS : SymsAt w0 A3 ss) (_hL : RelsAt w0 A4 rs) (_hR : ∀ i, i < code.length → 0 ≤ nth code i ∧ nth code i < 4294967296) (hc : code.length ≤ 1048576) (_hd : nd ≤ 1048576) (_hs : ss.length ≤ 1048576) (hl : rs.length ≤ 1048576) (_hN : ∀ i, (sName ss i).size ≤ 140737488355328) (_hA : -9223372036854775808 ≤ dA ∧ dA ≤ 9223372036854775807) (h : Mid nm dA A1 A2 A3 A4 c1 nd c2 c3 c4 code ss rs w0 w) : Calls Tryz.prog 155 #[.pointer (some ⟨w0.heap.size + 1, 0, none⟩)] w fun r w' => r = .returned (.tuple #[.int .i64 (ansQ nm code dA nd ss rs 3).1, .int .i64 (ansQ nm code dA nd ss rs 3).2]) ∧ Mid nm dA A1 A2 A3 A4 c1 nd c2 c3 c4 code ss rs w0 w' := by
  have h' := h
  obtain ⟨hb, o0, o1, o2, o3, o4, o5, f0, f1, f2, f3, f4, f5, f6, f7, m, hm, hsm⟩ := h'
  refine (q4_any nm dA A1 A2 A3 A4 code.length c1 nd c2 ss.length c3 rs.length c4 _ w o0 o1 o2 o3 o4 o5 hc hl).mono ?_
  rintro r w1 ⟨rfl, hb1⟩
  exact ⟨rfl, mid_on h hb1⟩
theorem m4_any (nm : ByteArray) (dA : Int) (A1 A2 A3 A4 : Option Addr) (c1 nd c2 c3 c4 : Nat) (code : List Int) (ss : List Sym) (rs : List Rel) (w0 w : World) (_hC : IntsAt w0 A1 .u32 code) (_hS : SymsAt w0 A3 ss) (_hL : RelsAt w0 A4 rs) (_hR : ∀ i, i < code.length → 0 ≤ nth code i ∧ nth code i < 4294967296) (_hc : code.length ≤ 1048576) (hd : nd ≤ 1048576) (_hs : ss.length ≤ 1048576) (_hl : rs.length ≤ 1048576) (_hN : ∀ i, (sName ss i).size ≤ 140737488355328) (hA : -9223372036854775808 ≤ dA ∧ dA ≤ 9223372036854775807) (h : Mid nm dA A1 A2 A3 A4 c1 nd c2 c3 c4 code ss rs w0 w) : Calls Tryz.prog 156 #[.pointer (some ⟨w0.heap.size + 1, 0, none⟩)] w fun r w' => r = .returned (.tuple #[.int .i64 (ansQ nm code dA nd ss rs 4).1, .int .i64 (ansQ nm code dA nd ss rs 4).2]) ∧ Mid nm dA A1 A2 A3 A4 c1 nd c2 c3 c4 code ss rs w0 w' := by
  have h' := h
  obtain ⟨hb, o0, o1, o2, o3, o4, o5, f0, f1, f2, f3, f4, f5, f6, f7, m, hm, hsm⟩ := h'
  refine (q5_any nm dA A1 A2 A3 A4 code.length c1 nd c2 ss.length c3 rs.length c4 _ w o0 o1 o2 o3 o4 o5 hd hA.1 hA.2).mono ?_
  rintro r w1 ⟨rfl, hb1⟩
  exact ⟨rfl, mid_on h hb1⟩
theorem m5_any (nm : ByteArray) (dA : Int) (A1 A2 A3 A4 : Option Addr) (c1 nd c2 c3 c4 : Nat) (code : List Int) (ss : List Sym) (rs : List Rel) (w0 w : World) (_hC : IntsAt w0 A1 .u32 code) (hS : SymsAt w0 A3 ss) (_hL : RelsAt w0 A4 rs) (_hR : ∀ i, i < code.length → 0 ≤ nth code i ∧ nth code i < 4294967296) (_hc : code.length ≤ 1048576) (_hd : nd ≤ 1048576) (hs : ss.length ≤ 1048576) (_hl : rs.length ≤ 1048576) (hN : ∀ i, (sName ss i).size ≤ 140737488355328) (_hA : -9223372036854775808 ≤ dA ∧ dA ≤ 9223372036854775807) (h : Mid nm dA A1 A2 A3 A4 c1 nd c2 c3 c4 code ss rs w0 w) : Calls Tryz.prog 158 #[.pointer (some ⟨w0.heap.size + 1, 0, none⟩)] w fun r w' => r = .returned (.tuple #[.int .i64 (ansQ nm code dA nd ss rs 5).1, .int .i64 (ansQ nm code dA nd ss rs 5).2]) ∧ Mid nm dA A1 A2 A3 A4 c1 nd c2 c3 c4 code ss rs w0 w' := by
  have h' := h
  obtain ⟨hb, o0, o1, o2, o3, o4, o5, f0, f1, f2, f3, f4, f5, f6, f7, m, hm, hsm⟩ := h'
  refine (q6_any nm dA A1 A2 A3 A4 code.length c1 nd c2 c3 rs.length c4 ss _ w o0 o1 o2 o3 o4 o5 (hS.keep hb) hs hN).mono ?_
  rintro r w1 ⟨rfl, hb1⟩
  exact ⟨rfl, mid_on h hb1⟩
theorem m6_any (nm : ByteArray) (dA : Int) (A1 A2 A3 A4 : Option Addr) (c1 nd c2 c3 c4 : Nat) (code : List Int) (ss : List Sym) (rs : List Rel) (w0 w : World) (hC : IntsAt w0 A1 .u32 code) (_hS : SymsAt w0 A3 ss) (hL : RelsAt w0 A4 rs) (hR : ∀ i, i < code.length → 0 ≤ nth code i ∧ nth code i < 4294967296) (_hc : code.length ≤ 1048576) (_hd : nd ≤ 1048576) (_hs : ss.length ≤ 1048576) (hl : rs.length ≤ 1048576) (_hN : ∀ i, (sName ss i).size ≤ 140737488355328) (_hA : -9223372036854775808 ≤ dA ∧ dA ≤ 9223372036854775807) (hcc : code.length ≤ 16384) (h : Mid nm dA A1 A2 A3 A4 c1 nd c2 c3 c4 code ss rs w0 w) : Calls Tryz.prog 160 #[.pointer (some ⟨w0.heap.size + 1, 0, none⟩), .pointer (some ⟨w0.heap.size + 1 + 1, 0, none⟩)] w fun r w' => r = .returned (.tuple #[.int .i64 (ansQ nm code dA nd ss rs 6).1, .int .i64 (ansQ nm code dA nd ss rs 6).2]) ∧ Mid nm dA A1 A2 A3 A4 c1 nd c2 c3 c4 code ss rs w0 w' := by
  have h' := h
  obtain ⟨hb, o0, o1, o2, o3, o4, o5, f0, f1, f2, f3, f4, f5, f6, f7, m, hm, hsm⟩ := h'
  refine (q7_any nm dA A1 A2 A3 A4 c1 nd c2 ss.length c3 c4 code rs _ m _ w0 w o0 o1 o2 o3 o4 o5 hC hR hL hb (by omega) hl hcc hm hsm).mono ?_
  rintro r w1 ⟨rfl, hb1, m1, hm1, hs1⟩
  exact ⟨rfl, mid_but h hb1 hm1 hs1⟩
theorem m7_any (nm : ByteArray) (dA : Int) (A1 A2 A3 A4 : Option Addr) (c1 nd c2 c3 c4 : Nat) (code : List Int) (ss : List Sym) (rs : List Rel) (w0 w : World) (hC : IntsAt w0 A1 .u32 code) (_hS : SymsAt w0 A3 ss) (_hL : RelsAt w0 A4 rs) (hR : ∀ i, i < code.length → 0 ≤ nth code i ∧ nth code i < 4294967296) (_hc : code.length ≤ 1048576) (_hd : nd ≤ 1048576) (_hs : ss.length ≤ 1048576) (_hl : rs.length ≤ 1048576) (_hN : ∀ i, (sName ss i).size ≤ 140737488355328) (_hA : -9223372036854775808 ≤ dA ∧ dA ≤ 9223372036854775807) (hcc : code.length ≤ 16384) (h : Mid nm dA A1 A2 A3 A4 c1 nd c2 c3 c4 code ss rs w0 w) : Calls Tryz.prog 162 #[.pointer (some ⟨w0.heap.size + 1, 0, none⟩), .pointer (some ⟨w0.heap.size + 1 + 1, 0, none⟩)] w fun r w' => r = .returned (.tuple #[.int .i64 (ansQ nm code dA nd ss rs 7).1, .int .i64 (ansQ nm code dA nd ss rs 7).2]) ∧ Mid nm dA A1 A2 A3 A4 c1 nd c2 c3 c4 code ss rs w0 w' := by
  have h' := h
  obtain ⟨hb, o0, o1, o2, o3, o4, o5, f0, f1, f2, f3, f4, f5, f6, f7, m, hm, hsm⟩ := h'
  refine (q8_any nm dA A1 A2 A3 A4 c1 nd c2 ss.length c3 rs.length c4 code _ m _ w o0 o1 o2 o3 o4 o5 (hC.keep hb) hR hcc hm hsm).mono ?_
  rintro r w1 ⟨rfl, hb1⟩
  exact ⟨rfl, mid_on h hb1⟩





end Go.Proofs.YthpkekpojhmaaaaGreatDoor

namespace Go.Proofs.YthpkekpojhmaaaaGreatDoor
open Go.RowKit

set_option maxRecDepth 100000 in
theorem mid_start (nm : ByteArray) (dA : Int) (A1 A2 A3 A4 : Option Addr) (c1 nd c2 c3 c4 : Nat) (code : List Int) (ss : List Sym) (rs : List Rel) (cs : Array Value) (hz1 : ∀ i, i < 16384 → cs[i]? = some (.bool false)) (w : World) : Mid nm dA A1 A2 A3 A4 c1 nd c2 c3 c4 code ss rs w ((((w.alloc (.cells #[.string nm, .slice A1 code.length c1, .int .i64 dA, .slice A2 nd c2, .slice A3 ss.length c3, .slice A4 rs.length c4] 75)).alloc (.cells #[.string nm, .slice A1 code.length c1, .int .i64 dA, .slice A2 nd c2, .slice A3 ss.length c3, .slice A4 rs.length c4] 75)).alloc (.cells cs 263)).alloc (.cells #[.func (.func 150) #[] #[.pointer (some ⟨w.heap.size + 1, 0, none⟩)], .func (.func 153) #[] #[.pointer (some ⟨w.heap.size + 1, 0, none⟩)], .func (.func 154) #[] #[.pointer (some ⟨w.heap.size + 1, 0, none⟩)], .func (.func 155) #[] #[.pointer (some ⟨w.heap.size + 1, 0, none⟩)], .func (.func 156) #[] #[.pointer (some ⟨w.heap.size + 1, 0, none⟩)], .func (.func 158) #[] #[.pointer (some ⟨w.heap.size + 1, 0, none⟩)], .func (.func 160) #[] #[.pointer (some ⟨w.heap.size + 1, 0, none⟩), .pointer (some ⟨w.heap.size + 1 + 1, 0, none⟩)], .func (.func 162) #[] #[.pointer (some ⟨w.heap.size + 1, 0, none⟩), .pointer (some ⟨w.heap.size + 1 + 1, 0, none⟩)]] 214)) := by
  refine ⟨?_, ?_, ?_, ?_, ?_, ?_, ?_, ?_, ?_, ?_, ?_, ?_, ?_, ?_, ?_, fun _ => false, ⟨?_, ?_⟩, ?_⟩
  · exact lb_alloc (lb_alloc (lb_alloc (lb_alloc (Below.refl _ _) _) _) _) _
  all_goals first
    | (simp [go_sem]; done)
    | (intro i hi; simp [go_sem, hz1 i hi]; done)
    | (intro i; simp [go_sem]; done)
    | (intro i hi; cases hi)
set_option maxRecDepth 100000 in
set_option maxHeartbeats 4000000 in
theorem objcheck_any (nm : ByteArray) (dA : Int) (A1 A2 A3 A4 : Option Addr) (c1 nd c2 c3 c4 : Nat) (code : List Int) (ss : List Sym) (rs : List Rel) (w : World) (hC : IntsAt w A1 .u32 code) (hS : SymsAt w A3 ss) (hL : RelsAt w A4 rs) (hR : ∀ i, i < code.length → 0 ≤ nth code i ∧ nth code i < 4294967296) (hc : code.length ≤ 1048576) (hd : nd ≤ 1048576) (hs : ss.length ≤ 1048576) (hl : rs.length ≤ 1048576) (hN : ∀ i, (sName ss i).size ≤ 140737488355328) (hA : -9223372036854775808 ≤ dA ∧ dA ≤ 9223372036854775807) : Calls Tryz.prog 82 #[.agg #[.string nm, .slice A1 code.length c1, .int .i64 dA, .slice A2 nd c2, .slice A3 ss.length c3, .slice A4 rs.length c4]] w fun e w' => e = .returned (.tuple #[.int .i64 (checkC nm code dA nd ss rs).1, .int .i64 (checkC nm code dA nd ss rs).2]) ∧ Below w.heap.size w w' := by
  obtain ⟨cs, _, hz1, hz⟩ := zero73
  have HM0 : Hid (Mid nm dA A1 A2 A3 A4 c1 nd c2 c3 c4 code ss rs w ((((w.alloc (.cells #[.string nm, .slice A1 code.length c1, .int .i64 dA, .slice A2 nd c2, .slice A3 ss.length c3, .slice A4 rs.length c4] 75)).alloc (.cells #[.string nm, .slice A1 code.length c1, .int .i64 dA, .slice A2 nd c2, .slice A3 ss.length c3, .slice A4 rs.length c4] 75)).alloc (.cells cs 263)).alloc (.cells #[.func (.func 150) #[] #[.pointer (some ⟨w.heap.size + 1, 0, none⟩)], .func (.func 153) #[] #[.pointer (some ⟨w.heap.size + 1, 0, none⟩)], .func (.func 154) #[] #[.pointer (some ⟨w.heap.size + 1, 0, none⟩)], .func (.func 155) #[] #[.pointer (some ⟨w.heap.size + 1, 0, none⟩)], .func (.func 156) #[] #[.pointer (some ⟨w.heap.size + 1, 0, none⟩)], .func (.func 158) #[] #[.pointer (some ⟨w.heap.size + 1, 0, none⟩)], .func (.func 160) #[] #[.pointer (some ⟨w.heap.size + 1, 0, none⟩), .pointer (some ⟨w.heap.size + 1 + 1, 0, none⟩)], .func (.func 162) #[] #[.pointer (some ⟨w.heap.size + 1, 0, none⟩), .pointer (some ⟨w.heap.size + 1 + 1, 0, none⟩)]] 214))) := mid_start nm dA A1 A2 A3 A4 c1 nd c2 c3 c4 code ss rs cs hz1 w
  go_enter Tryz.func82, Tryz.ntmps82
  go_wp2_with fail
  refine (questions_raw nm dA A1 A2 A3 A4 code.length c1 nd c2 ss.length c3 rs.length c4 cs hz _).mono ?_
  rintro e w1 ⟨rfl, hw1⟩
  have HM : Hid (Mid nm dA A1 A2 A3 A4 c1 nd c2 c3 c4 code ss rs w w1) := by
    have e1 : (w.alloc (.cells #[.string nm, .slice A1 code.length c1, .int .i64 dA, .slice A2 nd c2, .slice A3 ss.length c3, .slice A4 rs.length c4] 75)).heap.size = w.heap.size + 1 := by simp
    rw [hw1, e1]
    exact HM0.out
  clear hw1 HM0 hz hz1
  go_wp2
  go_loopw [11] (fun i wr => ∃ k : Nat, i = .int .i64 k ∧ k ≤ 8 ∧ Hid (Mid nm dA A1 A2 A3 A4 c1 nd c2 c3 c4 code ss rs w wr) ∧ Hid (∀ j, j < k → (ansQ nm code dA nd ss rs j).1 = 0)) (fun i _ => 8 - (intOf i).toNat)
  case atStart => exact ⟨0, rfl, by omega, HM, fun j hj => by omega⟩
  case round =>
    obtain ⟨k, rfl, hk, HW, HT⟩ := hrel
    rename_i wr _
    have HH : Hid (k < 8 → ¬ (ansQ nm code dA nd ss rs k).1 = 0 → checkC nm code dA nd ss rs = ansQ nm code dA nd ss rs k) := fun h e => ans_hit k h HT.out e
    have HX : Hid ((ansQ nm code dA nd ss rs k).1 = 0 → ∀ j, j < k + 1 → (ansQ nm code dA nd ss rs j).1 = 0) := fun h j hj => by
      by_cases hjk : j = k
      · rw [hjk]; exact h
      · exact HT.out j (by omega)
    by_cases hk8 : k < 8
    · have hh := HW.out
      obtain ⟨_, _, _, _, _, _, _, f0, f1, f2, f3, f4, f5, f6, f7, _⟩ := hh
      rcases (show k = 0 ∨ k = 1 ∨ k = 2 ∨ k = 3 ∨ k = 4 ∨ k = 5 ∨ k = 6 ∨ k = 7 by omega) with rfl | rfl | rfl | rfl | rfl | rfl | rfl | rfl
      · clear f1 f2 f3 f4 f5 f6 f7
        have C := m0_any nm dA A1 A2 A3 A4 c1 nd c2 c3 c4 code ss rs w wr hC hS hL hR hc hd hs hl hN hA HW.out
        cases hz0 : ((ansQ nm code dA nd ss rs 0).1 == 0) with
        | true =>
          have hz1 : (ansQ nm code dA nd ss rs 0).1 = 0 := by simpa using hz0
          have HX1 : Hid _ := HX.out hz1
          rw [hz1] at C
          clear hz0 hz1 HH HX HT
          go_wp2_with (go_at_call 150; refine C.mono ?_; rintro e w2 ⟨rfl, hm2⟩)
          rename_i hm2
          go_roundw
          case rel => exact ⟨0 + 1, by go_num, by omega, hm2, HX1.out⟩
          case measure => simp [intOf]
        | false =>
          have HX1 : Hid _ := HH.out hk8 (by simpa using hz0)
          have hz1 : ((ansQ nm code dA nd ss rs 0).1 != 0) = true := by simpa using hz0
          clear HH HX HT
          generalize ansQ nm code dA nd ss rs 0 = Y at C hz0 hz1 HX1
          go_wp2_with (go_at_call 150; refine C.mono ?_; rintro e w2 ⟨rfl, hm2⟩)
          rename_i hm2
          go_ret2
          exact ⟨ret2I (by rw [HX1.out]), hm2.1⟩
      · clear f0 f2 f3 f4 f5 f6 f7
        have C := m1_any nm dA A1 A2 A3 A4 c1 nd c2 c3 c4 code ss rs w wr hC hS hL hR hc hd hs hl hN hA HW.out
        cases hz0 : ((ansQ nm code dA nd ss rs 1).1 == 0) with
        | true =>
          have hz1 : (ansQ nm code dA nd ss rs 1).1 = 0 := by simpa using hz0
          have HX1 : Hid _ := HX.out hz1
          rw [hz1] at C
          clear hz0 hz1 HH HX HT
          go_wp2_with (go_at_call 153; refine C.mono ?_; rintro e w2 ⟨rfl, hm2⟩)
          rename_i hm2
          go_roundw
          case rel => exact ⟨1 + 1, by go_num, by omega, hm2, HX1.out⟩
          case measure => simp [intOf]
        | false =>
          have HX1 : Hid _ := HH.out hk8 (by simpa using hz0)
          have hz1 : ((ansQ nm code dA nd ss rs 1).1 != 0) = true := by simpa using hz0
          clear HH HX HT
          generalize ansQ nm code dA nd ss rs 1 = Y at C hz0 hz1 HX1
          go_wp2_with (go_at_call 153; refine C.mono ?_; rintro e w2 ⟨rfl, hm2⟩)
          rename_i hm2
          go_ret2
          exact ⟨ret2I (by rw [HX1.out]), hm2.1⟩
      · clear f0 f1 f3 f4 f5 f6 f7
        have C := m2_any nm dA A1 A2 A3 A4 c1 nd c2 c3 c4 code ss rs w wr hC hS hL hR hc hd hs hl hN hA HW.out
        cases hz0 : ((ansQ nm code dA nd ss rs 2).1 == 0) with
        | true =>
          have hz1 : (ansQ nm code dA nd ss rs 2).1 = 0 := by simpa using hz0
          have HX1 : Hid _ := HX.out hz1
          rw [hz1] at C
          clear hz0 hz1 HH HX HT
          go_wp2_with (go_at_call 154; refine C.mono ?_; rintro e w2 ⟨rfl, hm2⟩)
          rename_i hm2
          go_roundw
          case rel => exact ⟨2 + 1, by go_num, by omega, hm2, HX1.out⟩
          case measure => simp [intOf]
        | false =>
          have HX1 : Hid _ := HH.out hk8 (by simpa using hz0)
          have hz1 : ((ansQ nm code dA nd ss rs 2).1 != 0) = true := by simpa using hz0
          clear HH HX HT
          generalize ansQ nm code dA nd ss rs 2 = Y at C hz0 hz1 HX1
          go_wp2_with (go_at_call 154; refine C.mono ?_; rintro e w2 ⟨rfl, hm2⟩)
          rename_i hm2
          go_ret2
          exact ⟨ret2I (by rw [HX1.out]), hm2.1⟩
      · clear f0 f1 f2 f4 f5 f6 f7
        have C := m3_any nm dA A1 A2 A3 A4 c1 nd c2 c3 c4 code ss rs w wr hC hS hL hR hc hd hs hl hN hA HW.out
        cases hz0 : ((ansQ nm code dA nd ss rs 3).1 == 0) with
        | true =>
          have hz1 : (ansQ nm code dA nd ss rs 3).1 = 0 := by simpa using hz0
          have HX1 : Hid _ := HX.out hz1
          rw [hz1] at C
          clear hz0 hz1 HH HX HT
          go_wp2_with (go_at_call 155; refine C.mono ?_; rintro e w2 ⟨rfl, hm2⟩)
          rename_i hm2
          go_roundw
          case rel => exact ⟨3 + 1, by go_num, by omega, hm2, HX1.out⟩
          case measure => simp [intOf]
        | false =>
          have HX1 : Hid _ := HH.out hk8 (by simpa using hz0)
          have hz1 : ((ansQ nm code dA nd ss rs 3).1 != 0) = true := by simpa using hz0
          clear HH HX HT
          generalize ansQ nm code dA nd ss rs 3 = Y at C hz0 hz1 HX1
          go_wp2_with (go_at_call 155; refine C.mono ?_; rintro e w2 ⟨rfl, hm2⟩)
          rename_i hm2
          go_ret2
          exact ⟨ret2I (by rw [HX1.out]), hm2.1⟩
      · clear f0 f1 f2 f3 f5 f6 f7
        have C := m4_any nm dA A1 A2 A3 A4 c1 nd c2 c3 c4 code ss rs w wr hC hS hL hR hc hd hs hl hN hA HW.out
        cases hz0 : ((ansQ nm code dA nd ss rs 4).1 == 0) with
        | true =>
          have hz1 : (ansQ nm code dA nd ss rs 4).1 = 0 := by simpa using hz0
          have HX1 : Hid _ := HX.out hz1
          rw [hz1] at C
          clear hz0 hz1 HH HX HT
          go_wp2_with (go_at_call 156; refine C.mono ?_; rintro e w2 ⟨rfl, hm2⟩)
          rename_i hm2
          go_roundw
          case rel => exact ⟨4 + 1, by go_num, by omega, hm2, HX1.out⟩
          case measure => simp [intOf]
        | false =>
          have HX1 : Hid _ := HH.out hk8 (by simpa using hz0)
          have hz1 : ((ansQ nm code dA nd ss rs 4).1 != 0) = true := by simpa using hz0
          clear HH HX HT
          generalize ansQ nm code dA nd ss rs 4 = Y at C hz0 hz1 HX1
          go_wp2_with (go_at_call 156; refine C.mono ?_; rintro e w2 ⟨rfl, hm2⟩)
          rename_i hm2
          go_ret2
          exact ⟨ret2I (by rw [HX1.out]), hm2.1⟩
      · clear f0 f1 f2 f3 f4 f6 f7
        have C := m5_any nm dA A1 A2 A3 A4 c1 nd c2 c3 c4 code ss rs w wr hC hS hL hR hc hd hs hl hN hA HW.out
        cases hz0 : ((ansQ nm code dA nd ss rs 5).1 == 0) with
        | true =>
          have hz1 : (ansQ nm code dA nd ss rs 5).1 = 0 := by simpa using hz0
          have HX1 : Hid _ := HX.out hz1
          rw [hz1] at C
          clear hz0 hz1 HH HX HT
          go_wp2_with (go_at_call 158; refine C.mono ?_; rintro e w2 ⟨rfl, hm2⟩)
          rename_i hm2
          go_roundw
          case rel => exact ⟨5 + 1, by go_num, by omega, hm2, HX1.out⟩
          case measure => simp [intOf]
        | false =>
          have HX1 : Hid _ := HH.out hk8 (by simpa using hz0)
          have hz1 : ((ansQ nm code dA nd ss rs 5).1 != 0) = true := by simpa using hz0
          clear HH HX HT
          generalize ansQ nm code dA nd ss rs 5 = Y at C hz0 hz1 HX1
          go_wp2_with (go_at_call 158; refine C.mono ?_; rintro e w2 ⟨rfl, hm2⟩)
          rename_i hm2
          go_ret2
          exact ⟨ret2I (by rw [HX1.out]), hm2.1⟩
      · clear f0 f1 f2 f3 f4 f5 f7
        have C := m6_any nm dA A1 A2 A3 A4 c1 nd c2 c3 c4 code ss rs w wr hC hS hL hR hc hd hs hl hN hA (by have := z1 (HT.out 1 (by omega)); omega) HW.out
        cases hz0 : ((ansQ nm code dA nd ss rs 6).1 == 0) with
        | true =>
          have hz1 : (ansQ nm code dA nd ss rs 6).1 = 0 := by simpa using hz0
          have HX1 : Hid _ := HX.out hz1
          rw [hz1] at C
          clear hz0 hz1 HH HX HT
          go_wp2_with (go_at_call 160; refine C.mono ?_; rintro e w2 ⟨rfl, hm2⟩)
          rename_i hm2
          go_roundw
          case rel => exact ⟨6 + 1, by go_num, by omega, hm2, HX1.out⟩
          case measure => simp [intOf]
        | false =>
          have HX1 : Hid _ := HH.out hk8 (by simpa using hz0)
          have hz1 : ((ansQ nm code dA nd ss rs 6).1 != 0) = true := by simpa using hz0
          clear HH HX HT
          generalize ansQ nm code dA nd ss rs 6 = Y at C hz0 hz1 HX1
          go_wp2_with (go_at_call 160; refine C.mono ?_; rintro e w2 ⟨rfl, hm2⟩)
          rename_i hm2
          go_ret2
          exact ⟨ret2I (by rw [HX1.out]), hm2.1⟩
      · clear f0 f1 f2 f3 f4 f5 f6
        have C := m7_any nm dA A1 A2 A3 A4 c1 nd c2 c3 c4 code ss rs w wr hC hS hL hR hc hd hs hl hN hA (by have := z1 (HT.out 1 (by omega)); omega) HW.out
        cases hz0 : ((ansQ nm code dA nd ss rs 7).1 == 0) with
        | true =>
          have hz1 : (ansQ nm code dA nd ss rs 7).1 = 0 := by simpa using hz0
          have HX1 : Hid _ := HX.out hz1
          rw [hz1] at C
          clear hz0 hz1 HH HX HT
          go_wp2_with (go_at_call 162; refine C.mono ?_; rintro e w2 ⟨rfl, hm2⟩)
          rename_i hm2
          go_roundw
          case rel => exact ⟨7 + 1, by go_num, by omega, hm2, HX1.out⟩
          case measure => simp [intOf]
        | false =>
          have HX1 : Hid _ := HH.out hk8 (by simpa using hz0)
          have hz1 : ((ansQ nm code dA nd ss rs 7).1 != 0) = true := by simpa using hz0
          clear HH HX HT
          generalize ansQ nm code dA nd ss rs 7 = Y at C hz0 hz1 HX1
          go_wp2_with (go_at_call 162; refine C.mono ?_; rintro e w2 ⟨rfl, hm2⟩)
          rename_i hm2
          go_ret2
          exact ⟨ret2I (by rw [HX1.out]), hm2.1⟩
    · have HC : Hid (checkC nm code dA nd ss rs = (0, 0)) := ans_none fun j hj => HT.out j (by omega)
      go_wp2
      go_ret2
      exact ⟨ret2I (by rw [HC.out]), HW.out.1⟩





end Go.Proofs.YthpkekpojhmaaaaGreatDoor

namespace Go.Proofs.YthpkekpojhmaaaaGreatDoor
open Go.RowKit


theorem IntsAt.under {g : Nat} {w0 w w1 : World} {A : Option Addr} {K : IntKind} {zs : List Int} (h : IntsAt w0 A K zs) (hb : Below w0.heap.size w0 w) (hg : w0.heap.size ≤ g) (hb1 : Below g w w1) : IntsAt w1 A K zs := h.keep (hb.trans (hb1.mono hg))
theorem SymsAt.under {g : Nat} {w0 w w1 : World} {A : Option Addr} {zs : List Sym} (h : SymsAt w0 A zs) (hb : Below w0.heap.size w0 w) (hg : w0.heap.size ≤ g) (hb1 : Below g w w1) : SymsAt w1 A zs := h.keep (hb.trans (hb1.mono hg))
theorem RelsAt.under {g : Nat} {w0 w w1 : World} {A : Option Addr} {zs : List Rel} (h : RelsAt w0 A zs) (hb : Below w0.heap.size w0 w) (hg : w0.heap.size ≤ g) (hb1 : Below g w w1) : RelsAt w1 A zs := h.keep (hb.trans (hb1.mono hg))
theorem flat_snoc {α : Type} (f : α → List Int) (zs : List α) (z : α) (k : Nat) (h : k < zs.length) : (zs.take (k + 1)).flatMap f = (zs.take k).flatMap f ++ f (zs.getD k z) := by
  rw [List.take_succ_eq_append_getElem h, List.flatMap_append]
  simp [List.getD, h]
theorem flat_len {α : Type} (f : α → List Int) (m : Nat) (hf : ∀ x, (f x).length = m) (zs : List α) : (zs.flatMap f).length = zs.length * m := by
  induction zs with
  | nil => simp
  | cons z zs ih => simp [hf, ih, Nat.succ_mul, Nat.add_comm]

set_option maxRecDepth 100000 in
set_option maxHeartbeats 1000000 in
theorem wWords (g : Nat) (l : List Int) (A : Option Addr) (c : Nat) (zs : List Int) (w0 w : World) (hC : IntsAt w0 A .u32 zs) (hb0 : Below w0.heap.size w0 w) (hg0 : w0.heap.size ≤ g) (hR0 : ∀ i, i < zs.length → 0 ≤ nth zs i ∧ nth zs i < 4294967296) (hl : l.length + 4 + zs.length * 4 ≤ 1048576) (ho : OutAt w g l) :
    Calls Tryz.prog 118 #[.pointer (some ⟨g, 0, none⟩), .slice A zs.length c, .func (.func 84) #[.pointer (some ⟨g, 0, none⟩)] #[]] w (Puts g l (be4 zs.length ++ zs.flatMap be4) w) := by
  have hg := ho.lt
  go_enter Tryz.func118, Tryz.ntmps118
  go_wp2_with fail
  refine (wCount g l (zs.length : Int) (by omega) _ ho).mono ?_
  rintro r w1 ⟨rfl, h1, h2⟩
  have H2 : Hid _ := h2
  have H1 : Hid _ := h1
  clear h1 h2 ho
  go_wp2
  go_loopw [14] (fun i wr => ∃ k : Nat, i = .int .i64 k ∧ k ≤ zs.length ∧ OutAt wr g (l ++ be4 zs.length ++ (zs.take k).flatMap be4) ∧ OutTo g w wr) (fun i _ => zs.length - (intOf i).toNat)
  case atStart => exact ⟨0, rfl, Nat.zero_le _, by show OutAt _ _ (_ ++ []); rw [List.append_nil]; exact H1.out, H2.out⟩
  case round =>
    obtain ⟨k, rfl, hk, ho, ht⟩ := hrel
    by_cases hlt : k < zs.length
    · obtain ⟨a, rfl, hc⟩ := (hC.under hb0 hg0 (ht.below hg)) k hlt
      have hlen : (l ++ be4 zs.length ++ (zs.take k).flatMap be4).length + 4 ≤ 1048576 := by
        rw [List.length_append, len_app4, flat_len be4 4 (fun _ => rfl), List.length_take]
        have : min k zs.length * 4 + 4 ≤ zs.length * 4 := by
          rw [Nat.min_eq_left hk]; omega
        omega
      have HF : Hid _ := flat_snoc be4 zs 0 k hlt
      have hR := hR0 k hlt
      have HT : Hid _ := ht
      clear ht
      go_wp2_with fail
      refine (wNumber g _ (nth zs k) hR.1 hR.2 hlen _ ho).mono ?_
      rintro r w2 ⟨rfl, h3, h4⟩
      have H3 : Hid _ := h3
      have H4 : Hid _ := h4
      clear h3 h4 ho
      go_wp2
      go_roundw
      case rel => exact ⟨k + 1, by go_num, by omega, by rw [HF.out, ← List.append_assoc]; exact H3.out, HT.out.trans H4.out⟩
      case measure => simp [intOf]; omega
    · go_wp2
      go_end0
      rw [List.take_of_length_le (by omega)] at ho
      exact ⟨rfl, by rw [← List.append_assoc]; exact ho, ht⟩

set_option maxRecDepth 100000 in
set_option maxHeartbeats 1000000 in
theorem wLongs (g : Nat) (l : List Int) (A : Option Addr) (c : Nat) (zs : List Int) (w0 w : World) (hC : IntsAt w0 A .i64 zs) (hb0 : Below w0.heap.size w0 w) (hg0 : w0.heap.size ≤ g) (hl : l.length + 4 + zs.length * 8 ≤ 1048576) (ho : OutAt w g l) :
    Calls Tryz.prog 120 #[.pointer (some ⟨g, 0, none⟩), .slice A zs.length c, .func (.func 121) #[.pointer (some ⟨g, 0, none⟩)] #[]] w (Puts g l (be4 zs.length ++ zs.flatMap be8) w) := by
  have hg := ho.lt
  go_enter Tryz.func120, Tryz.ntmps120
  go_wp2_with fail
  refine (wCount g l (zs.length : Int) (by omega) _ ho).mono ?_
  rintro r w1 ⟨rfl, h1, h2⟩
  have H2 : Hid _ := h2
  have H1 : Hid _ := h1
  clear h1 h2 ho
  go_wp2
  go_loopw [14] (fun i wr => ∃ k : Nat, i = .int .i64 k ∧ k ≤ zs.length ∧ OutAt wr g (l ++ be4 zs.length ++ (zs.take k).flatMap be8) ∧ OutTo g w wr) (fun i _ => zs.length - (intOf i).toNat)
  case atStart => exact ⟨0, rfl, Nat.zero_le _, by show OutAt _ _ (_ ++ []); rw [List.append_nil]; exact H1.out, H2.out⟩
  case round =>
    obtain ⟨k, rfl, hk, ho, ht⟩ := hrel
    by_cases hlt : k < zs.length
    · obtain ⟨a, rfl, hc⟩ := (hC.under hb0 hg0 (ht.below hg)) k hlt
      have hlen : (l ++ be4 zs.length ++ (zs.take k).flatMap be8).length + 8 ≤ 1048576 := by
        rw [List.length_append, len_app4, flat_len be8 8 (fun _ => rfl), List.length_take]
        have : min k zs.length * 8 + 8 ≤ zs.length * 8 := by
          rw [Nat.min_eq_left hk]; omega
        omega
      have HF : Hid _ := flat_snoc be8 zs 0 k hlt
      have HT : Hid _ := ht
      clear ht
      go_wp2_with fail
      refine (wLong g _ (nth zs k)  hlen _ ho).mono ?_
      rintro r w2 ⟨rfl, h3, h4⟩
      have H3 : Hid _ := h3
      have H4 : Hid _ := h4
      clear h3 h4 ho
      go_wp2
      go_roundw
      case rel => exact ⟨k + 1, by go_num, by omega, by rw [HF.out, ← List.append_assoc]; exact H3.out, HT.out.trans H4.out⟩
      case measure => simp [intOf]; omega
    · go_wp2
      go_end0
      rw [List.take_of_length_le (by omega)] at ho
      exact ⟨rfl, by rw [← List.append_assoc]; exact ho, ht⟩


end Go.Proofs.YthpkekpojhmaaaaGreatDoor

namespace Go.Proofs.YthpkekpojhmaaaaGreatDoor
open Go.RowKit


theorem flat_take_le {α : Type} (f : α → List Int) (zs : List α) (k : Nat) : ((zs.take k).flatMap f).length ≤ (zs.flatMap f).length := by
  conv => rhs; rw [← List.take_append_drop k zs, List.flatMap_append, List.length_append]
  omega

set_option maxRecDepth 100000 in
set_option maxHeartbeats 1000000 in
theorem wSyms (g : Nat) (l : List Int) (A : Option Addr) (c : Nat) (zs : List Sym) (w0 w : World) (hC : SymsAt w0 A zs) (hb0 : Below w0.heap.size w0 w) (hg0 : w0.heap.size ≤ g) (hK : ∀ i, i < zs.length → 0 ≤ sKind zs i ∧ sKind zs i < 128) (hn : zs.length ≤ 1048576) (hl : l.length + 4 + (zs.flatMap symB).length ≤ 1048576) (ho : OutAt w g l) :
    Calls Tryz.prog 122 #[.pointer (some ⟨g, 0, none⟩), .slice A zs.length c, .func (.func 123) #[.pointer (some ⟨g, 0, none⟩)] #[]] w (Puts g l (be4 zs.length ++ zs.flatMap symB) w) := by
  have hg := ho.lt
  go_enter Tryz.func122, Tryz.ntmps122
  go_wp2_with fail
  refine (wCount g l (zs.length : Int) (by omega) _ ho).mono ?_
  rintro r w1 ⟨rfl, h1, h2⟩
  have H2 : Hid _ := h2
  have H1 : Hid _ := h1
  clear h1 h2 ho
  go_wp2
  go_loopw [14] (fun i wr => ∃ k : Nat, i = .int .i64 k ∧ k ≤ zs.length ∧ OutAt wr g (l ++ be4 zs.length ++ (zs.take k).flatMap symB) ∧ OutTo g w wr) (fun i _ => zs.length - (intOf i).toNat)
  case atStart => exact ⟨0, rfl, Nat.zero_le _, by show OutAt _ _ (_ ++ []); rw [List.append_nil]; exact H1.out, H2.out⟩
  case round =>
    obtain ⟨k, rfl, hk, ho, ht⟩ := hrel
    by_cases hlt : k < zs.length
    · obtain ⟨a, rfl, c0, c1, c2⟩ := (hC.under hb0 hg0 (ht.below hg)) k hlt
      have d1 : _ = some (Value.int .i8 (sKind zs k)) := show World.cell? _ ⟨(a.add (k * 3)).block, (a.add (k * 3)).off + 1, none⟩ = _ from c1
      have d2 : _ = some (Value.int .i64 (sAt zs k)) := show World.cell? _ ⟨(a.add (k * 3)).block, (a.add (k * 3)).off + 2, none⟩ = _ from c2
      have HF : Hid ((zs.take (k + 1)).flatMap symB = (zs.take k).flatMap symB ++ symB ((sName zs k, sKind zs k, sAt zs k))) := flat_snoc symB zs symD k hlt
      have hlen : (l ++ be4 zs.length ++ (zs.take k).flatMap symB).length + (symB ((sName zs k, sKind zs k, sAt zs k))).length ≤ 1048576 := by
        have h5 := congrArg List.length HF.out
        have h6 := flat_take_le symB zs (k + 1)
        rw [List.length_append] at h5
        rw [List.length_append, len_app4]
        omega
      have hl2 : (symB (sName zs k, sKind zs k, sAt zs k)).length = (sName zs k).size + 12 := by unfold symB textB; simp [be4_len, strB_size]; omega
      have hk2 := hK k hlt
      have HT : Hid _ := ht
      have HO : Hid (OutAt wr g (l ++ be4 zs.length ++ (zs.take k).flatMap symB)) := ho
      clear ht ho
      go_wp2_with fail
      refine (wSymbol g (l ++ be4 zs.length ++ (zs.take k).flatMap symB) (sName zs k) (sKind zs k) (sAt zs k) (by omega) hk2 _ ?ho).mono ?_
      case ho => exact OutAt.keep HO.out (lb_alloc (Below.refl _ _) _)
      rintro r w2 ⟨rfl, h3, h4⟩
      have H3 : Hid _ := h3
      have H4 : Hid _ := h4
      clear h3 h4
      go_wp2
      go_roundw
      case rel => exact ⟨k + 1, by go_num, by omega, by rw [HF.out, ← List.append_assoc]; exact H3.out, HT.out.trans ((OutTo.of (lb_alloc (Below.refl _ _) _)).trans H4.out)⟩
      case measure => simp [intOf]; omega
    · go_wp2
      go_end0
      rw [List.take_of_length_le (by omega)] at ho
      exact ⟨rfl, by rw [← List.append_assoc]; exact ho, ht⟩

set_option maxRecDepth 100000 in
set_option maxHeartbeats 1000000 in
theorem wRels (g : Nat) (l : List Int) (A : Option Addr) (c : Nat) (zs : List Rel) (w0 w : World) (hC : RelsAt w0 A zs) (hb0 : Below w0.heap.size w0 w) (hg0 : w0.heap.size ≤ g) (hn : zs.length ≤ 1048576) (hl : l.length + 4 + (zs.flatMap relB).length ≤ 1048576) (ho : OutAt w g l) :
    Calls Tryz.prog 124 #[.pointer (some ⟨g, 0, none⟩), .slice A zs.length c, .func (.func 125) #[.pointer (some ⟨g, 0, none⟩)] #[]] w (Puts g l (be4 zs.length ++ zs.flatMap relB) w) := by
  have hg := ho.lt
  go_enter Tryz.func124, Tryz.ntmps124
  go_wp2_with fail
  refine (wCount g l (zs.length : Int) (by omega) _ ho).mono ?_
  rintro r w1 ⟨rfl, h1, h2⟩
  have H2 : Hid _ := h2
  have H1 : Hid _ := h1
  clear h1 h2 ho
  go_wp2
  go_loopw [14] (fun i wr => ∃ k : Nat, i = .int .i64 k ∧ k ≤ zs.length ∧ OutAt wr g (l ++ be4 zs.length ++ (zs.take k).flatMap relB) ∧ OutTo g w wr) (fun i _ => zs.length - (intOf i).toNat)
  case atStart => exact ⟨0, rfl, Nat.zero_le _, by show OutAt _ _ (_ ++ []); rw [List.append_nil]; exact H1.out, H2.out⟩
  case round =>
    obtain ⟨k, rfl, hk, ho, ht⟩ := hrel
    by_cases hlt : k < zs.length
    · obtain ⟨a, rfl, c0, c1⟩ := (hC.under hb0 hg0 (ht.below hg)) k hlt
      have d1 : _ = some (Value.int .i64 (rSym zs k)) := show World.cell? _ ⟨(a.add (k * 2)).block, (a.add (k * 2)).off + 1, none⟩ = _ from c1
      have HF : Hid ((zs.take (k + 1)).flatMap relB = (zs.take k).flatMap relB ++ relB ((rAt zs k, rSym zs k))) := flat_snoc relB zs (0, 0) k hlt
      have hlen : (l ++ be4 zs.length ++ (zs.take k).flatMap relB).length + (relB ((rAt zs k, rSym zs k))).length ≤ 1048576 := by
        have h5 := congrArg List.length HF.out
        have h6 := flat_take_le relB zs (k + 1)
        rw [List.length_append] at h5
        rw [List.length_append, len_app4]
        omega
      have hl2 : (relB (rAt zs k, rSym zs k)).length = 8 := rfl
      have HT : Hid _ := ht
      have HO : Hid (OutAt wr g (l ++ be4 zs.length ++ (zs.take k).flatMap relB)) := ho
      clear ht ho
      go_wp2_with fail
      refine (wReloc g (l ++ be4 zs.length ++ (zs.take k).flatMap relB) (rAt zs k) (rSym zs k) (by omega) _ ?ho).mono ?_
      case ho => exact OutAt.keep HO.out (lb_alloc (Below.refl _ _) _)
      rintro r w2 ⟨rfl, h3, h4⟩
      have H3 : Hid _ := h3
      have H4 : Hid _ := h4
      clear h3 h4
      go_wp2
      go_roundw
      case rel => exact ⟨k + 1, by go_num, by omega, by rw [HF.out, ← List.append_assoc]; exact H3.out, HT.out.trans ((OutTo.of (lb_alloc (Below.refl _ _) _)).trans H4.out)⟩
      case measure => simp [intOf]; omega
    · go_wp2
      go_end0
      rw [List.take_of_length_le (by omega)] at ho
      exact ⟨rfl, by rw [← List.append_assoc]; exact ho, ht⟩


end Go.Proofs.YthpkekpojhmaaaaGreatDoor

namespace Go.Proofs.YthpkekpojhmaaaaGreatDoor
open Go.RowKit


theorem box6_cell {w : World} {B : Nat} {x0 x1 x2 x3 x4 x5 : Value} {t : TypeId} (h : w.heap[B]? = some (.cells #[x0, x1, x2, x3, x4, x5] t (0, 0))) : w.cell? ⟨B, 0, none⟩ = some x0 ∧ w.cell? ⟨B, 1, none⟩ = some x1 ∧ w.cell? ⟨B, 2, none⟩ = some x2 ∧ w.cell? ⟨B, 3, none⟩ = some x3 ∧ w.cell? ⟨B, 4, none⟩ = some x4 ∧ w.cell? ⟨B, 5, none⟩ = some x5 := by
  refine ⟨?_, ?_, ?_, ?_, ?_, ?_⟩ <;> simp [World.cell?, h]
theorem be4_le (n : Int) : (be4 n).length = 4 := rfl
/-- An object's parts as bytes, one behind the other. -/
def part1 (nm : ByteArray) : List Int := [80, 76, 79, 49] ++ textB nm
def part2 (nm : ByteArray) (code : List Int) : List Int := part1 nm ++ (be4 code.length ++ code.flatMap be4)
def part3 (nm : ByteArray) (code : List Int) (dA : Int) : List Int := part2 nm code ++ be4 dA
def part4 (nm : ByteArray) (code : List Int) (dA : Int) (data : List Int) : List Int := part3 nm code dA ++ (be4 data.length ++ data.flatMap be8)
def part5 (nm : ByteArray) (code : List Int) (dA : Int) (data : List Int) (ss : List Sym) : List Int := part4 nm code dA data ++ (be4 ss.length ++ ss.flatMap symB)
def part6 (nm : ByteArray) (code : List Int) (dA : Int) (data : List Int) (ss : List Sym) (rs : List Rel) : List Int := part5 nm code dA data ss ++ (be4 rs.length ++ rs.flatMap relB)
theorem part6_body (nm : ByteArray) (code : List Int) (dA : Int) (data : List Int) (ss : List Sym) (rs : List Rel) : part6 nm code dA data ss rs = bodyB nm code dA data ss rs := by
  unfold part6 part5 part4 part3 part2 part1 bodyB
  simp only [List.append_assoc]
theorem part_lens (nm : ByteArray) (code : List Int) (dA : Int) (data : List Int) (ss : List Sym) (rs : List Rel) :
    (part1 nm).length = 8 + nm.size ∧ (part2 nm code).length = 12 + nm.size + code.length * 4 ∧ (part3 nm code dA).length = 16 + nm.size + code.length * 4 ∧ (part4 nm code dA data).length = 20 + nm.size + code.length * 4 + data.length * 8 ∧
    (part5 nm code dA data ss).length = 24 + nm.size + code.length * 4 + data.length * 8 + (ss.flatMap symB).length ∧ (bodyB nm code dA data ss rs).length = 28 + nm.size + code.length * 4 + data.length * 8 + (ss.flatMap symB).length + rs.length * 8 := by
  have h1 : (part1 nm).length = 8 + nm.size := by unfold part1 textB; simp [be4_len, strB_size]; omega
  have h2 : (part2 nm code).length = 12 + nm.size + code.length * 4 := by unfold part2; rw [List.length_append, List.length_append, h1, be4_le, flat_len be4 4 (fun _ => rfl)]; omega
  have h3 : (part3 nm code dA).length = 16 + nm.size + code.length * 4 := by unfold part3; rw [List.length_append, h2, be4_le]; omega
  have h4 : (part4 nm code dA data).length = 20 + nm.size + code.length * 4 + data.length * 8 := by unfold part4; rw [List.length_append, List.length_append, h3, be4_le, flat_len be8 8 (fun _ => rfl)]; omega
  have h5 : (part5 nm code dA data ss).length = 24 + nm.size + code.length * 4 + data.length * 8 + (ss.flatMap symB).length := by unfold part5; rw [List.length_append, List.length_append, h4, be4_le]; omega
  refine ⟨h1, h2, h3, h4, h5, ?_⟩
  rw [← part6_body]
  unfold part6
  rw [List.length_append, List.length_append, h5, be4_le, flat_len relB 8 (fun _ => rfl)]
  omega
set_option maxRecDepth 100000 in
set_option maxHeartbeats 2000000 in
theorem wObject (g : Nat) (nm : ByteArray) (dA : Int) (A1 A2 A3 A4 : Option Addr) (c1 c2 c3 c4 : Nat) (code data : List Int) (ss : List Sym) (rs : List Rel) (w0 w : World)
    (hC : IntsAt w0 A1 .u32 code) (hD : IntsAt w0 A2 .i64 data) (hS : SymsAt w0 A3 ss) (hL : RelsAt w0 A4 rs) (hR : ∀ i, i < code.length → 0 ≤ nth code i ∧ nth code i < 4294967296) (hK : ∀ i, i < ss.length → 0 ≤ sKind ss i ∧ sKind ss i < 128)
    (hb0 : Below w0.heap.size w0 w) (hg0 : w0.heap.size ≤ g) (hl : (bodyB nm code dA data ss rs).length ≤ 1048576) (hn3 : ss.length ≤ 1048576) (hv : w.heap[g]? = some (.cells #[.slice none 0 0] 149 (0, 0))) :
    Calls Tryz.prog 83 #[.pointer (some ⟨g, 0, none⟩), .agg #[.string nm, .slice A1 code.length c1, .int .i64 dA, .slice A2 data.length c2, .slice A3 ss.length c3, .slice A4 rs.length c4]] w (Puts g [] (bodyB nm code dA data ss rs) w) := by
  obtain ⟨i0, hi, hz0, hz1, hz2⟩ := info5
  obtain ⟨p1, p2, p3, p4, p5, p6⟩ := part_lens nm code dA data ss rs
  have hg : g < w.heap.size := (Array.getElem?_eq_some_iff.1 hv).1
  have hB := lb_alloc (Below.refl w.heap.size w) (.cells #[.string nm, .slice A1 code.length c1, .int .i64 dA, .slice A2 data.length c2, .slice A3 ss.length c3, .slice A4 rs.length c4] 75)
  have hv1 : Hid ((w.alloc (.cells #[.string nm, .slice A1 code.length c1, .int .i64 dA, .slice A2 data.length c2, .slice A3 ss.length c3, .slice A4 rs.length c4] 75)).heap[g]? = some (.cells #[.slice none 0 0] 149 (0, 0))) := by
    show _ = _
    rw [hB.block g hg]; exact hv
  have hbx : Hid ((w.alloc (.cells #[.string nm, .slice A1 code.length c1, .int .i64 dA, .slice A2 data.length c2, .slice A3 ss.length c3, .slice A4 rs.length c4] 75)).heap[w.heap.size]? = some (.cells #[.string nm, .slice A1 code.length c1, .int .i64 dA, .slice A2 data.length c2, .slice A3 ss.length c3, .slice A4 rs.length c4] 75 (0, 0))) := heap_alloc_new _ _
  have HB : Hid _ := hB
  clear hB
  have hcell := (box_cell hv).1
  have hfro := (box_cell hv).2
  have hr := World.ownsRow_nil (w.alloc (.cells #[.string nm, .slice A1 code.length c1, .int .i64 dA, .slice A2 data.length c2, .slice A3 ss.length c3, .slice A4 rs.length c4] 75)) (g + 1) 5 1
  have HS4 : Hid ([] ++ Lib.strCells ⟨#[80, 76, 79, 49]⟩ = bNews [80, 76, 79, 49]) := rfl
  clear hv
  go_enter Tryz.func83, Tryz.ntmps83
  go_upto_region 2 with (at_builtin; refine Lib.wpList_append_own_string _ rfl (.tmp 8) _ 86 9 rfl (g + 1) 5 i0 Tryz.underlying86 Tryz.underlying9 hi hz0 hz1 hz2 (.slice none 0 0) 0 [] rfl hr ⟨#[80, 76, 79, 49]⟩ rfl (by unfold maxLen; decide) (by decide) (by simp; omega) ?_; intro v' w' hown hgrow hnil; obtain ⟨hcell', hfro'⟩ := box_grown hv1.out hr hgrow; have HO : Hid _ := hown; have HG : Hid _ := hgrow; obtain ⟨A', n', c', rfl⟩ := slice_form hown; clear hown hgrow hnil)
  have hq : w'.ownsRow (g + 1) 5 1 (.slice A' n' c') 4 (bNews [80, 76, 79, 49]) := by rw [← HS4.out]; exact HO.out
  obtain ⟨h1, q2⟩ := out_grown hv1.out hr HG.out hq rfl
  have b1 : Hid _ := OutTo.box q2 hbx.out (by decide) (by omega)
  have T1 : Hid _ := (OutTo.of (g := g) HB.out).trans q2
  have x1 : Hid _ := hb0.trans ((OutTo.below hg T1.out).mono hg0)
  clear q2 hq HO HG hcell' hfro' hcell hfro hr HS4 HB
  generalize w'.setCell ⟨g, 0, none⟩ (.slice A' n' c') = w1 at *
  obtain ⟨d0, d1, d2, d3, d4, d5⟩ := box6_cell b1.out
  go_wp2_with fail
  refine (wText g [80, 76, 79, 49] nm (by simp; omega) _ h1).mono ?_
  rintro r w2 ⟨rfl, h2, t2⟩
  have h2 : OutAt w2 g (part1 nm) := h2
  have b2 : Hid _ := OutTo.box t2 b1.out (by decide) (by omega)
  have T2 : Hid _ := T1.out.trans t2
  have x2 : Hid _ := hb0.trans ((OutTo.below hg T2.out).mono hg0)
  obtain ⟨d0, d1, d2, d3, d4, d5⟩ := box6_cell b2.out
  clear t2 h1
  go_wp2_with fail
  refine (wWords g (part1 nm) A1 c1 code w0 _ hC x2.out hg0 hR (by omega) h2).mono ?_
  rintro r w3 ⟨rfl, h3, t3⟩
  have h3 : OutAt w3 g (part2 nm code) := h3
  have b3 : Hid _ := OutTo.box t3 b2.out (by decide) (by omega)
  have T3 : Hid _ := T2.out.trans t3
  have x3 : Hid _ := hb0.trans ((OutTo.below hg T3.out).mono hg0)
  obtain ⟨d0, d1, d2, d3, d4, d5⟩ := box6_cell b3.out
  clear t3 h2
  go_wp2_with fail
  refine (wCount g (part2 nm code) dA (by omega) _ h3).mono ?_
  rintro r w4 ⟨rfl, h4, t4⟩
  have h4 : OutAt w4 g (part3 nm code dA) := h4
  have b4 : Hid _ := OutTo.box t4 b3.out (by decide) (by omega)
  have T4 : Hid _ := T3.out.trans t4
  have x4 : Hid _ := hb0.trans ((OutTo.below hg T4.out).mono hg0)
  obtain ⟨d0, d1, d2, d3, d4, d5⟩ := box6_cell b4.out
  clear t4 h3
  go_wp2_with fail
  refine (wLongs g (part3 nm code dA) A2 c2 data w0 _ hD x4.out hg0 (by omega) h4).mono ?_
  rintro r w5 ⟨rfl, h5, t5⟩
  have h5 : OutAt w5 g (part4 nm code dA data) := h5
  have b5 : Hid _ := OutTo.box t5 b4.out (by decide) (by omega)
  have T5 : Hid _ := T4.out.trans t5
  have x5 : Hid _ := hb0.trans ((OutTo.below hg T5.out).mono hg0)
  obtain ⟨d0, d1, d2, d3, d4, d5⟩ := box6_cell b5.out
  clear t5 h4
  go_wp2_with fail
  refine (wSyms g (part4 nm code dA data) A3 c3 ss w0 _ hS x5.out hg0 hK hn3 (by omega) h5).mono ?_
  rintro r w6 ⟨rfl, h6, t6⟩
  have h6 : OutAt w6 g (part5 nm code dA data ss) := h6
  have b6 : Hid _ := OutTo.box t6 b5.out (by decide) (by omega)
  have T6 : Hid _ := T5.out.trans t6
  have x6 : Hid _ := hb0.trans ((OutTo.below hg T6.out).mono hg0)
  obtain ⟨d0, d1, d2, d3, d4, d5⟩ := box6_cell b6.out
  clear t6 h5
  go_wp2_with fail
  refine (wRels g (part5 nm code dA data ss) A4 c4 rs w0 _ hL x6.out hg0 (by omega) (by rw [flat_len relB 8 (fun _ => rfl)]; omega) h6).mono ?_
  rintro r w7 ⟨rfl, h7, t7⟩
  have h7 : OutAt w7 g (part6 nm code dA data ss rs) := h7
  have b7 : Hid _ := OutTo.box t7 b6.out (by decide) (by omega)
  have T7 : Hid _ := T6.out.trans t7
  have x7 : Hid _ := hb0.trans ((OutTo.below hg T7.out).mono hg0)
  obtain ⟨d0, d1, d2, d3, d4, d5⟩ := box6_cell b7.out
  clear t7 h6
  go_wp2
  go_end0
  rw [part6_body] at h7
  exact ⟨rfl, h7, T7.out⟩


end Go.Proofs.YthpkekpojhmaaaaGreatDoor

namespace Go.Proofs.YthpkekpojhmaaaaGreatDoor
open Go.RowKit

theorem sum_step (b : List Int) (k : Nat) (h : k < b.length) : sumB (b.take (k + 1)) = (31 * sumB (b.take k) + nth b k) % 4294967296 := by
  rw [List.take_succ_eq_append_getElem h]
  unfold sumB
  rw [List.foldl_append]
  simp [nth, List.getD, h]

end Go.Proofs.YthpkekpojhmaaaaGreatDoor

namespace Go.Proofs.YthpkekpojhmaaaaGreatDoor
open Go.RowKit

theorem first_zero {n : Nat} {f : Nat → Int} (h : (firstOf n f).1 = 0) : ∀ j, j < n → f j = 0 := by
  intro j hj
  unfold firstOf at h
  cases hf : (List.range n).find? (fun k => f k != 0) with
  | none =>
    rw [List.find?_eq_none] at hf
    simpa using hf j (by simpa using hj)
  | some k =>
    rw [hf] at h
    have := List.find?_some hf
    simp at this
    exact absurd h this
/-- An object's sizes may be. -/
def SizeOK (nm : ByteArray) (nc ns nr nd : Nat) (dA : Int) : Prop := nameOK nm = true ∧ nc ≤ 16384 ∧ ns ≤ 256 ∧ nr ≤ nc ∧ 0 ≤ dA ∧ dA ≤ 4096 ∧ (nd : Int) ≤ 4096 - dA
theorem size_ok {nm : ByteArray} {nc ns nr nd : Nat} {dA : Int} (h : SizeOK nm nc ns nr nd dA) : sizeC (nameOK nm) nc ns nr nd dA = (0, 0) := by
  obtain ⟨h1, h2, h3, h4, h5, h6, h7⟩ := h
  unfold sizeC
  rw [if_neg (by rw [h1]; simp), if_neg (by omega), if_neg (by omega), if_neg (by omega), if_neg (by omega)]
theorem ok_size {nm : ByteArray} {nc ns nr nd : Nat} {dA : Int} (h : (sizeC (nameOK nm) nc ns nr nd dA).1 = 0) : SizeOK nm nc ns nr nd dA := by
  unfold sizeC at h
  by_cases h1 : nameOK nm = false
  · rw [if_pos h1] at h; simp at h
  rw [if_neg h1] at h
  by_cases h2 : 16384 < nc
  · rw [if_pos h2] at h; simp at h
  rw [if_neg h2] at h
  by_cases h3 : 256 < ns
  · rw [if_pos h3] at h; simp at h
  rw [if_neg h3] at h
  by_cases h4 : nc < nr
  · rw [if_pos h4] at h; simp at h
  rw [if_neg h4] at h
  by_cases h5 : dA < 0 ∨ 4096 < dA ∨ 4096 - dA < (nd : Int)
  · rw [if_pos h5] at h; simp at h
  exact ⟨by simpa using h1, by omega, by omega, by omega, by omega, by omega, by omega⟩
/-- An object may be. -/
def MayBe (nm : ByteArray) (code : List Int) (dA : Int) (nd : Nat) (ss : List Sym) (rs : List Rel) : Prop :=
  SizeOK nm code.length ss.length rs.length nd dA ∧ (∀ j, j < ss.length → symE ss code.length j = 0) ∧ (∀ j, j < rs.length → relE rs code ss.length j = 0) ∧ ∀ j, j < code.length → codE code j = 0
theorem may_check {nm : ByteArray} {code : List Int} {dA : Int} {nd : Nat} {ss : List Sym} {rs : List Rel} (h : MayBe nm code dA nd ss rs) : checkC nm code dA nd ss rs = (0, 0) := by
  obtain ⟨h1, h2, h3, h4⟩ := h
  have e1 := size_ok h1
  have e2 : symC ss code.length = (0, 0) := first_none h2
  have e3 : relC rs code ss.length = (0, 0) := first_none h3
  have e4 : codC code = (0, 0) := by unfold codC; rw [first_none h4]; rfl
  unfold checkC
  rw [e1, e2, e3, e4]; simp
theorem check_may {nm : ByteArray} {code : List Int} {dA : Int} {nd : Nat} {ss : List Sym} {rs : List Rel} (h : (checkC nm code dA nd ss rs).1 = 0) : MayBe nm code dA nd ss rs := by
  unfold checkC at h
  by_cases h1 : (sizeC (nameOK nm) code.length ss.length rs.length nd dA).1 = 0
  · rw [if_neg (by simpa using h1)] at h
    by_cases h2 : (symC ss code.length).1 = 0
    · rw [if_neg (by simpa using h2)] at h
      by_cases h3 : (relC rs code ss.length).1 = 0
      · rw [if_neg (by simpa using h3)] at h
        refine ⟨ok_size h1, first_zero h2, first_zero h3, ?_⟩
        unfold codC at h
        by_cases h4 : (firstOf code.length (codE code)).1 = 0
        · exact first_zero h4
        · rw [if_neg h4] at h; simp at h
      · rw [if_pos h3] at h; exact absurd h h3
    · rw [if_pos h2] at h; exact absurd h h2
  · rw [if_pos h1] at h; exact absurd h h1
theorem sym_parts {ss : List Sym} {nc k : Nat} : symE ss nc k = 0 ↔ nameOK (sName ss k) = true ∧ ofS ss (sName ss k) = k ∧ 0 ≤ sKind ss k ∧ sKind ss k ≤ 3 ∧ 0 ≤ sAt ss k ∧ sAt ss k ≤ nc ∧ (sKind ss k = 3 → sAt ss k = 0) := by
  unfold symE
  constructor
  · intro h
    by_cases h1 : nameOK (sName ss k) = false
    · rw [if_pos h1] at h; simp at h
    rw [if_neg h1] at h
    by_cases h2 : ¬ ofS ss (sName ss k) = k
    · rw [if_pos h2] at h; simp at h
    rw [if_neg h2] at h
    by_cases h3 : sKind ss k < 0 ∨ 3 < sKind ss k
    · rw [if_pos h3] at h; simp at h
    rw [if_neg h3] at h
    by_cases h4 : sAt ss k < 0 ∨ (nc : Int) < sAt ss k ∨ (sKind ss k = 3 ∧ ¬ sAt ss k = 0)
    · rw [if_pos h4] at h; simp at h
    exact ⟨by simpa using h1, by simpa using h2, by omega, by omega, by omega, by omega, by omega⟩
  · rintro ⟨h1, h2, h3, h4, h5, h6, h7⟩
    rw [if_neg (by rw [h1]; simp), if_neg (by simpa using h2), if_neg (by omega), if_neg (by omega)]
theorem rel_parts {rs : List Rel} {code : List Int} {ns k : Nat} : relE rs code ns k = 0 ↔ 0 ≤ rAt rs k ∧ rAt rs k < code.length ∧ (0 < k → rAt rs (k - 1) < rAt rs k) ∧ 0 ≤ rSym rs k ∧ rSym rs k < ns ∧ isT (nth code (rAt rs k).toNat) = true ∧ tgV (nth code (rAt rs k).toNat) = 0 := by
  unfold relE
  constructor
  · intro h
    by_cases h1 : rAt rs k < 0 ∨ (code.length : Int) ≤ rAt rs k ∨ (0 < k ∧ rAt rs k ≤ rAt rs (k - 1)) ∨ rSym rs k < 0 ∨ (ns : Int) ≤ rSym rs k
    · rw [if_pos h1] at h; simp at h
    rw [if_neg h1] at h
    by_cases h2 : isT (nth code (rAt rs k).toNat) = false ∨ ¬ tgV (nth code (rAt rs k).toNat) = 0
    · rw [if_pos h2] at h; simp at h
    have h3 : isT (nth code (rAt rs k).toNat) = true := by
      cases e : isT (nth code (rAt rs k).toNat)
      · exact absurd (Or.inl e) h2
      · rfl
    have h4 : tgV (nth code (rAt rs k).toNat) = 0 := Classical.byContradiction fun e => h2 (Or.inr e)
    exact ⟨by omega, by omega, by omega, by omega, by omega, h3, h4⟩
  · rintro ⟨h1, h2, h3, h4, h5, h6, h7⟩
    rw [if_neg (by omega), if_neg (by rw [h6, h7]; simp)]
theorem cod_parts {code : List Int} {k : Nat} : codE code k = 0 ↔ (isT (nth code k) = true → tgV (nth code k) ≤ code.length) := by
  unfold codE
  constructor
  · intro h hT
    by_cases h1 : isT (nth code k) = true ∧ (code.length : Int) < tgV (nth code k)
    · rw [if_pos h1] at h; simp at h
    · have : ¬ (code.length : Int) < tgV (nth code k) := fun e => h1 ⟨hT, e⟩
      omega
  · intro h
    rw [if_neg]
    rintro ⟨h1, h2⟩
    have := h h1
    omega
/-- The relocations' places rise: each is found by its own. -/
theorem rel_rise {rs : List Rel} {code : List Int} {ns : Nat} (h : ∀ j, j < rs.length → relE rs code ns j = 0) : ∀ k i, i < k → k < rs.length → rAt rs i < rAt rs k := by
  intro k
  induction k with
  | zero => intro i hi; omega
  | succ k ih =>
    intro i hi hk
    have h1 := ((rel_parts.1 (h (k + 1) hk)).2.2.1) (by omega)
    rw [Nat.add_sub_cancel] at h1
    by_cases e : i = k
    · subst e; exact h1
    · have := ih i (by omega) (by omega); omega
theorem at_found {rs : List Rel} {k : Nat} {p : Int} (hk : k < rs.length) (e : rAt rs k = p) (h : ∀ i, i < k → ¬ rAt rs i = p) : atR rs p = k := by
  have step : ∀ j, j ≤ k → atFrom (rs.drop j) p j = k := by
    intro j hj
    induction hd : k - j generalizing j with
    | zero =>
      have : j = k := by omega
      subst this
      exact at_hit hk (by simpa using e)
    | succ d ih =>
      rw [at_miss (by omega) (by simpa using h j (by omega))]
      exact ih (j + 1) (by omega) (by omega)
  have := step 0 (by omega)
  simpa [atR] using this
theorem finds_at {rs : List Rel} {code : List Int} {ns : Nat} (h : ∀ j, j < rs.length → relE rs code ns j = 0) (k : Nat) (hk : k < rs.length) : atR rs (rAt rs k) = k :=
  at_found hk rfl fun i hi => by have := rel_rise h k i hi hk; omega
theorem nth_app {code : List Int} {x : Int} {i : Nat} (h : i < code.length) : nth (code ++ [x]) i = nth code i := by simp [nth, List.getD, h, List.getElem?_append_left h]
theorem nth_last {code : List Int} {x : Int} : nth (code ++ [x]) code.length = x := by simp [nth, List.getD]
theorem may_word {nm : ByteArray} {code : List Int} {dA : Int} {nd : Nat} {ss : List Sym} {rs : List Rel} (h : MayBe nm code dA nd ss rs) (hl : code.length < 16384) : MayBe nm (code ++ [1]) dA nd ss rs := by
  obtain ⟨⟨a1, a2, a3, a4, a5, a6, a7⟩, h2, h3, h4⟩ := h
  have hlen : (code ++ [1]).length = code.length + 1 := by simp
  refine ⟨⟨a1, by omega, a3, by omega, a5, a6, a7⟩, fun j hj => ?_, fun j hj => ?_, fun j hj => ?_⟩
  · obtain ⟨b1, b2, b3, b4, b5, b6, b7⟩ := sym_parts.1 (h2 j hj)
    exact sym_parts.2 ⟨b1, b2, b3, b4, b5, by rw [hlen]; omega, b7⟩
  · obtain ⟨b1, b2, b3, b4, b5, b6, b7⟩ := rel_parts.1 (h3 j hj)
    have e : nth (code ++ [1]) (rAt rs j).toNat = nth code (rAt rs j).toNat := nth_app (by omega)
    exact rel_parts.2 ⟨b1, by rw [hlen]; omega, b3, b4, b5, by rw [e]; exact b6, by rw [e]; exact b7⟩
  · by_cases e : j < code.length
    · have k := cod_parts.1 (h4 j e)
      refine cod_parts.2 fun hT => ?_
      rw [nth_app e] at hT ⊢
      have := k hT
      rw [hlen]; omega
    · have : j = code.length := by omega
      subst this
      refine cod_parts.2 fun hT => ?_
      rw [nth_last] at hT
      exact absurd hT (by decide +kernel)
theorem rAt_take {rs : List Rel} {n i : Nat} (h : i < n) : rAt (rs.take n) i = rAt rs i := by simp [rAt, List.getD, h]
theorem rSym_take {rs : List Rel} {n i : Nat} (h : i < n) : rSym (rs.take n) i = rSym rs i := by simp [rSym, List.getD, h]
theorem may_less {nm : ByteArray} {code : List Int} {dA : Int} {nd : Nat} {ss : List Sym} {rs : List Rel} (h : MayBe nm code dA nd ss rs) (n : Nat) (hn : n ≤ rs.length) : MayBe nm code dA nd ss (rs.take n) := by
  obtain ⟨⟨a1, a2, a3, a4, a5, a6, a7⟩, h2, h3, h4⟩ := h
  have hlen : (rs.take n).length = n := by rw [List.length_take, Nat.min_eq_left hn]
  refine ⟨⟨a1, a2, a3, by omega, a5, a6, a7⟩, h2, fun j hj => ?_, h4⟩
  rw [hlen] at hj
  obtain ⟨b1, b2, b3, b4, b5, b6, b7⟩ := rel_parts.1 (h3 j (by omega))
  rw [rel_parts, rAt_take hj, rSym_take hj, rAt_take (show j - 1 < n by omega)]
  exact ⟨b1, b2, b3, b4, b5, b6, b7⟩
theorem rels_take {w : World} {O : Option Addr} {rs : List Rel} (h : RelsAt w O rs) (n : Nat) (hn : n ≤ rs.length) : RelsAt w O (rs.take n) := fun i hi => by
  have hi' : i < n := by rw [List.length_take, Nat.min_eq_left hn] at hi; exact hi
  rw [rAt_take hi', rSym_take hi']
  exact h i (by omega)
theorem of_app (s : ByteArray) (t : List Sym) : ∀ (l : List Sym) (k : Nat), ¬ ofFrom l s k = -1 → ofFrom (l ++ t) s k = ofFrom l s k
  | [], k, h => absurd rfl h
  | x :: l, k, h => by
    rw [List.cons_append, ofFrom, ofFrom]
    rw [ofFrom] at h
    by_cases e : (x.1.toList == s.toList) = true
    · rw [if_pos e, if_pos e]
    · rw [if_neg e] at h
      rw [if_neg e, if_neg e]
      exact of_app s t l (k + 1) h
theorem s_app {ss : List Sym} {x : Sym} {i : Nat} (h : i < ss.length) : (ss ++ [x]).getD i symD = ss.getD i symD := by simp [List.getD, h, List.getElem?_append_left h]
theorem s_last {ss : List Sym} {x : Sym} : (ss ++ [x]).getD ss.length symD = x := by simp [List.getD]
theorem twice_check {nm : ByteArray} {code : List Int} {dA : Int} {nd : Nat} {ss : List Sym} {rs : List Rel} (h : MayBe nm code dA nd ss rs) (p : Nat) (hp : p < ss.length) (hl : ss.length < 256) : checkC nm code dA nd (ss ++ [ss.getD p symD]) rs = (26, (ss.length : Int)) := by
  obtain ⟨⟨a1, a2, a3, a4, a5, a6, a7⟩, h2, h3, h4⟩ := h
  have hlen : (ss ++ [ss.getD p symD]).length = ss.length + 1 := by simp
  have e1 : sizeC (nameOK nm) code.length (ss ++ [ss.getD p symD]).length rs.length nd dA = (0, 0) := size_ok ⟨a1, a2, by omega, a4, a5, a6, a7⟩
  have hof : ∀ j, j < ss.length → ofS (ss ++ [ss.getD p symD]) (sName ss j) = j := fun j hj => by
    obtain ⟨_, b2, _⟩ := sym_parts.1 (h2 j hj)
    have : ¬ ofFrom ss (sName ss j) 0 = -1 := by have e : ofFrom ss (sName ss j) 0 = j := b2; rw [e]; omega
    unfold ofS
    rw [of_app _ _ _ _ this]; exact b2
  have z : ∀ j, j < ss.length → symE (ss ++ [ss.getD p symD]) code.length j = 0 := fun j hj => by
    obtain ⟨b1, b2, b3, b4, b5, b6, b7⟩ := sym_parts.1 (h2 j hj)
    have g := s_app (x := ss.getD p symD) hj
    have g1 : sName (ss ++ [ss.getD p symD]) j = sName ss j := by unfold sName; rw [g]
    have g2 : sKind (ss ++ [ss.getD p symD]) j = sKind ss j := by unfold sKind; rw [g]
    have g3 : sAt (ss ++ [ss.getD p symD]) j = sAt ss j := by unfold sAt; rw [g]
    rw [sym_parts, g1, g2, g3]
    exact ⟨b1, hof j hj, b3, b4, b5, b6, b7⟩
  have y : symE (ss ++ [ss.getD p symD]) code.length ss.length = 26 := by
    have g1 : sName (ss ++ [ss.getD p symD]) ss.length = sName ss p := by unfold sName; rw [s_last]
    obtain ⟨b1, _⟩ := sym_parts.1 (h2 p hp)
    unfold symE
    rw [g1, if_neg (by rw [b1]; simp), if_pos (by rw [hof p hp]; omega)]
  have e2 : symC (ss ++ [ss.getD p symD]) code.length = (26, (ss.length : Int)) := by
    unfold symC
    rw [first_hit (k := ss.length) (by omega) z (by rw [y]; omega), y]
  unfold checkC
  rw [e1, e2]; simp
theorem may_names {nm : ByteArray} {code : List Int} {dA : Int} {nd : Nat} {ss : List Sym} {rs : List Rel} (h : MayBe nm code dA nd ss rs) (i : Nat) (hi : i < ss.length) : ofS ss (sName ss i) = i ∧ nameOK (sName ss i) = true := by
  obtain ⟨b1, b2, _⟩ := sym_parts.1 (h.2.1 i hi)
  exact ⟨b2, b1⟩
theorem may_at {nm : ByteArray} {code : List Int} {dA : Int} {nd : Nat} {ss : List Sym} {rs : List Rel} (h : MayBe nm code dA nd ss rs) (i : Nat) (hi : i < rs.length) : atR rs (rAt rs i) = i := finds_at h.2.2.1 i hi






end Go.Proofs.YthpkekpojhmaaaaGreatDoor

namespace Go.Proofs.YthpkekpojhmaaaaGreatDoor
open Go.RowKit


theorem name_size {s : ByteArray} (h : nameOK s = true) : s.size ≤ 24 := by
  unfold nameOK at h
  have e : s.size = s.data.toList.length := by rw [Array.length_toList]; rfl
  rw [e]
  split at h
  · cases h
  · next c l hs =>
    rw [hs]
    simp at h
    simp
    omega
structure Fit (nm : ByteArray) (code : List Int) (dA : Int) (nd : Nat) (ss : List Sym) (rs : List Rel) : Prop where
  hnm : nm.size ≤ 24
  hcode : code.length ≤ 16384
  hdata : nd ≤ 4096
  hsyms : ss.length ≤ 256
  hrels : rs.length ≤ code.length
  hdA : 0 ≤ dA ∧ dA ≤ 4096
  sym : ∀ i, i < ss.length → (sName ss i).size ≤ 24 ∧ 0 ≤ sKind ss i ∧ sKind ss i ≤ 3 ∧ 0 ≤ sAt ss i ∧ sAt ss i ≤ 16384
  rel : ∀ i, i < rs.length → 0 ≤ rAt rs i ∧ rAt rs i < 16384 ∧ 0 ≤ rSym rs i ∧ rSym rs i < 256
theorem may_fit {nm : ByteArray} {code : List Int} {dA : Int} {nd : Nat} {ss : List Sym} {rs : List Rel} (h : MayBe nm code dA nd ss rs) : Fit nm code dA nd ss rs := by
  obtain ⟨⟨h1, h2, h3, h4, h5, h6, h7⟩, hs, hr, _⟩ := h
  refine ⟨name_size h1, h2, by omega, h3, h4, ⟨h5, h6⟩, fun i hi => ?_, fun i hi => ?_⟩
  · obtain ⟨a, _, b, c, d, e, _⟩ := sym_parts.1 (hs i hi)
    exact ⟨name_size a, b, c, d, by omega⟩
  · obtain ⟨a, b, _, c, d, _⟩ := rel_parts.1 (hr i hi)
    exact ⟨a, by omega, c, by omega⟩
theorem syms_size (ss : List Sym) (h : ∀ x ∈ ss, x.1.size ≤ 24) : (ss.flatMap symB).length ≤ ss.length * 36 := by
  induction ss with
  | nil => simp
  | cons x l ih =>
    have h1 := h x (by simp)
    have h2 := ih fun y hy => h y (by simp [hy])
    have h3 : (symB x).length = x.1.size + 12 := by
      unfold symB textB strB
      rw [List.length_append, List.length_append, List.length_append, List.length_map, be4_len, be4_len, be4_len, Array.length_toList]
      show 4 + x.1.size + 4 + 4 = _
      omega
    rw [List.flatMap_cons, List.length_append, h3, List.length_cons]
    omega
theorem syms_mem {ss : List Sym} (h : ∀ i, i < ss.length → (sName ss i).size ≤ 24) : ∀ x ∈ ss, x.1.size ≤ 24 := fun x hx => by
  obtain ⟨i, hi, e⟩ := List.getElem_of_mem hx
  have := h i hi
  simpa [sName, List.getD, hi, e] using this


end Go.Proofs.YthpkekpojhmaaaaGreatDoor
