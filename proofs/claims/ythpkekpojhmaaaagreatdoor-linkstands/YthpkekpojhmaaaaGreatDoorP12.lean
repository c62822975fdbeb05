/-
  Ends, Falls, Target and Aim of package isa, each by what it returns; a word is of 32 bits. Package object: what is asked of the relocations, and which places are marked; the list is at most 2^20 long, the code at most 2^14, words of 32 bits. Which names were met, as a map reads; no Go in sight. Package object: what is asked of the symbols; the list is at most 2^20 long, its names at most 2^47 bytes.
-/
import Derived.Test.YthpkekpojhmaaaaGreatDoorProg
import Derived.Test.YthpkekpojhmaaaaGreatDoorP11
import Derived.WalkKit
import Derived.WalkSpells
import Derived.WalkLawsBesides
import Derived.RowKit3
import Derived.Below
import Derived.Deep.QuietTactic
import Derived.BigQuiet
import Derived.WalkSmall
import Derived.Deep.DeepCutAuto
import Derived.Test.YthpkekpojhmaaaaGreatDoorP02
import Derived.Maps.OwnSet
import Derived.Maps.Own
import Derived.Deep.RegionHeld3
import Derived.Test.YthpkekpojhmaaaaGreatDoorP09
import Derived.Test.YthpkekpojhmaaaaGreatDoorP08
namespace Go.Proofs.YthpkekpojhmaaaaGreatDoor
open Go.RowKit

theorem dOp_le {v : Int} (h1 : v < 4294967296) : dOp v ≤ 31 := by
  unfold dOp wOp; split <;> omega
theorem isT_hP (v : Int) : isT v = hP (dOp v) := by
  unfold isT
  cases h : hP (dOp v)
  · simp
  · unfold hP at h
    simp at h
    rw [decide_eq_true (by omega)]; rfl
theorem isatarget_any (v : Int) (h0 : 0 ≤ v) (h1 : v < 4294967296) (w : World) : Calls Tryz.prog 25 #[.int .u32 v] w fun e w' => e = .returned (.tuple #[.int .i64 (tgV v), .bool (isT v)]) ∧ Below w.heap.size w w' := by
  have h := target_of v _ _ _ _ _ _ _ _ _ _ w (isadecode_any v h0 h1) (isahas_any (dOp v) (by have := dOp_le h1; omega))
  rw [← isT_hP] at h
  exact h
theorem aim_no {v p : Int} (hT : isT v = true) (hp : ¬ (0 ≤ p ∧ p < 16384)) : encV (dOp v) (dD v) (dA v) (dB v) p = 0 ∧ encE (dOp v) (dD v) (dA v) (dB v) p = 11 := by
  rw [isT_hP] at hT
  have hN := hP_hN _ hT
  have hr : ¬ (dOp v < 0 ∨ 21 < dOp v) := by unfold hP at hT; simp at hT; omega
  refine encE_no hr ?_
  unfold insOK numOK
  rw [hT, hN, decide_eq_false hp]
  simp





end Go.Proofs.YthpkekpojhmaaaaGreatDoor

namespace Go.Proofs.YthpkekpojhmaaaaGreatDoor
open Go.RowKit

set_option maxRecDepth 100000 in
set_option maxHeartbeats 4000000 in
theorem askrels_any (nm : ByteArray) (dA : Int) (A1 A2 A3 A : Option Addr) (c1 nd c2 ns c3 c4 : Nat) (code : List Int) (zs : List Rel) (g : Nat) (m0 : Nat → Bool) (w0 w : World) (hC : IntsAt w0 A1 .u32 code) (hR : ∀ i, i < code.length → 0 ≤ nth code i ∧ nth code i < 4294967296) (hA : RelsAt w0 A zs) (hb0 : Below w0.heap.size w0 w) (hg0 : w0.heap.size ≤ g) (hz : zs.length ≤ 1048576) (hc : code.length ≤ 16384) (hm : MarksAt w g m0) (hs : Safe code m0) :
    Calls Tryz.prog 161 #[.agg #[.string nm, .slice A1 code.length c1, .int .i64 dA, .slice A2 nd c2, .slice A3 ns c3, .slice A zs.length c4], .pointer (some ⟨g, 0, none⟩)] w fun e w' => e = .returned (.tuple #[.int .i64 (relC zs code ns).1, .int .i64 (relC zs code ns).2]) ∧ But g w w' ∧ ∃ m, MarksAt w' g m ∧ Safe code m := by
  have hgl : g < w.heap.size := World.block_lt_of_cell? w _ (hm.1 0 (by omega))
  have hgn : w.heap.size ≠ g := by omega
  go_enter Tryz.func161, Tryz.ntmps161
  go_wp2
  go_loopw [14, 6] (fun i ah wr => ∃ (k : Nat) (m : Nat → Bool), i = .int .i64 k ∧ k ≤ zs.length ∧ ah = .int .i64 (aheadV zs k) ∧ But g (w.alloc (.cells #[.string nm, .slice A1 code.length c1, .int .i64 dA, .slice A2 nd c2, .slice A3 ns c3, .slice A zs.length c4] 75)) wr ∧ MarksAt wr g m ∧ Hid (Safe code m) ∧ Hid (∀ j, j < k → relE zs code ns j = 0)) (fun i _ _ => zs.length - (intOf i).toNat)
  case atStart => exact ⟨0, m0, rfl, by omega, rfl, But.refl _ _, hm.keep (lb_alloc (Below.refl _ _) _), hs, fun j hj => by omega⟩
  case round =>
    obtain ⟨k, m, rfl, hk, rfl, hB, hM, HS, HT⟩ := hrel
    rename_i wr _
    have f0 : wr.cell? ⟨w.heap.size, 0, none⟩ = some (.string nm) := hB.cell hgn (by simp [go_sem])
    have f1 : wr.cell? ⟨w.heap.size, 1, none⟩ = some (.slice A1 code.length c1) := hB.cell hgn (by simp [go_sem])
    have f2 : wr.cell? ⟨w.heap.size, 2, none⟩ = some (.int .i64 dA) := hB.cell hgn (by simp [go_sem])
    have f3 : wr.cell? ⟨w.heap.size, 3, none⟩ = some (.slice A2 nd c2) := hB.cell hgn (by simp [go_sem])
    have f4 : wr.cell? ⟨w.heap.size, 4, none⟩ = some (.slice A3 ns c3) := hB.cell hgn (by simp [go_sem])
    have f5 : wr.cell? ⟨w.heap.size, 5, none⟩ = some (.slice A zs.length c4) := hB.cell hgn (by simp [go_sem])
    have HB0 : Hid (But g (w.alloc (.cells #[.string nm, .slice A1 code.length c1, .int .i64 dA, .slice A2 nd c2, .slice A3 ns c3, .slice A zs.length c4] 75)) wr) := hB
    have HB : Hid (But g w wr) := (But.of (lb_alloc (Below.refl _ _) _)).trans hB
    have HW : Hid (Below w0.heap.size w0 wr) := HB.out.below hb0 hg0
    clear hB
    by_cases hlt : k < zs.length
    · obtain ⟨a, rfl, c0, c1'⟩ := (hA.keep HW.out) k hlt
      have d1 : wr.cell? ⟨(a.add (k * 2)).block, (a.add (k * 2)).off + 1, none⟩ = some (.int .i64 (rSym zs k)) := c1'
      clear c1'
      have g0 : (wr.alloc (.cells #[.int .i64 (rAt zs k), .int .i64 (rSym zs k)] 83)).cell? ⟨w.heap.size, 0, none⟩ = some (.string nm) := lkeep (lb_alloc (Below.refl _ _) _) f0
      have g1 : (wr.alloc (.cells #[.int .i64 (rAt zs k), .int .i64 (rSym zs k)] 83)).cell? ⟨w.heap.size, 1, none⟩ = some (.slice A1 code.length c1) := lkeep (lb_alloc (Below.refl _ _) _) f1
      have g2 : (wr.alloc (.cells #[.int .i64 (rAt zs k), .int .i64 (rSym zs k)] 83)).cell? ⟨w.heap.size, 2, none⟩ = some (.int .i64 dA) := lkeep (lb_alloc (Below.refl _ _) _) f2
      have g3 : (wr.alloc (.cells #[.int .i64 (rAt zs k), .int .i64 (rSym zs k)] 83)).cell? ⟨w.heap.size, 3, none⟩ = some (.slice A2 nd c2) := lkeep (lb_alloc (Below.refl _ _) _) f3
      have g4 : (wr.alloc (.cells #[.int .i64 (rAt zs k), .int .i64 (rSym zs k)] 83)).cell? ⟨w.heap.size, 4, none⟩ = some (.slice A3 ns c3) := lkeep (lb_alloc (Below.refl _ _) _) f4
      have g5 : (wr.alloc (.cells #[.int .i64 (rAt zs k), .int .i64 (rSym zs k)] 83)).cell? ⟨w.heap.size, 5, none⟩ = some (.slice (some a) zs.length c4) := lkeep (lb_alloc (Below.refl _ _) _) f5
      have HBB : Hid (But g w (wr.alloc (.cells #[.int .i64 (rAt zs k), .int .i64 (rSym zs k)] 83))) := HB.out.on (lb_alloc (Below.refl _ _) _)
      have HBC : Hid (But g (w.alloc (.cells #[.string nm, .slice A1 code.length c1, .int .i64 dA, .slice A2 nd c2, .slice A3 ns c3, .slice (some a) zs.length c4] 75)) (wr.alloc (.cells #[.int .i64 (rAt zs k), .int .i64 (rSym zs k)] 83))) := HB0.out.on (lb_alloc (Below.refl _ _) _)
      have HMM : Hid (MarksAt (wr.alloc (.cells #[.int .i64 (rAt zs k), .int .i64 (rSym zs k)] 83)) g m) := hM.keep (lb_alloc (Below.refl _ _) _)
      clear hM
      by_cases h1 : rAt zs k ≤ aheadV zs k
      · have HE : Hid (relE zs code ns k = 24) := rel_bad HT.out (Or.inl h1)
        go_wp2
        go_ret2
        exact ⟨ret2I (by rw [relC, first_hit hlt HT.out (by rw [HE.out]; omega), HE.out]), HBB.out, m, HMM.out, HS.out⟩
      by_cases h2 : (code.length : Int) ≤ rAt zs k
      · have HE : Hid (relE zs code ns k = 24) := rel_bad HT.out (Or.inr (Or.inl h2))
        go_wp2
        go_ret2
        exact ⟨ret2I (by rw [relC, first_hit hlt HT.out (by rw [HE.out]; omega), HE.out]), HBB.out, m, HMM.out, HS.out⟩
      by_cases h3 : rSym zs k < 0
      · have HE : Hid (relE zs code ns k = 24) := rel_bad HT.out (Or.inr (Or.inr (Or.inl h3)))
        go_wp2
        go_ret2
        exact ⟨ret2I (by rw [relC, first_hit hlt HT.out (by rw [HE.out]; omega), HE.out]), HBB.out, m, HMM.out, HS.out⟩
      by_cases h4 : (ns : Int) ≤ rSym zs k
      · have HE : Hid (relE zs code ns k = 24) := rel_bad HT.out (Or.inr (Or.inr (Or.inr h4)))
        go_wp2
        go_ret2
        exact ⟨ret2I (by rw [relC, first_hit hlt HT.out (by rw [HE.out]; omega), HE.out]), HBB.out, m, HMM.out, HS.out⟩
      obtain ⟨p0, hE1, hE0⟩ := rel_fine HT.out h1 h2 h3 h4
      have hl : (rAt zs k).toNat < code.length := by omega
      obtain ⟨a1, rfl, q0⟩ := (hC.keep HW.out) (rAt zs k).toNat hl
      have q1 : (wr.alloc (.cells #[.int .i64 (rAt zs k), .int .i64 (rSym zs k)] 83)).cell? (a1.add (rAt zs k).toNat) = some (.int .u32 (nth code (rAt zs k).toNat)) := lkeep (lb_alloc (Below.refl _ _) _) q0
      clear q0
      obtain ⟨v0, v1⟩ := hR _ hl
      have CT := isatarget_any (nth code (rAt zs k).toNat) v0 v1
      have HE1 : Hid _ := hE1
      have HE0 : Hid _ := hE0
      clear hE1 hE0
      have HVV : Hid (tgV (nth code (rAt zs k).toNat) = 0 → Safe code (fun j => j == (rAt zs k).toNat || m j)) := fun h => HS.out.set _ h
      generalize nth code (rAt zs k).toNat = v at q1 v0 v1 CT HE1 HE0 HVV
      go_wp2_with fail
      refine (CT _).mono ?_
      rintro e w5 ⟨rfl, hb5⟩
      clear CT q1 c0 d1
      have k0 : w5.cell? ⟨wr.heap.size, 0, none⟩ = some (.int .i64 (rAt zs k)) := lkeep hb5 (by simp [go_sem])
      have k1 : w5.cell? ⟨wr.heap.size, 1, none⟩ = some (.int .i64 (rSym zs k)) := lkeep hb5 (by simp [go_sem])
      have HB5 : Hid (But g w w5) := HBB.out.on hb5
      have HC5 : Hid (But g (w.alloc (.cells #[.string nm, .slice (some a1) code.length c1, .int .i64 dA, .slice A2 nd c2, .slice A3 ns c3, .slice (some a) zs.length c4] 75)) w5) := HBC.out.on hb5
      have HM5 : Hid (MarksAt w5 g m) := HMM.out.keep hb5
      clear hb5 g0 g1 g2 g3 g4 g5 f0 f1 f2 f3 f4 f5
      cases hT : isT v with
      | false =>
        have HE : Hid (relE zs code ns k = 24) := HE1.out (Or.inl hT)
        clear hT
        go_wp2
        go_ret2
        exact ⟨ret2I (by rw [relC, first_hit hlt HT.out (by rw [HE.out]; omega), HE.out]), HB5.out, m, HM5.out, HS.out⟩
      | true =>
      cases hV : (tgV v == 0) with
      | false =>
        have HE : Hid (relE zs code ns k = 24) := HE1.out (Or.inr (by simpa using hV))
        have hV' : (tgV v != 0) = true := by simpa using hV
        clear hT
        go_wp2
        go_ret2
        exact ⟨ret2I (by rw [relC, first_hit hlt HT.out (by rw [HE.out]; omega), HE.out]), HB5.out, m, HM5.out, HS.out⟩
      | true =>
        have HE : Hid (relE zs code ns k = 0) := HE0.out (by rw [hT]; simp; simpa using hV)
        have HV2 : Hid _ := HVV.out (by simpa using hV)
        have hV' : (tgV v != 0) = false := by simpa using hV
        clear hT
        have z0 : w5.cell? ⟨g, (rAt zs k).toNat, none⟩ = some (.bool (m (rAt zs k).toNat)) := HM5.out.1 _ (by omega)
        have z1 : w5.frozen? ⟨g, (rAt zs k).toNat, none⟩ = false := HM5.out.2 _
        have p1 : rAt zs k < 16384 := by omega
        have n1 : g < wr.heap.size := Nat.lt_of_lt_of_le hgl HB.out.2.2.2.1
        have n2 : ¬ g = wr.heap.size := by omega
        have n3 : ¬ wr.heap.size = g := by omega
        go_wp2
        go_region
        all_goals go_wp2
        all_goals go_roundw
        case rel => exact ⟨k + 1, _, by go_num, by omega, by rw [ahead_succ], (HC5.out.drewN 1).set _ _, (HM5.out.drewN 1).set _, HV2.out, fun j hj => by
          by_cases hjk : j = k
          · rw [hjk]; exact HE.out
          · exact HT.out j (by omega)⟩
        case measure => simp [intOf]; omega
    · have HC : Hid (relC zs code ns = (0, 0)) := first_none fun j hj => HT.out j (by omega)
      go_wp2
      go_ret2
      exact ⟨ret2I (by rw [HC.out]), HB.out, m, hM, HS.out⟩





end Go.Proofs.YthpkekpojhmaaaaGreatDoor

namespace Go.Proofs.YthpkekpojhmaaaaGreatDoor
open Go.RowKit

theorem bytes_same {a b : ByteArray} (h : a.data.toList = b.data.toList) : a = b := by
  cases a; cases b; simp at h; congr
/-- The map holds just the names of the first k symbols. -/
def Met (zs : List Sym) (k : Nat) (D : DataW Unit) : Prop := Maps.IsMap D ∧ ∀ s : ByteArray, Maps.has D (.string s.data.toList) = true ↔ ∃ j, j < k ∧ sName zs j = s
theorem met_zero (zs : List Sym) : Met zs 0 (.map []) := ⟨Maps.isMap_empty, fun s => ⟨fun h => by simp [Maps.has] at h, fun ⟨j, h, _⟩ => by omega⟩⟩
theorem met_step {zs : List Sym} {k : Nat} {D d : DataW Unit} (h : Met zs k D) : Met zs (k + 1) (D.put (.string (sName zs k).data.toList) d) := by
  refine ⟨h.1.put _ _, fun s => ?_⟩
  by_cases hs : s = sName zs k
  · subst hs
    exact ⟨fun _ => ⟨k, by omega, rfl⟩, fun _ => Maps.has_put_same h.1 (by simp [WideAt.IsKeyLit]) d⟩
  · rw [Maps.has_put_other (fun e => hs (bytes_same (by injection e)))]
    rw [h.2 s]
    constructor
    · rintro ⟨j, hj, e⟩; exact ⟨j, by omega, e⟩
    · rintro ⟨j, hj, e⟩
      refine ⟨j, ?_, e⟩
      by_cases hjk : j = k
      · subst hjk; exact absurd e.symm hs
      · omega
theorem toList_same {a b : ByteArray} (h : a.toList = b.toList) : a = b := by
  rw [ByteArray.toList_eq, ByteArray.toList_eq] at h; exact bytes_same h
theorem str_self (s : ByteArray) : (s.toList == s.toList) = true := by simp
theorem of_before {zs : List Sym} {s : ByteArray} : ∀ (d k : Nat), d + k ≤ zs.length → (∀ j, k ≤ j → j < d + k → ((sName zs j).toList == s.toList) = false) → ofFrom (zs.drop k) s k = ofFrom (zs.drop (d + k)) s (d + k)
  | 0, k, _, _ => by rw [Nat.zero_add]
  | d + 1, k, hl, h => by
    rw [of_miss (by omega) (h k (by omega) (by omega)), of_before d (k + 1) (by omega) (fun j h1 h2 => h j (by omega) (by omega)), show d + (k + 1) = d + 1 + k by omega]
theorem of_new {zs : List Sym} {k : Nat} (hk : k < zs.length) (h : ∀ j, j < k → ((sName zs j).toList == (sName zs k).toList) = false) : ofS zs (sName zs k) = k := by
  have e := of_before (zs := zs) (s := sName zs k) k 0 (by omega) (fun j _ hj => h j (by omega))
  rw [List.drop_zero, Nat.add_zero] at e
  rw [ofS, e, of_hit hk (str_self _)]
theorem of_old {zs : List Sym} {k j : Nat} (hk : k < zs.length) (hj : j < k) (h : ((sName zs j).toList == (sName zs k).toList) = true) : ¬ ofS zs (sName zs k) = k := by
  intro e
  have key : ∀ (d i : Nat), i + d = j → ∃ m : Nat, m ≤ j ∧ ofFrom (zs.drop i) (sName zs k) i = m := by
    intro d
    induction d with
    | zero => intro i hi; exact ⟨j, Nat.le_refl _, by rw [show i = j by omega, of_hit (by omega) h]⟩
    | succ d ih =>
      intro i hi
      cases c : ((sName zs i).toList == (sName zs k).toList) with
      | true => exact ⟨i, by omega, of_hit (by omega) c⟩
      | false => rw [of_miss (by omega) c]; exact ih (i + 1) (by omega)
  obtain ⟨m, hm, em⟩ := key j 0 (by omega)
  rw [List.drop_zero] at em
  rw [ofS, em] at e
  omega
theorem met_no {zs : List Sym} {k : Nat} {D : DataW Unit} (h : Met zs k D) (hk : k < zs.length) (e : Maps.has D (.string (sName zs k).data.toList) = false) : ofS zs (sName zs k) = k := by
  refine of_new hk fun j hj => ?_
  cases c : ((sName zs j).toList == (sName zs k).toList) with
  | false => rfl
  | true =>
    have : Maps.has D (.string (sName zs k).data.toList) = true := (h.2 _).2 ⟨j, hj, toList_same (by simpa using c)⟩
    rw [e] at this; cases this
theorem met_yes {zs : List Sym} {k : Nat} {D : DataW Unit} (h : Met zs k D) (hk : k < zs.length) (e : Maps.has D (.string (sName zs k).data.toList) = true) : ¬ ofS zs (sName zs k) = k := by
  obtain ⟨j, hj, ej⟩ := (h.2 _).1 e
  exact of_old hk hj (by rw [ej]; exact str_self _)





end Go.Proofs.YthpkekpojhmaaaaGreatDoor

namespace Go.Proofs.YthpkekpojhmaaaaGreatDoor
open Go.RowKit

open Go.Maps Go.WideMaps
theorem law9 : Keyed Tryz.prog 9 := string_keyed Tryz.underlying9
theorem zero3 (w : World) : (zeroValue 3).run Tryz.prog w = .ok (.int .i64 0) w := by kernel_rfl
theorem mkMap (n : Int) (w : World) : (Instr.makeMap 202 (some (.int .i64 n))).run Tryz.prog w = .ok (.map (some w.heap.size)) (w.alloc (.map #[] 0)) := by
  simp [Instr.makeMap, run_underlying Tryz.underlying202, asInt, asIntOf, Result.andThen]
theorem ownsMap_below {w w' : World} {B b n : Nat} {D : DataW Unit} (h : w.ownsMap Tryz.prog 9 (plainElem Tryz.prog 3) b n D) (hb : Below B w w') (hB : b < B) : w'.ownsMap Tryz.prog 9 (plainElem Tryz.prog 3) b n D := by
  obtain ⟨es, clock, h1, h2⟩ := h
  exact ⟨es, clock, by rw [hb.block b hB]; exact h1, h2⟩
set_option maxRecDepth 100000 in
set_option maxHeartbeats 4000000 in
theorem asksyms_any (nm : ByteArray) (dA : Int) (A1 A2 A A4 : Option Addr) (nc c1 nd c2 c3 nr c4 : Nat) (zs : List Sym) (w : World) (hA : SymsAt w A zs) (hz : zs.length ≤ 1048576) (hN : ∀ i, (sName zs i).size ≤ 140737488355328) :
    Calls Tryz.prog 159 #[.agg #[.string nm, .slice A1 nc c1, .int .i64 dA, .slice A2 nd c2, .slice A zs.length c3, .slice A4 nr c4]] w fun e w' => e = .returned (.tuple #[.int .i64 (symC zs nc).1, .int .i64 (symC zs nc).2]) ∧ Below w.heap.size w w' := by
  have hmm := mkMap
  go_enter Tryz.func159, Tryz.ntmps159
  go_wp2
  go_loopw [16] (fun i wr => ∃ (k : Nat) (D : DataW Unit), i = .int .i64 k ∧ k ≤ zs.length ∧ Below (w.alloc (.cells #[.string nm, .slice A1 nc c1, .int .i64 dA, .slice A2 nd c2, .slice A zs.length c3, .slice A4 nr c4] 75)).heap.size (w.alloc (.cells #[.string nm, .slice A1 nc c1, .int .i64 dA, .slice A2 nd c2, .slice A zs.length c3, .slice A4 nr c4] 75)) wr ∧ wr.ownsMap Tryz.prog 9 (plainElem Tryz.prog 3) (w.heap.size + 1) k D ∧ Hid (Met zs k D) ∧ Hid (∀ j, j < k → symE zs nc j = 0)) (fun i _ => zs.length - (intOf i).toNat)
  case atStart => exact ⟨0, _, rfl, by omega, lb_alloc (Below.refl _ _) _, by simpa using World.ownsMap_made (w.alloc (.cells #[.string nm, .slice A1 nc c1, .int .i64 dA, .slice A2 nd c2, .slice A zs.length c3, .slice A4 nr c4] 75)) Tryz.prog 9 (plainElem Tryz.prog 3), met_zero zs, fun j hj => by omega⟩
  case round =>
    obtain ⟨k, D, rfl, hk, hB, hown, HM, HT⟩ := hrel
    rename_i wr _
    have f0 : wr.cell? ⟨w.heap.size, 0, none⟩ = some (.string nm) := lkeep hB (by simp [go_sem])
    have f1 : wr.cell? ⟨w.heap.size, 1, none⟩ = some (.slice A1 nc c1) := lkeep hB (by simp [go_sem])
    have f2 : wr.cell? ⟨w.heap.size, 2, none⟩ = some (.int .i64 dA) := lkeep hB (by simp [go_sem])
    have f3 : wr.cell? ⟨w.heap.size, 3, none⟩ = some (.slice A2 nd c2) := lkeep hB (by simp [go_sem])
    have f4 : wr.cell? ⟨w.heap.size, 4, none⟩ = some (.slice A zs.length c3) := lkeep hB (by simp [go_sem])
    have f5 : wr.cell? ⟨w.heap.size, 5, none⟩ = some (.slice A4 nr c4) := lkeep hB (by simp [go_sem])
    have HB : Hid (Below w.heap.size w wr) := lb_trans (lb_alloc (Below.refl _ _) _) hB
    have HB0 : Hid (Below (w.alloc (.cells #[.string nm, .slice A1 nc c1, .int .i64 dA, .slice A2 nd c2, .slice A zs.length c3, .slice A4 nr c4] 75)).heap.size (w.alloc (.cells #[.string nm, .slice A1 nc c1, .int .i64 dA, .slice A2 nd c2, .slice A zs.length c3, .slice A4 nr c4] 75)) wr) := hB
    clear hB
    by_cases hlt : k < zs.length
    · obtain ⟨a, rfl, c0, c1', c2'⟩ := (hA.keep HB.out) k hlt
      have d1 : wr.cell? ⟨(a.add (k * 3)).block, (a.add (k * 3)).off + 1, none⟩ = some (.int .i8 (sKind zs k)) := c1'
      have d2 : wr.cell? ⟨(a.add (k * 3)).block, (a.add (k * 3)).off + 2, none⟩ = some (.int .i64 (sAt zs k)) := c2'
      clear c1' c2'
      have hkey : keyOf Tryz.prog 9 (.string (sName zs k)) = some (.string (sName zs k).data.toList) := keyOf_string_mk Tryz.underlying9 (by have := hN k; unfold maxLen; omega)
      have g0 : (wr.alloc (.cells #[.string (sName zs k), .int .i8 (sKind zs k), .int .i64 (sAt zs k)] 131)).cell? ⟨w.heap.size, 0, none⟩ = some (.string nm) := lkeep (lb_alloc (Below.refl _ _) _) f0
      have g1 : (wr.alloc (.cells #[.string (sName zs k), .int .i8 (sKind zs k), .int .i64 (sAt zs k)] 131)).cell? ⟨w.heap.size, 1, none⟩ = some (.slice A1 nc c1) := lkeep (lb_alloc (Below.refl _ _) _) f1
      have g2 : (wr.alloc (.cells #[.string (sName zs k), .int .i8 (sKind zs k), .int .i64 (sAt zs k)] 131)).cell? ⟨w.heap.size, 2, none⟩ = some (.int .i64 dA) := lkeep (lb_alloc (Below.refl _ _) _) f2
      have g3 : (wr.alloc (.cells #[.string (sName zs k), .int .i8 (sKind zs k), .int .i64 (sAt zs k)] 131)).cell? ⟨w.heap.size, 3, none⟩ = some (.slice A2 nd c2) := lkeep (lb_alloc (Below.refl _ _) _) f3
      have g4 : (wr.alloc (.cells #[.string (sName zs k), .int .i8 (sKind zs k), .int .i64 (sAt zs k)] 131)).cell? ⟨w.heap.size, 4, none⟩ = some (.slice (some a) zs.length c3) := lkeep (lb_alloc (Below.refl _ _) _) f4
      have g5 : (wr.alloc (.cells #[.string (sName zs k), .int .i8 (sKind zs k), .int .i64 (sAt zs k)] 131)).cell? ⟨w.heap.size, 5, none⟩ = some (.slice A4 nr c4) := lkeep (lb_alloc (Below.refl _ _) _) f5
      have g6 : (wr.alloc (.cells #[.string (sName zs k), .int .i8 (sKind zs k), .int .i64 (sAt zs k)] 131)).cell? ⟨wr.heap.size, 0, none⟩ = some (.string (sName zs k)) := by simp [go_sem]
      have g7 : (wr.alloc (.cells #[.string (sName zs k), .int .i8 (sKind zs k), .int .i64 (sAt zs k)] 131)).cell? ⟨wr.heap.size, 1, none⟩ = some (.int .i8 (sKind zs k)) := by simp [go_sem]
      have g8 : (wr.alloc (.cells #[.string (sName zs k), .int .i8 (sKind zs k), .int .i64 (sAt zs k)] 131)).cell? ⟨wr.heap.size, 2, none⟩ = some (.int .i64 (sAt zs k)) := by simp [go_sem]
      have BS : Below (wr.alloc (.cells #[.string (sName zs k), .int .i8 (sKind zs k), .int .i64 (sAt zs k)] 131)).heap.size (wr.alloc (.cells #[.string (sName zs k), .int .i8 (sKind zs k), .int .i64 (sAt zs k)] 131)) (wr.alloc (.cells #[.string (sName zs k), .int .i8 (sKind zs k), .int .i64 (sAt zs k)] 131)) := Below.refl _ _
      have CN := objname_raw (sName zs k)
      cases h1 : nameOK (sName zs k) with
      | false =>
        rw [h1] at CN
        have HE : Hid (symE zs nc k = 20) := by unfold Hid symE; rw [if_pos h1]
        clear h1
        go_wp2_with (at_lookup; refine wpList_lookup_own_ok_int _ rfl _ _ 202 rfl 9 3 .i64 law9 Tryz.underlying202 Tryz.underlying3 (zero3 _) (w.heap.size + 1) k D rfl (hown.alloc _) _ _ rfl hkey ?_; intro c hat hwc)
        refine (CN _).mono ?_
        rintro e w2 ⟨rfl, rfl⟩
        go_wp2
        go_ret2
        exact ⟨ret2I (by rw [symC, first_hit hlt HT.out (by rw [HE.out]; omega), HE.out]), lb_alloc HB.out _⟩
      | true =>
      rw [h1] at CN
      have HNm : Hid (¬ nameOK (sName zs k) = false) := by rw [Hid, h1]; simp
      clear h1
      cases h2 : Maps.has D (.string (sName zs k).data.toList) with
      | true =>
        have HE : Hid (symE zs nc k = 26) := by unfold Hid symE; rw [if_neg HNm.out, if_pos (met_yes HM.out hlt h2)]
        go_wp2_with (at_lookup; refine wpList_lookup_own_ok_int _ rfl _ _ 202 rfl 9 3 .i64 law9 Tryz.underlying202 Tryz.underlying3 (zero3 _) (w.heap.size + 1) k D rfl (hown.alloc _) _ _ rfl hkey ?_; intro c hat hwc)
        refine (CN _).mono ?_
        rintro e w2 ⟨rfl, rfl⟩
        go_wp2
        go_ret2
        exact ⟨ret2I (by rw [symC, first_hit hlt HT.out (by rw [HE.out]; omega), HE.out]), lb_alloc HB.out _⟩
      | false =>
      have HO : Hid (¬ ¬ ofS zs (sName zs k) = (k : Int)) := by rw [Hid]; exact fun h => h (met_no HM.out hlt h2)
      by_cases h3 : sKind zs k < 0
      · have HE : Hid (symE zs nc k = 23) := by unfold Hid symE; rw [if_neg HNm.out, if_neg HO.out, if_pos (Or.inl h3)]
        go_wp2_with (at_lookup; refine wpList_lookup_own_ok_int _ rfl _ _ 202 rfl 9 3 .i64 law9 Tryz.underlying202 Tryz.underlying3 (zero3 _) (w.heap.size + 1) k D rfl (hown.alloc _) _ _ rfl hkey ?_; intro c hat hwc)
        refine (CN _).mono ?_
        rintro e w2 ⟨rfl, rfl⟩
        go_wp2
        go_ret2
        exact ⟨ret2I (by rw [symC, first_hit hlt HT.out (by rw [HE.out]; omega), HE.out]), lb_alloc HB.out _⟩
      by_cases h4 : 3 < sKind zs k
      · have HE : Hid (symE zs nc k = 23) := by unfold Hid symE; rw [if_neg HNm.out, if_neg HO.out, if_pos (Or.inr h4)]
        go_wp2_with (at_lookup; refine wpList_lookup_own_ok_int _ rfl _ _ 202 rfl 9 3 .i64 law9 Tryz.underlying202 Tryz.underlying3 (zero3 _) (w.heap.size + 1) k D rfl (hown.alloc _) _ _ rfl hkey ?_; intro c hat hwc)
        refine (CN _).mono ?_
        rintro e w2 ⟨rfl, rfl⟩
        go_wp2
        go_ret2
        exact ⟨ret2I (by rw [symC, first_hit hlt HT.out (by rw [HE.out]; omega), HE.out]), lb_alloc HB.out _⟩
      have HK : Hid (¬ (sKind zs k < 0 ∨ 3 < sKind zs k)) := by rw [Hid]; omega
      by_cases h5 : sAt zs k < 0
      · have HE : Hid (symE zs nc k = 22) := by unfold Hid symE; rw [if_neg HNm.out, if_neg HO.out, if_neg HK.out, if_pos (Or.inl h5)]
        go_wp2_with (at_lookup; refine wpList_lookup_own_ok_int _ rfl _ _ 202 rfl 9 3 .i64 law9 Tryz.underlying202 Tryz.underlying3 (zero3 _) (w.heap.size + 1) k D rfl (hown.alloc _) _ _ rfl hkey ?_; intro c hat hwc)
        refine (CN _).mono ?_
        rintro e w2 ⟨rfl, rfl⟩
        go_upto_region 12 with fail
        go_big_quiet (fail)
        go_wp2
        go_ret2
        exact ⟨ret2I (by rw [symC, first_hit hlt HT.out (by rw [HE.out]; omega), HE.out]), below_drewN (lb_alloc HB.out _) _⟩
      have h5d : decide (sAt zs k < 0) = false := decide_eq_false h5
      by_cases h6 : lastP (sKind zs k) nc < sAt zs k
      · have h6d : decide (lastP (sKind zs k) nc < sAt zs k) = true := decide_eq_true h6
        have HE : Hid (symE zs nc k = 22) := by
          have h6' := h6
          unfold lastP at h6'
          unfold Hid symE; rw [if_neg HNm.out, if_neg HO.out, if_neg HK.out, if_pos (by split at h6' <;> omega)]
        go_wp2_with (at_lookup; refine wpList_lookup_own_ok_int _ rfl _ _ 202 rfl 9 3 .i64 law9 Tryz.underlying202 Tryz.underlying3 (zero3 _) (w.heap.size + 1) k D rfl (hown.alloc _) _ _ rfl hkey ?_; intro c hat hwc)
        refine (CN _).mono ?_
        rintro e w2 ⟨rfl, rfl⟩
        clear CN
        go_upto_region 12 with fail
        go_region_held3 (fun W => Below (wr.alloc (.cells #[.string (sName zs k), .int .i8 (sKind zs k), .int .i64 (sAt zs k)] 131)).heap.size (wr.alloc (.cells #[.string (sName zs k), .int .i8 (sKind zs k), .int .i64 (sAt zs k)] 131)) W ∧ W.cell? ⟨w.heap.size, 0, none⟩ = some (.string nm) ∧ W.cell? ⟨w.heap.size, 1, none⟩ = some (.slice A1 nc c1) ∧ W.cell? ⟨w.heap.size, 2, none⟩ = some (.int .i64 dA) ∧ W.cell? ⟨w.heap.size, 3, none⟩ = some (.slice A2 nd c2) ∧ W.cell? ⟨w.heap.size, 4, none⟩ = some (.slice (some a) zs.length c3) ∧ W.cell? ⟨w.heap.size, 5, none⟩ = some (.slice A4 nr c4) ∧ W.cell? ⟨wr.heap.size, 0, none⟩ = some (.string (sName zs k)) ∧ W.cell? ⟨wr.heap.size, 1, none⟩ = some (.int .i8 (sKind zs k)) ∧ W.cell? ⟨wr.heap.size, 2, none⟩ = some (.int .i64 (sAt zs k))) (first | (refine ⟨lb_trans ?_ hb, lkeep hb ?_, lkeep hb ?_, lkeep hb ?_, lkeep hb ?_, lkeep hb ?_, lkeep hb ?_, lkeep hb ?_, lkeep hb ?_, lkeep hb ?_⟩ <;> first | assumption | exact (‹Below _ _ _ ∧ _›).1 | exact Below.drew (by assumption) | (simp [*]; done)) | (refine ⟨?_, ?_, ?_, ?_, ?_, ?_, ?_, ?_, ?_, ?_⟩ <;> first | assumption | exact Below.drew (by assumption) | exact Below.drew (‹Below _ _ _ ∧ _›).1 | (simp [*]; done)))
          (first
            | (go_at_call 179; refine (last_any nm dA (sKind zs k) A1 A2 (some a) A4 nc c1 nd c2 zs.length c3 nr c4 _).mono ?_; rintro e w5 ⟨rfl, hb⟩))
        rename_i hS'
        have HB5 : Hid (Below w.heap.size w _) := lb_trans (lb_alloc HB.out _) hS'.1
        go_wp2
        go_ret2
        exact ⟨ret2I (by rw [symC, first_hit hlt HT.out (by rw [HE.out]; omega), HE.out]), HB5.out⟩
      · have h6d : decide (lastP (sKind zs k) nc < sAt zs k) = false := decide_eq_false h6
        have HE : Hid (symE zs nc k = 0) := by
          have h6' := h6
          unfold lastP at h6'
          unfold Hid symE; rw [if_neg HNm.out, if_neg HO.out, if_neg HK.out, if_neg (by split at h6' <;> omega)]
        go_wp2_with (at_lookup; refine wpList_lookup_own_ok_int _ rfl _ _ 202 rfl 9 3 .i64 law9 Tryz.underlying202 Tryz.underlying3 (zero3 _) (w.heap.size + 1) k D rfl (hown.alloc _) _ _ rfl hkey ?_; intro c hat hwc)
        refine (CN _).mono ?_
        rintro e w2 ⟨rfl, rfl⟩
        clear CN
        go_upto_region 12 with fail
        go_region_held3 (fun W => Below (wr.alloc (.cells #[.string (sName zs k), .int .i8 (sKind zs k), .int .i64 (sAt zs k)] 131)).heap.size (wr.alloc (.cells #[.string (sName zs k), .int .i8 (sKind zs k), .int .i64 (sAt zs k)] 131)) W ∧ W.cell? ⟨w.heap.size, 0, none⟩ = some (.string nm) ∧ W.cell? ⟨w.heap.size, 1, none⟩ = some (.slice A1 nc c1) ∧ W.cell? ⟨w.heap.size, 2, none⟩ = some (.int .i64 dA) ∧ W.cell? ⟨w.heap.size, 3, none⟩ = some (.slice A2 nd c2) ∧ W.cell? ⟨w.heap.size, 4, none⟩ = some (.slice (some a) zs.length c3) ∧ W.cell? ⟨w.heap.size, 5, none⟩ = some (.slice A4 nr c4) ∧ W.cell? ⟨wr.heap.size, 0, none⟩ = some (.string (sName zs k)) ∧ W.cell? ⟨wr.heap.size, 1, none⟩ = some (.int .i8 (sKind zs k)) ∧ W.cell? ⟨wr.heap.size, 2, none⟩ = some (.int .i64 (sAt zs k))) (first | (refine ⟨lb_trans ?_ hb, lkeep hb ?_, lkeep hb ?_, lkeep hb ?_, lkeep hb ?_, lkeep hb ?_, lkeep hb ?_, lkeep hb ?_, lkeep hb ?_, lkeep hb ?_⟩ <;> first | assumption | exact (‹Below _ _ _ ∧ _›).1 | exact Below.drew (by assumption) | (simp [*]; done)) | (refine ⟨?_, ?_, ?_, ?_, ?_, ?_, ?_, ?_, ?_, ?_⟩ <;> first | assumption | exact Below.drew (by assumption) | exact Below.drew (‹Below _ _ _ ∧ _›).1 | (simp [*]; done)))
          (first
            | (go_at_call 179; refine (last_any nm dA (sKind zs k) A1 A2 (some a) A4 nc c1 nd c2 zs.length c3 nr c4 _).mono ?_; rintro e w5 ⟨rfl, hb⟩))
        rename_i hS'
        obtain ⟨sB, s0, s1, s2, s3, s4, s5, t0, t1, t2⟩ := hS'
        have hlt' : w.heap.size + 1 < (wr.alloc (.cells #[.string (sName zs k), .int .i8 (sKind zs k), .int .i64 (sAt zs k)] 131)).heap.size := by
          have := hown.lt; simp; omega
        have hown5 := ownsMap_below (hown.alloc (.cells #[.string (sName zs k), .int .i8 (sKind zs k), .int .i64 (sAt zs k)] 131)) sB hlt'
        have HB5 : Hid (Below (w.alloc (.cells #[.string nm, .slice A1 nc c1, .int .i64 dA, .slice A2 nd c2, .slice (some a) zs.length c3, .slice A4 nr c4] 75)).heap.size (w.alloc (.cells #[.string nm, .slice A1 nc c1, .int .i64 dA, .slice A2 nd c2, .slice (some a) zs.length c3, .slice A4 nr c4] 75)) _) := lb_trans (lb_alloc HB0.out _) sB
        clear sB g0 g1 g2 g3 g4 g5 g6 g7 g8 BS hown
        go_wp2_with (at_mapUpdate; refine wpList_mapUpdate_own _ rfl _ _ _ 202 rfl 9 3 law9 Tryz.underlying202 _ (w.heap.size + 1) k _ rfl hown5 (by unfold maxLen; omega) _ _ _ rfl rfl hkey _ [] (plainElem_int Tryz.underlying3 (WalkArith.wf_i64 (by omega))) ?_; intro w6 hown6 hgrow6)
        go_roundw
        case rel => exact ⟨k + 1, _, by go_num, by omega, HB5.out.grown (by assumption) HB5.out.size (fun j hj => by cases hj; simp), by assumption, met_step HM.out, fun j hj => by
            by_cases hjk : j = k
            · rw [hjk]; exact HE.out
            · exact HT.out j (by omega)⟩
        case measure => simp [intOf]; omega
    · have HC : Hid (symC zs nc = (0, 0)) := first_none fun j hj => HT.out j (by omega)
      go_wp2
      go_ret2
      exact ⟨ret2I (by rw [HC.out]), HB.out⟩





end Go.Proofs.YthpkekpojhmaaaaGreatDoor
