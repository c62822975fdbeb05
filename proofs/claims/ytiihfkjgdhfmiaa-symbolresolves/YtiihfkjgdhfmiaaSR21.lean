/-
  Which names were met, as a map reads; no Go in sight. Package object: what is asked of the symbols; the list is at most 2^20 long, its names at most 2^47 bytes. Worlds that part in one block alone, and the marks that lie in it; no Go in sight.
-/
import Derived.Test.YtiihfkjgdhfmiaaProg
import Derived.WalkKit
import Derived.WalkSpells
import Derived.WalkLawsBesides
import Derived.RowKit3
import Derived.Below
import Derived.Deep.QuietTactic
import Derived.BigQuiet
import Derived.WalkSmall
import Derived.Test.YtiihfkjgdhfmiaaSR01
import Derived.Maps.OwnSet
import Derived.Maps.Own
import Derived.Test.YtiihfkjgdhfmiaaSR20
import Derived.Deep.RegionHeld3
import Derived.Deep.DeepCutAuto
import Derived.Test.YtiihfkjgdhfmiaaSR02
namespace Go.Proofs.Ytiihfkjgdhfmiaa
open Go.RowKit

theorem bytes_same {a b : ByteArray} (h : a.data.toList = b.data.toList) : a = b := by
  cases a; cases b; simp at h; congr
/-- The map holds just the names of the first k symbols. -/
def Met (zs : List Sym) (k : Nat) (D : DataW Unit) : Prop := Maps.IsMap D ∧ ∀ s : ByteArray, Maps.has D (.string s.data.toList) = true ↔ ∃ j, j < k ∧ sName zs j = s
theorem met_zero (zs : List Sym) : Met zs 0 (.map []) := ⟨Maps.isMap_empty, fun s => ⟨fun h => by simp [Maps.has] at h, fun ⟨j, h, _⟩ => by omega⟩⟩
theorem met_step {zs : List Sym} {k : Nat} {D d : DataW Unit} (h : Met zs k D) : Met zs (k + 1) (D.put (.string (sName zs k).data.toList) d) := by
  refine ⟨h.1.put _ _, fun s => ?_⟩
  by_cases hs : s = sName zs k
  · subst hs
    exact ⟨fun _ => ⟨k, by omega, rfl⟩, fun _ => Maps.has_put_same h.1 (by simp [WideAt.IsKeyLit]) d⟩
  · rw [Maps.has_put_other (fun e => hs (bytes_same (by injection e)))]
    rw [h.2 s]
    constructor
    · rintro ⟨j, hj, e⟩; exact ⟨j, by omega, e⟩
    · rintro ⟨j, hj, e⟩
      refine ⟨j, ?_, e⟩
      by_cases hjk : j = k
      · subst hjk; exact absurd e.symm hs
      · omega
theorem toList_same {a b : ByteArray} (h : a.toList = b.toList) : a = b := by
  rw [ByteArray.toList_eq, ByteArray.toList_eq] at h; exact bytes_same h
theorem str_self (s : ByteArray) : (s.toList == s.toList) = true := by simp
theorem of_before {zs : List Sym} {s : ByteArray} : ∀ (d k : Nat), d + k ≤ zs.length → (∀ j, k ≤ j → j < d + k → ((sName zs j).toList == s.toList) = false) → ofFrom (zs.drop k) s k = ofFrom (zs.drop (d + k)) s (d + k)
  | 0, k, _, _ => by rw [Nat.zero_add]
  | d + 1, k, hl, h => by
    rw [of_miss (by omega) (h k (by omega) (by omega)), of_before d (k + 1) (by omega) (fun j h1 h2 => h j (by omega) (by omega)), show d + (k + 1) = d + 1 + k by omega]
theorem of_new {zs : List Sym} {k : Nat} (hk : k < zs.length) (h : ∀ j, j < k → ((sName zs j).toList == (sName zs k).toList) = false) : ofS zs (sName zs k) = k := by
  have e := of_before (zs := zs) (s := sName zs k) k 0 (by omega) (fun j _ hj => h j (by omega))
  rw [List.drop_zero, Nat.add_zero] at e
  rw [ofS, e, of_hit hk (str_self _)]
theorem of_old {zs : List Sym} {k j : Nat} (hk : k < zs.length) (hj : j < k) (h : ((sName zs j).toList == (sName zs k).toList) = true) : ¬ ofS zs (sName zs k) = k := by
  intro e
  have key : ∀ (d i : Nat), i + d = j → ∃ m : Nat, m ≤ j ∧ ofFrom (zs.drop i) (sName zs k) i = m := by
    intro d
    induction d with
    | zero => intro i hi; exact ⟨j, Nat.le_refl _, by rw [show i = j by omega, of_hit (by omega) h]⟩
    | succ d ih =>
      intro i hi
      cases c : ((sName zs i).toList == (sName zs k).toList) with
      | true => exact ⟨i, by omega, of_hit (by omega) c⟩
      | false => rw [of_miss (by omega) c]; exact ih (i + 1) (by omega)
  obtain ⟨m, hm, em⟩ := key j 0 (by omega)
  rw [List.drop_zero] at em
  rw [ofS, em] at e
  omega
theorem met_no {zs : List Sym} {k : Nat} {D : DataW Unit} (h : Met zs k D) (hk : k < zs.length) (e : Maps.has D (.string (sName zs k).data.toList) = false) : ofS zs (sName zs k) = k := by
  refine of_new hk fun j hj => ?_
  cases c : ((sName zs j).toList == (sName zs k).toList) with
  | false => rfl
  | true =>
    have : Maps.has D (.string (sName zs k).data.toList) = true := (h.2 _).2 ⟨j, hj, toList_same (by simpa using c)⟩
    rw [e] at this; cases this
theorem met_yes {zs : List Sym} {k : Nat} {D : DataW Unit} (h : Met zs k D) (hk : k < zs.length) (e : Maps.has D (.string (sName zs k).data.toList) = true) : ¬ ofS zs (sName zs k) = k := by
  obtain ⟨j, hj, ej⟩ := (h.2 _).1 e
  exact of_old hk hj (by rw [ej]; exact str_self _)




end Go.Proofs.Ytiihfkjgdhfmiaa

namespace Go.Proofs.Ytiihfkjgdhfmiaa
open Go.RowKit

open Go.Maps Go.WideMaps
theorem law9 : Keyed Try.prog 9 := string_keyed Try.underlying9
theorem zero3 (w : World) : (zeroValue 3).run Try.prog w = .ok (.int .i64 0) w := by kernel_rfl
theorem mkMap (n : Int) (w : World) : (Instr.makeMap 83 (some (.int .i64 n))).run Try.prog w = .ok (.map (some w.heap.size)) (w.alloc (.map #[] 0)) := by
  simp [Instr.makeMap, run_underlying Try.underlying83, asInt, asIntOf, Result.andThen]
theorem ownsMap_below {w w' : World} {B b n : Nat} {D : DataW Unit} (h : w.ownsMap Try.prog 9 (plainElem Try.prog 3) b n D) (hb : Below B w w') (hB : b < B) : w'.ownsMap Try.prog 9 (plainElem Try.prog 3) b n D := by
  obtain ⟨es, clock, h1, h2⟩ := h
  exact ⟨es, clock, by rw [hb.block b hB]; exact h1, h2⟩
set_option maxRecDepth 100000 in
set_option maxHeartbeats 4000000 in
theorem asksyms_any (nm : ByteArray) (dA : Int) (A1 A2 A A4 : Option Addr) (nc c1 nd c2 c3 nr c4 : Nat) (zs : List Sym) (w : World) (hA : SymsAt w A zs) (hz : zs.length ≤ 1048576) (hN : ∀ i, (sName zs i).size ≤ 140737488355328) :
    Calls Try.prog 66 #[.agg #[.string nm, .slice A1 nc c1, .int .i64 dA, .slice A2 nd c2, .slice A zs.length c3, .slice A4 nr c4]] w fun e w' => e = .returned (.tuple #[.int .i64 (symC zs nc).1, .int .i64 (symC zs nc).2]) ∧ Below w.heap.size w w' := by
  have hmm := mkMap
  go_enter Try.func66, Try.ntmps66
  go_wp2
  go_loopw [16] (fun i wr => ∃ (k : Nat) (D : DataW Unit), i = .int .i64 k ∧ k ≤ zs.length ∧ Below (w.alloc (.cells #[.string nm, .slice A1 nc c1, .int .i64 dA, .slice A2 nd c2, .slice A zs.length c3, .slice A4 nr c4] 49)).heap.size (w.alloc (.cells #[.string nm, .slice A1 nc c1, .int .i64 dA, .slice A2 nd c2, .slice A zs.length c3, .slice A4 nr c4] 49)) wr ∧ wr.ownsMap Try.prog 9 (plainElem Try.prog 3) (w.heap.size + 1) k D ∧ Hid (Met zs k D) ∧ Hid (∀ j, j < k → symE zs nc j = 0)) (fun i _ => zs.length - (intOf i).toNat)
  case atStart => exact ⟨0, _, rfl, by omega, lb_alloc (Below.refl _ _) _, by simpa using World.ownsMap_made (w.alloc (.cells #[.string nm, .slice A1 nc c1, .int .i64 dA, .slice A2 nd c2, .slice A zs.length c3, .slice A4 nr c4] 49)) Try.prog 9 (plainElem Try.prog 3), met_zero zs, fun j hj => by omega⟩
  case round =>
    obtain ⟨k, D, rfl, hk, hB, hown, HM, HT⟩ := hrel
    rename_i wr _
    have f0 : wr.cell? ⟨w.heap.size, 0, none⟩ = some (.string nm) := lkeep hB (by simp [go_sem])
    have f1 : wr.cell? ⟨w.heap.size, 1, none⟩ = some (.slice A1 nc c1) := lkeep hB (by simp [go_sem])
    have f2 : wr.cell? ⟨w.heap.size, 2, none⟩ = some (.int .i64 dA) := lkeep hB (by simp [go_sem])
    have f3 : wr.cell? ⟨w.heap.size, 3, none⟩ = some (.slice A2 nd c2) := lkeep hB (by simp [go_sem])
    have f4 : wr.cell? ⟨w.heap.size, 4, none⟩ = some (.slice A zs.length c3) := lkeep hB (by simp [go_sem])
    have f5 : wr.cell? ⟨w.heap.size, 5, none⟩ = some (.slice A4 nr c4) := lkeep hB (by simp [go_sem])
    have HB : Hid (Below w.heap.size w wr) := lb_trans (lb_alloc (Below.refl _ _) _) hB
    have HB0 : Hid (Below (w.alloc (.cells #[.string nm, .slice A1 nc c1, .int .i64 dA, .slice A2 nd c2, .slice A zs.length c3, .slice A4 nr c4] 49)).heap.size (w.alloc (.cells #[.string nm, .slice A1 nc c1, .int .i64 dA, .slice A2 nd c2, .slice A zs.length c3, .slice A4 nr c4] 49)) wr) := hB
    clear hB
    by_cases hlt : k < zs.length
    · obtain ⟨a, rfl, c0, c1', c2'⟩ := (hA.keep HB.out) k hlt
      have d1 : wr.cell? ⟨(a.add (k * 3)).block, (a.add (k * 3)).off + 1, none⟩ = some (.int .i8 (sKind zs k)) := c1'
      have d2 : wr.cell? ⟨(a.add (k * 3)).block, (a.add (k * 3)).off + 2, none⟩ = some (.int .i64 (sAt zs k)) := c2'
      clear c1' c2'
      have hkey : keyOf Try.prog 9 (.string (sName zs k)) = some (.string (sName zs k).data.toList) := keyOf_string_mk Try.underlying9 (by have := hN k; unfold maxLen; omega)
      have g0 : (wr.alloc (.cells #[.string (sName zs k), .int .i8 (sKind zs k), .int .i64 (sAt zs k)] 52)).cell? ⟨w.heap.size, 0, none⟩ = some (.string nm) := lkeep (lb_alloc (Below.refl _ _) _) f0
      have g1 : (wr.alloc (.cells #[.string (sName zs k), .int .i8 (sKind zs k), .int .i64 (sAt zs k)] 52)).cell? ⟨w.heap.size, 1, none⟩ = some (.slice A1 nc c1) := lkeep (lb_alloc (Below.refl _ _) _) f1
      have g2 : (wr.alloc (.cells #[.string (sName zs k), .int .i8 (sKind zs k), .int .i64 (sAt zs k)] 52)).cell? ⟨w.heap.size, 2, none⟩ = some (.int .i64 dA) := lkeep (lb_alloc (Below.refl _ _) _) f2
      have g3 : (wr.alloc (.cells #[.string (sName zs k), .int .i8 (sKind zs k), .int .i64 (sAt zs k)] 52)).cell? ⟨w.heap.size, 3, none⟩ = some (.slice A2 nd c2) := lkeep (lb_alloc (Below.refl _ _) _) f3
      have g4 : (wr.alloc (.cells #[.string (sName zs k), .int .i8 (sKind zs k), .int .i64 (sAt zs k)] 52)).cell? ⟨w.heap.size, 4, none⟩ = some (.slice (some a) zs.length c3) := lkeep (lb_alloc (Below.refl _ _) _) f4
      have g5 : (wr.alloc (.cells #[.string (sName zs k), .int .i8 (sKind zs k), .int .i64 (sAt zs k)] 52)).cell? ⟨w.heap.size, 5, none⟩ = some (.slice A4 nr c4) := lkeep (lb_alloc (Below.refl _ _) _) f5
      have g6 : (wr.alloc (.cells #[.string (sName zs k), .int .i8 (sKind zs k), .int .i64 (sAt zs k)] 52)).cell? ⟨wr.heap.size, 0, none⟩ = some (.string (sName zs k)) := by simp [go_sem]
      have g7 : (wr.alloc (.cells #[.string (sName zs k), .int .i8 (sKind zs k), .int .i64 (sAt zs k)] 52)).cell? ⟨wr.heap.size, 1, none⟩ = some (.int .i8 (sKind zs k)) := by simp [go_sem]
      have g8 : (wr.alloc (.cells #[.string (sName zs k), .int .i8 (sKind zs k), .int .i64 (sAt zs k)] 52)).cell? ⟨wr.heap.size, 2, none⟩ = some (.int .i64 (sAt zs k)) := by simp [go_sem]
      have BS : Below (wr.alloc (.cells #[.string (sName zs k), .int .i8 (sKind zs k), .int .i64 (sAt zs k)] 52)).heap.size (wr.alloc (.cells #[.string (sName zs k), .int .i8 (sKind zs k), .int .i64 (sAt zs k)] 52)) (wr.alloc (.cells #[.string (sName zs k), .int .i8 (sKind zs k), .int .i64 (sAt zs k)] 52)) := Below.refl _ _
      have CN := objname_raw (sName zs k)
      cases h1 : nameOK (sName zs k) with
      | false =>
        rw [h1] at CN
        have HE : Hid (symE zs nc k = 20) := by unfold Hid symE; rw [if_pos h1]
        clear h1
        go_wp2_with (at_lookup; refine wpList_lookup_own_ok_int _ rfl _ _ 83 rfl 9 3 .i64 law9 Try.underlying83 Try.underlying3 (zero3 _) (w.heap.size + 1) k D rfl (hown.alloc _) _ _ rfl hkey ?_; intro c hat hwc)
        refine (CN _).mono ?_
        rintro e w2 ⟨rfl, rfl⟩
        go_wp2
        go_ret2
        exact ⟨ret2I (by rw [symC, first_hit hlt HT.out (by rw [HE.out]; omega), HE.out]), lb_alloc HB.out _⟩
      | true =>
      rw [h1] at CN
      have HNm : Hid (¬ nameOK (sName zs k) = false) := by rw [Hid, h1]; simp
      clear h1
      cases h2 : Maps.has D (.string (sName zs k).data.toList) with
      | true =>
        have HE : Hid (symE zs nc k = 26) := by unfold Hid symE; rw [if_neg HNm.out, if_pos (met_yes HM.out hlt h2)]
        go_wp2_with (at_lookup; refine wpList_lookup_own_ok_int _ rfl _ _ 83 rfl 9 3 .i64 law9 Try.underlying83 Try.underlying3 (zero3 _) (w.heap.size + 1) k D rfl (hown.alloc _) _ _ rfl hkey ?_; intro c hat hwc)
        refine (CN _).mono ?_
        rintro e w2 ⟨rfl, rfl⟩
        go_wp2
        go_ret2
        exact ⟨ret2I (by rw [symC, first_hit hlt HT.out (by rw [HE.out]; omega), HE.out]), lb_alloc HB.out _⟩
      | false =>
      have HO : Hid (¬ ¬ ofS zs (sName zs k) = (k : Int)) := by rw [Hid]; exact fun h => h (met_no HM.out hlt h2)
      by_cases h3 : sKind zs k < 0
      · have HE : Hid (symE zs nc k = 23) := by unfold Hid symE; rw [if_neg HNm.out, if_neg HO.out, if_pos (Or.inl h3)]
        go_wp2_with (at_lookup; refine wpList_lookup_own_ok_int _ rfl _ _ 83 rfl 9 3 .i64 law9 Try.underlying83 Try.underlying3 (zero3 _) (w.heap.size + 1) k D rfl (hown.alloc _) _ _ rfl hkey ?_; intro c hat hwc)
        refine (CN _).mono ?_
        rintro e w2 ⟨rfl, rfl⟩
        go_wp2
        go_ret2
        exact ⟨ret2I (by rw [symC, first_hit hlt HT.out (by rw [HE.out]; omega), HE.out]), lb_alloc HB.out _⟩
      by_cases h4 : 3 < sKind zs k
      · have HE : Hid (symE zs nc k = 23) := by unfold Hid symE; rw [if_neg HNm.out, if_neg HO.out, if_pos (Or.inr h4)]
        go_wp2_with (at_lookup; refine wpList_lookup_own_ok_int _ rfl _ _ 83 rfl 9 3 .i64 law9 Try.underlying83 Try.underlying3 (zero3 _) (w.heap.size + 1) k D rfl (hown.alloc _) _ _ rfl hkey ?_; intro c hat hwc)
        refine (CN _).mono ?_
        rintro e w2 ⟨rfl, rfl⟩
        go_wp2
        go_ret2
        exact ⟨ret2I (by rw [symC, first_hit hlt HT.out (by rw [HE.out]; omega), HE.out]), lb_alloc HB.out _⟩
      have HK : Hid (¬ (sKind zs k < 0 ∨ 3 < sKind zs k)) := by rw [Hid]; omega
      by_cases h5 : sAt zs k < 0
      · have HE : Hid (symE zs nc k = 22) := by unfold Hid symE; rw [if_neg HNm.out, if_neg HO.out, if_neg HK.out, if_pos (Or.inl h5)]
        go_wp2_with (at_lookup; refine wpList_lookup_own_ok_int _ rfl _ _ 83 rfl 9 3 .i64 law9 Try.underlying83 Try.underlying3 (zero3 _) (w.heap.size + 1) k D rfl (hown.alloc _) _ _ rfl hkey ?_; intro c hat hwc)
        refine (CN _).mono ?_
        rintro e w2 ⟨rfl, rfl⟩
        go_upto_region 12 with fail
        go_big_quiet (fail)
        go_wp2
        go_ret2
        exact ⟨ret2I (by rw [symC, first_hit hlt HT.out (by rw [HE.out]; omega), HE.out]), below_drewN (lb_alloc HB.out _) _⟩
      have h5d : decide (sAt zs k < 0) = false := decide_eq_false h5
      by_cases h6 : lastP (sKind zs k) nc < sAt zs k
      · have h6d : decide (lastP (sKind zs k) nc < sAt zs k) = true := decide_eq_true h6
        have HE : Hid (symE zs nc k = 22) := by
          have h6' := h6
          unfold lastP at h6'
          unfold Hid symE; rw [if_neg HNm.out, if_neg HO.out, if_neg HK.out, if_pos (by split at h6' <;> omega)]
        go_wp2_with (at_lookup; refine wpList_lookup_own_ok_int _ rfl _ _ 83 rfl 9 3 .i64 law9 Try.underlying83 Try.underlying3 (zero3 _) (w.heap.size + 1) k D rfl (hown.alloc _) _ _ rfl hkey ?_; intro c hat hwc)
        refine (CN _).mono ?_
        rintro e w2 ⟨rfl, rfl⟩
        clear CN
        go_upto_region 12 with fail
        go_region_held3 (fun W => Below (wr.alloc (.cells #[.string (sName zs k), .int .i8 (sKind zs k), .int .i64 (sAt zs k)] 52)).heap.size (wr.alloc (.cells #[.string (sName zs k), .int .i8 (sKind zs k), .int .i64 (sAt zs k)] 52)) W ∧ W.cell? ⟨w.heap.size, 0, none⟩ = some (.string nm) ∧ W.cell? ⟨w.heap.size, 1, none⟩ = some (.slice A1 nc c1) ∧ W.cell? ⟨w.heap.size, 2, none⟩ = some (.int .i64 dA) ∧ W.cell? ⟨w.heap.size, 3, none⟩ = some (.slice A2 nd c2) ∧ W.cell? ⟨w.heap.size, 4, none⟩ = some (.slice (some a) zs.length c3) ∧ W.cell? ⟨w.heap.size, 5, none⟩ = some (.slice A4 nr c4) ∧ W.cell? ⟨wr.heap.size, 0, none⟩ = some (.string (sName zs k)) ∧ W.cell? ⟨wr.heap.size, 1, none⟩ = some (.int .i8 (sKind zs k)) ∧ W.cell? ⟨wr.heap.size, 2, none⟩ = some (.int .i64 (sAt zs k))) (first | (refine ⟨lb_trans ?_ hb, lkeep hb ?_, lkeep hb ?_, lkeep hb ?_, lkeep hb ?_, lkeep hb ?_, lkeep hb ?_, lkeep hb ?_, lkeep hb ?_, lkeep hb ?_⟩ <;> first | assumption | exact (‹Below _ _ _ ∧ _›).1 | exact Below.drew (by assumption) | (simp [*]; done)) | (refine ⟨?_, ?_, ?_, ?_, ?_, ?_, ?_, ?_, ?_, ?_⟩ <;> first | assumption | exact Below.drew (by assumption) | exact Below.drew (‹Below _ _ _ ∧ _›).1 | (simp [*]; done)))
          (first
            | (go_at_call 77; refine (last_any nm dA (sKind zs k) A1 A2 (some a) A4 nc c1 nd c2 zs.length c3 nr c4 _).mono ?_; rintro e w5 ⟨rfl, hb⟩))
        rename_i hS'
        have HB5 : Hid (Below w.heap.size w _) := lb_trans (lb_alloc HB.out _) hS'.1
        go_wp2
        go_ret2
        exact ⟨ret2I (by rw [symC, first_hit hlt HT.out (by rw [HE.out]; omega), HE.out]), HB5.out⟩
      · have h6d : decide (lastP (sKind zs k) nc < sAt zs k) = false := decide_eq_false h6
        have HE : Hid (symE zs nc k = 0) := by
          have h6' := h6
          unfold lastP at h6'
          unfold Hid symE; rw [if_neg HNm.out, if_neg HO.out, if_neg HK.out, if_neg (by split at h6' <;> omega)]
        go_wp2_with (at_lookup; refine wpList_lookup_own_ok_int _ rfl _ _ 83 rfl 9 3 .i64 law9 Try.underlying83 Try.underlying3 (zero3 _) (w.heap.size + 1) k D rfl (hown.alloc _) _ _ rfl hkey ?_; intro c hat hwc)
        refine (CN _).mono ?_
        rintro e w2 ⟨rfl, rfl⟩
        clear CN
        go_upto_region 12 with fail
        go_region_held3 (fun W => Below (wr.alloc (.cells #[.string (sName zs k), .int .i8 (sKind zs k), .int .i64 (sAt zs k)] 52)).heap.size (wr.alloc (.cells #[.string (sName zs k), .int .i8 (sKind zs k), .int .i64 (sAt zs k)] 52)) W ∧ W.cell? ⟨w.heap.size, 0, none⟩ = some (.string nm) ∧ W.cell? ⟨w.heap.size, 1, none⟩ = some (.slice A1 nc c1) ∧ W.cell? ⟨w.heap.size, 2, none⟩ = some (.int .i64 dA) ∧ W.cell? ⟨w.heap.size, 3, none⟩ = some (.slice A2 nd c2) ∧ W.cell? ⟨w.heap.size, 4, none⟩ = some (.slice (some a) zs.length c3) ∧ W.cell? ⟨w.heap.size, 5, none⟩ = some (.slice A4 nr c4) ∧ W.cell? ⟨wr.heap.size, 0, none⟩ = some (.string (sName zs k)) ∧ W.cell? ⟨wr.heap.size, 1, none⟩ = some (.int .i8 (sKind zs k)) ∧ W.cell? ⟨wr.heap.size, 2, none⟩ = some (.int .i64 (sAt zs k))) (first | (refine ⟨lb_trans ?_ hb, lkeep hb ?_, lkeep hb ?_, lkeep hb ?_, lkeep hb ?_, lkeep hb ?_, lkeep hb ?_, lkeep hb ?_, lkeep hb ?_, lkeep hb ?_⟩ <;> first | assumption | exact (‹Below _ _ _ ∧ _›).1 | exact Below.drew (by assumption) | (simp [*]; done)) | (refine ⟨?_, ?_, ?_, ?_, ?_, ?_, ?_, ?_, ?_, ?_⟩ <;> first | assumption | exact Below.drew (by assumption) | exact Below.drew (‹Below _ _ _ ∧ _›).1 | (simp [*]; done)))
          (first
            | (go_at_call 77; refine (last_any nm dA (sKind zs k) A1 A2 (some a) A4 nc c1 nd c2 zs.length c3 nr c4 _).mono ?_; rintro e w5 ⟨rfl, hb⟩))
        rename_i hS'
        obtain ⟨sB, s0, s1, s2, s3, s4, s5, t0, t1, t2⟩ := hS'
        have hlt' : w.heap.size + 1 < (wr.alloc (.cells #[.string (sName zs k), .int .i8 (sKind zs k), .int .i64 (sAt zs k)] 52)).heap.size := by
          have := hown.lt; simp; omega
        have hown5 := ownsMap_below (hown.alloc (.cells #[.string (sName zs k), .int .i8 (sKind zs k), .int .i64 (sAt zs k)] 52)) sB hlt'
        have HB5 : Hid (Below (w.alloc (.cells #[.string nm, .slice A1 nc c1, .int .i64 dA, .slice A2 nd c2, .slice (some a) zs.length c3, .slice A4 nr c4] 49)).heap.size (w.alloc (.cells #[.string nm, .slice A1 nc c1, .int .i64 dA, .slice A2 nd c2, .slice (some a) zs.length c3, .slice A4 nr c4] 49)) _) := lb_trans (lb_alloc HB0.out _) sB
        clear sB g0 g1 g2 g3 g4 g5 g6 g7 g8 BS hown
        go_wp2_with (at_mapUpdate; refine wpList_mapUpdate_own _ rfl _ _ _ 83 rfl 9 3 law9 Try.underlying83 _ (w.heap.size + 1) k _ rfl hown5 (by unfold maxLen; omega) _ _ _ rfl rfl hkey _ [] (plainElem_int Try.underlying3 (WalkArith.wf_i64 (by omega))) ?_; intro w6 hown6 hgrow6)
        go_roundw
        case rel => exact ⟨k + 1, _, by go_num, by omega, HB5.out.grown (by assumption) HB5.out.size (fun j hj => by cases hj; simp), by assumption, met_step HM.out, fun j hj => by
            by_cases hjk : j = k
            · rw [hjk]; exact HE.out
            · exact HT.out j (by omega)⟩
        case measure => simp [intOf]; omega
    · have HC : Hid (symC zs nc = (0, 0)) := first_none fun j hj => HT.out j (by omega)
      go_wp2
      go_ret2
      exact ⟨ret2I (by rw [HC.out]), HB.out⟩




end Go.Proofs.Ytiihfkjgdhfmiaa

namespace Go.Proofs.Ytiihfkjgdhfmiaa
open Go.RowKit

/-- Nothing is other but what lies in block g, and new blocks. -/
def But (g : Nat) (w w' : World) : Prop := w'.os = w.os ∧ w'.tape = w.tape ∧ w'.output = w.output ∧ w.heap.size ≤ w'.heap.size ∧ ∀ k, k < w.heap.size → k ≠ g → w'.heap[k]? = w.heap[k]?
theorem But.refl (g : Nat) (w : World) : But g w w := ⟨rfl, rfl, rfl, Nat.le_refl _, fun _ _ _ => rfl⟩
theorem But.trans {g : Nat} {a b c : World} (h : But g a b) (k : But g b c) : But g a c :=
  ⟨k.1.trans h.1, k.2.1.trans h.2.1, k.2.2.1.trans h.2.2.1, Nat.le_trans h.2.2.2.1 k.2.2.2.1, fun i hi hn => (k.2.2.2.2 i (Nat.lt_of_lt_of_le hi h.2.2.2.1) hn).trans (h.2.2.2.2 i hi hn)⟩
theorem But.of {g : Nat} {w w' : World} (h : Below w.heap.size w w') : But g w w' := ⟨h.os, h.tape, h.output, h.size, fun k hk _ => h.block k hk⟩
theorem But.on {g : Nat} {a b c : World} (h : But g a b) (k : Below b.heap.size b c) : But g a c := h.trans (But.of k)
theorem But.set {g : Nat} {a b : World} (h : But g a b) (i : Nat) (v : Value) : But g a (b.setCell ⟨g, i, none⟩ v) :=
  h.trans ⟨rfl, rfl, rfl, Nat.le_of_eq (by simp [go_sem]), fun k _ hn => Below.heap_setCell _ _ _ _ hn⟩
theorem But.drewN {g : Nat} {a b : World} (h : But g a b) (n : Nat) : But g a (b.drewN n) := h
theorem But.cell {g : Nat} {w w' : World} (h : But g w w') {p : Addr} {v : Value} (hp : p.block ≠ g) (hc : w.cell? p = some v) : w'.cell? p = some v := by
  rw [World.cell?_of_block (w := w) (h.2.2.2.2 p.block (World.block_lt_of_cell? w _ hc) hp)]; exact hc
theorem But.below {g : Nat} {w0 w w' : World} (h : But g w w') (hb : Below w0.heap.size w0 w) (hg : w0.heap.size ≤ g) : Below w0.heap.size w0 w' :=
  ⟨h.1.trans hb.os, h.2.1.trans hb.tape, h.2.2.1.trans hb.output, Nat.le_trans hb.size h.2.2.2.1, fun k hk => (h.2.2.2.2 k (Nat.lt_of_lt_of_le hk hb.size) (by omega)).trans (hb.block k hk)⟩
/-- The marks: as many as an object's code may be long. -/
def MarksAt (w : World) (g : Nat) (m : Nat → Bool) : Prop := (∀ i, i < 16384 → w.cell? ⟨g, i, none⟩ = some (.bool (m i))) ∧ ∀ i, w.frozen? ⟨g, i, none⟩ = false
theorem MarksAt.keep {w w' : World} {g : Nat} {m : Nat → Bool} (h : MarksAt w g m) (hb : Below w.heap.size w w') : MarksAt w' g m :=
  ⟨fun i hi => lkeep hb (h.1 i hi), fun i => by
    have hl : g < w.heap.size := World.block_lt_of_cell? w _ (h.1 0 (by omega))
    rw [hb.frozen (p := ⟨g, i, none⟩) hl]; exact h.2 i⟩
theorem MarksAt.set {w : World} {g : Nat} {m : Nat → Bool} (h : MarksAt w g m) (i : Nat) : MarksAt (w.setCell ⟨g, i, none⟩ (.bool true)) g (fun j => j == i || m j) :=
  ⟨fun j hj => by
    by_cases hij : j = i
    · subst hij
      simp [go_sem, h.1 j hj]
    · have e : (j == i) = false := by simpa using hij
      simp only [e, Bool.false_or]
      rw [← h.1 j hj]
      simp [go_sem], fun j => by rw [← h.2 j]; simp [go_sem]⟩
theorem MarksAt.drewN {w : World} {g : Nat} {m : Nat → Bool} (h : MarksAt w g m) (n : Nat) : MarksAt (w.drewN n) g m := h
/-- Each place that is marked holds no target but 0. -/
def Safe (code : List Int) (m : Nat → Bool) : Prop := ∀ i, m i = true → tgV (nth code i) = 0
theorem Safe.set {code : List Int} {m : Nat → Bool} (h : Safe code m) (i : Nat) (e : tgV (nth code i) = 0) : Safe code (fun j => j == i || m j) := fun j hj => by
  simp at hj
  rcases hj with rfl | hj
  · exact e
  · exact h j hj
/-- The place ahead of which the next relocation may not lie. -/
def aheadV (zs : List Rel) (k : Nat) : Int := if k = 0 then -1 else rAt zs (k - 1)
theorem ahead_zero (zs : List Rel) : aheadV zs 0 = -1 := rfl
theorem ahead_succ (zs : List Rel) (k : Nat) : aheadV zs (k + 1) = rAt zs k := by unfold aheadV; rw [if_neg (by omega)]; rfl
theorem rel_past {zs : List Rel} {code : List Int} {ns k : Nat} (h : ∀ j, j < k → relE zs code ns j = 0) : -1 ≤ aheadV zs k := by
  unfold aheadV
  split
  · omega
  · next hk =>
    have := h (k - 1) (by omega)
    unfold relE at this
    split at this
    · omega
    · next h1 => omega
theorem rel_bad {zs : List Rel} {code : List Int} {ns k : Nat} (h : ∀ j, j < k → relE zs code ns j = 0) (e : rAt zs k ≤ aheadV zs k ∨ (code.length : Int) ≤ rAt zs k ∨ rSym zs k < 0 ∨ (ns : Int) ≤ rSym zs k) : relE zs code ns k = 24 := by
  have hp := rel_past h
  unfold aheadV at e hp
  unfold relE
  rw [if_pos]
  split at e
  · omega
  · rename_i hk; rw [if_neg hk] at hp; omega
theorem rel_fine {zs : List Rel} {code : List Int} {ns k : Nat} (h : ∀ j, j < k → relE zs code ns j = 0) (e : ¬ rAt zs k ≤ aheadV zs k) (e2 : ¬ (code.length : Int) ≤ rAt zs k) (e3 : ¬ rSym zs k < 0) (e4 : ¬ (ns : Int) ≤ rSym zs k) :
    0 ≤ rAt zs k ∧ (isT (nth code (rAt zs k).toNat) = false ∨ ¬ tgV (nth code (rAt zs k).toNat) = 0 → relE zs code ns k = 24) ∧ (¬ (isT (nth code (rAt zs k).toNat) = false ∨ ¬ tgV (nth code (rAt zs k).toNat) = 0) → relE zs code ns k = 0) := by
  have hp := rel_past h
  have h0 : 0 ≤ rAt zs k := by omega
  have hx : ¬ (rAt zs k < 0 ∨ (code.length : Int) ≤ rAt zs k ∨ (0 < k ∧ rAt zs k ≤ rAt zs (k - 1)) ∨ rSym zs k < 0 ∨ (ns : Int) ≤ rSym zs k) := by
    unfold aheadV at e
    split at e
    · omega
    · omega
  refine ⟨h0, fun hh => ?_, fun hh => ?_⟩
  · unfold relE; rw [if_neg hx, if_pos hh]
  · unfold relE; rw [if_neg hx, if_neg hh]




end Go.Proofs.Ytiihfkjgdhfmiaa
