/-
  The statements' own small test, lives, returns true; the law ObjectNames returns true for every text; no condition.
-/
import Derived.Test.YtbphfgalgiinnaaProg
import Derived.WalkKit
import Derived.WalkSpells
import Derived.WalkLawsBesides
import Derived.RowKit3
import Derived.Below
import Derived.Deep.QuietTactic
import Derived.BigQuiet
import Derived.WalkSmall
import Derived.Test.YtbphfgalgiinnaaObj
import Derived.Test.YtbphfgalgiinnaaWideLies
namespace Go.Proofs.Ytbphfgalgiinnaa
open Go.RowKit

def oneC : List Int := [2281701376, 2818572288]
def oneS : List Sym := [(⟨#[102]⟩, 3, 0)]
def oneR : List Rel := [(0, 0)]
theorem one_raw (nm : ByteArray) (w : World) : Calls Try.prog 21 #[.string nm] w fun e w' => e = .returned (.agg #[.string nm, .slice (some ⟨w.heap.size + 1, 0, none⟩) 2 2, .int .i64 0, .slice none 0 0, .slice (some ⟨w.heap.size + 2, 0, none⟩) 1 1, .slice (some ⟨w.heap.size + 3, 0, none⟩) 1 1]) ∧
    w' = (((w.alloc (.cells #[.string nm, .slice (some ⟨w.heap.size + 1, 0, none⟩) 2 2, .int .i64 0, .slice none 0 0, .slice (some ⟨w.heap.size + 2, 0, none⟩) 1 1, .slice (some ⟨w.heap.size + 3, 0, none⟩) 1 1] 27)).alloc (.cells #[.int .u32 2281701376, .int .u32 2818572288] 45)).alloc (.cells #[.string ⟨#[102]⟩, .int .i8 3, .int .i64 0] 42)).alloc (.cells #[.int .i64 0, .int .i64 0] 44) := by
  go_enter Try.func21, Try.ntmps21
  go_wp2
  exact bodyPost_ret (v := .agg #[.string nm, .slice (some ⟨w.heap.size + 1, 0, none⟩) 2 2, .int .i64 0, .slice none 0 0, .slice (some ⟨w.heap.size + 2, 0, none⟩) 1 1, .slice (some ⟨w.heap.size + 3, 0, none⟩) 1 1]) (by simp [results, Try.results21, go_sem]) rfl ⟨rfl, rfl⟩
theorem one_any (nm : ByteArray) (w : World) : Calls Try.prog 21 #[.string nm] w fun e w' => ∃ g1 g2 g3 : Nat, e = .returned (.agg #[.string nm, .slice (some ⟨g1, 0, none⟩) 2 2, .int .i64 0, .slice none 0 0, .slice (some ⟨g2, 0, none⟩) 1 1, .slice (some ⟨g3, 0, none⟩) 1 1]) ∧ Below w.heap.size w w' ∧ IntsAt w' (some ⟨g1, 0, none⟩) .u32 oneC ∧ SymsAt w' (some ⟨g2, 0, none⟩) oneS ∧ RelsAt w' (some ⟨g3, 0, none⟩) oneR := by
  refine (one_raw nm w).mono ?_
  rintro e w' ⟨rfl, rfl⟩
  refine ⟨w.heap.size + 1, w.heap.size + 2, w.heap.size + 3, rfl, lb_alloc (lb_alloc (lb_alloc (lb_alloc (Below.refl _ _) _) _) _) _, ?_, ?_, ?_⟩
  · intro i hi
    refine ⟨_, rfl, ?_⟩
    rw [addz]
    have : i = 0 ∨ i = 1 := by simp [oneC] at hi; omega
    rcases this with rfl | rfl <;> simp [go_sem, oneC, nth]
  · intro i hi
    have : i = 0 := by simp [oneS] at hi; omega
    subst this
    refine ⟨_, rfl, ?_, ?_, ?_⟩
    · rw [addz]; simp [go_sem, oneS, sName]
    · rw [addz2 _ _ _ (by omega)]; simp [go_sem, oneS, sKind]
    · rw [addz2 _ _ _ (by omega)]; simp [go_sem, oneS, sAt]
  · intro i hi
    have : i = 0 := by simp [oneR] at hi; omega
    subst this
    refine ⟨_, rfl, ?_, ?_⟩
    · rw [addz]; simp [go_sem, oneR, rAt]
    · rw [addz2 _ _ _ (by omega)]; simp [go_sem, oneR, rSym]
theorem one_of : ofS oneS ⟨#[102]⟩ = 0 := by simp [ofS, ofFrom, oneS]
theorem one_sym (nc : Nat) : symC oneS nc = (0, 0) := first_none fun j hj => by
  have : j = 0 := by simp [oneS] at hj; omega
  subst this
  have h1 : nameOK (sName oneS 0) = true := by decide +kernel
  have h2 : ofS oneS (sName oneS 0) = ((0 : Nat) : Int) := one_of
  have h3 : sKind oneS 0 = 3 := rfl
  have h4 : sAt oneS 0 = 0 := rfl
  unfold symE
  rw [if_neg (by rw [h1]; simp), if_neg (by rw [h2]; simp), if_neg (by rw [h3]; omega), if_neg (by rw [h3, h4]; omega)]
theorem one_check (nm : ByteArray) (h : nameOK nm = true) : checkC nm oneC 0 0 oneS oneR = (0, 0) := by
  have h1 : sizeC true oneC.length oneS.length oneR.length 0 0 = (0, 0) := by decide +kernel
  have h2 : relC oneR oneC oneS.length = (0, 0) := by decide +kernel
  have h3 : codC oneC = (0, 0) := by decide +kernel
  unfold checkC
  rw [h, h1, one_sym, h2, h3]
  simp
theorem none_check (nm : ByteArray) (h : nameOK nm = false) : checkC nm oneC 0 0 oneS oneR = (20, -1) := by
  have h1 : sizeC false oneC.length oneS.length oneR.length 0 0 = (20, -1) := by decide +kernel
  unfold checkC
  rw [h, h1]
  simp
theorem one_names (i : Nat) : (sName oneS i).size ≤ 140737488355328 := by
  cases i with
  | zero => show (1 : Nat) ≤ 140737488355328; omega
  | succ i => show (0 : Nat) ≤ 140737488355328; omega
theorem onechk (nm : ByteArray) (g1 g2 g3 : Nat) (E M : Int) (h : checkC nm oneC 0 0 oneS oneR = (E, M)) (w : World) (hC : IntsAt w (some ⟨g1, 0, none⟩) .u32 oneC) (hS : SymsAt w (some ⟨g2, 0, none⟩) oneS) (hL : RelsAt w (some ⟨g3, 0, none⟩) oneR) : Calls Try.prog 9 #[.agg #[.string nm, .slice (some ⟨g1, 0, none⟩) 2 2, .int .i64 0, .slice none 0 0, .slice (some ⟨g2, 0, none⟩) 1 1, .slice (some ⟨g3, 0, none⟩) 1 1]] w fun e w' => e = .returned (.tuple #[.int .i64 E, .int .i64 M]) ∧ Below w.heap.size w w' := by
  have k := objcheck_any nm 0 (some ⟨g1, 0, none⟩) none (some ⟨g2, 0, none⟩) (some ⟨g3, 0, none⟩) 2 0 0 1 1 oneC oneS oneR w hC hS hL (fun i hi => by
    have : i = 0 ∨ i = 1 := by simp [oneC] at hi; omega
    rcases this with rfl | rfl <;> decide) (by decide) (by decide) (by decide) (by decide) one_names (by omega)
  rw [h] at k
  exact k
theorem oneof (nm : ByteArray) (g1 g2 g3 : Nat) (w : World) (hS : SymsAt w (some ⟨g2, 0, none⟩) oneS) : Calls Try.prog 11 #[.agg #[.string nm, .slice (some ⟨g1, 0, none⟩) 2 2, .int .i64 0, .slice none 0 0, .slice (some ⟨g2, 0, none⟩) 1 1, .slice (some ⟨g3, 0, none⟩) 1 1], .string ⟨#[102]⟩] w fun e w' => e = .returned (.int .i64 0) ∧ Below w.heap.size w w' := by
  have k := objof_any nm 0 (some ⟨g1, 0, none⟩) none (some ⟨g3, 0, none⟩) (some ⟨g2, 0, none⟩) 2 2 0 0 1 1 1 oneS ⟨#[102]⟩ w hS (by decide)
  rw [one_of] at k
  exact k
theorem oneat (nm : ByteArray) (g1 g2 g3 : Nat) (w : World) (hL : RelsAt w (some ⟨g3, 0, none⟩) oneR) : Calls Try.prog 13 #[.agg #[.string nm, .slice (some ⟨g1, 0, none⟩) 2 2, .int .i64 0, .slice none 0 0, .slice (some ⟨g2, 0, none⟩) 1 1, .slice (some ⟨g3, 0, none⟩) 1 1], .int .i64 1] w fun e w' => e = .returned (.int .i64 (-1)) ∧ Below w.heap.size w w' := by
  have k := objat_any nm 0 (some ⟨g1, 0, none⟩) none (some ⟨g2, 0, none⟩) (some ⟨g3, 0, none⟩) 2 2 0 0 1 1 1 oneR 1 w hL (by decide)
  rw [show atR oneR 1 = -1 by decide +kernel] at k
  exact k
theorem nameAt (s : ByteArray) (b : Bool) (h : nameOK s = b) (w : World) : Calls Try.prog 18 #[.string s] w fun e w' => e = .returned (.bool b) ∧ Below w.heap.size w w' := by
  have k := objname_any s w
  rw [h] at k; exact k
set_option maxRecDepth 100000 in
set_option maxHeartbeats 2000000 in
theorem lives_any (w : World) : Calls Try.prog 7 #[] w fun e w' => e = .returned (.bool true) ∧ Below w.heap.size w w' := by
  have K1 := one_check ⟨#[109, 97, 105, 110]⟩ (by decide +kernel)
  have K2 := none_check ⟨#[]⟩ (by decide +kernel)
  have HK1 : Hid _ := K1
  have HK2 : Hid _ := K2
  clear K1 K2
  go_enter Try.func7, Try.ntmps7
  go_wp2_with fail
  refine (one_any _ _).mono ?_
  rintro e w1 ⟨x1, y1, z1, rfl, hb1, hC1, hS1, hL1⟩
  have HB1 : Hid (Below w.heap.size w w1) := hb1
  have HC1 : Hid _ := hC1
  have HS1 : Hid _ := hS1
  have HL1 : Hid _ := hL1
  clear hb1 hC1 hS1 hL1
  go_wp2_with fail
  refine (onechk _ _ _ _ _ _ HK1.out _ HC1.out HS1.out HL1.out).mono ?_
  rintro e w2 ⟨rfl, hb2⟩
  have HB2 : Hid (Below w.heap.size w w2) := lb_trans HB1.out hb2
  clear hb2
  go_wp2_with fail
  refine (one_any _ _).mono ?_
  rintro e w3 ⟨x3, y3, z3, rfl, hb3, hC3, hS3, hL3⟩
  have HB3 : Hid (Below w.heap.size w w3) := lb_trans HB2.out hb3
  have HC3 : Hid _ := hC3
  have HS3 : Hid _ := hS3
  have HL3 : Hid _ := hL3
  clear hb3 hC3 hS3 hL3
  go_wp2_with fail
  refine (onechk _ _ _ _ _ _ HK2.out _ HC3.out HS3.out HL3.out).mono ?_
  rintro e w4 ⟨rfl, hb4⟩
  have HB4 : Hid (Below w.heap.size w w4) := lb_trans HB3.out hb4
  clear hb4
  go_wp2_with fail
  refine (nameAt _ true (by decide +kernel) _).mono ?_
  rintro e w5 ⟨rfl, hb5⟩
  have HB5 : Hid (Below w.heap.size w w5) := lb_trans HB4.out hb5
  clear hb5
  go_wp2_with fail
  refine (nameAt _ false (by decide +kernel) _).mono ?_
  rintro e w6 ⟨rfl, hb6⟩
  have HB6 : Hid (Below w.heap.size w w6) := lb_trans HB5.out hb6
  clear hb6
  go_wp2_with fail
  refine (one_any _ _).mono ?_
  rintro e w7 ⟨x7, y7, z7, rfl, hb7, hC7, hS7, hL7⟩
  have HB7 : Hid (Below w.heap.size w w7) := lb_trans HB6.out hb7
  have HC7 : Hid _ := hC7
  have HS7 : Hid _ := hS7
  have HL7 : Hid _ := hL7
  clear hb7 hC7 hS7 hL7
  go_wp2_with fail
  refine (oneof _ _ _ _ _ HS7.out).mono ?_
  rintro e w8 ⟨rfl, hb8⟩
  have HB8 : Hid (Below w.heap.size w w8) := lb_trans HB7.out hb8
  clear hb8
  go_wp2_with fail
  refine (one_any _ _).mono ?_
  rintro e w9 ⟨x9, y9, z9, rfl, hb9, hC9, hS9, hL9⟩
  have HB9 : Hid (Below w.heap.size w w9) := lb_trans HB8.out hb9
  have HC9 : Hid _ := hC9
  have HS9 : Hid _ := hS9
  have HL9 : Hid _ := hL9
  clear hb9 hC9 hS9 hL9
  go_wp2_with fail
  refine (oneat _ _ _ _ _ HL9.out).mono ?_
  rintro e w10 ⟨rfl, hb10⟩
  have HB10 : Hid (Below w.heap.size w w10) := lb_trans HB9.out hb10
  clear hb10
  go_wp2
  go_ret
  exact ⟨rfl, HB10.out⟩
theorem long_any (n : Int) (w : World) : Calls Try.prog 17 #[.int .i64 n] w fun e w' => e = .returned (.bool (decide (2147483647 < n))) ∧ w' = w := by
  go_enter Try.func17, Try.ntmps17
  go_wp2
  go_ret
  exact ⟨rfl, rfl⟩
set_option maxRecDepth 100000 in
set_option maxHeartbeats 2000000 in
theorem lawNames (s : ByteArray) (w : World) : Calls Try.prog 4 #[.string s] w fun e w' => e = .returned (.bool true) ∧ Below w.heap.size w w' := by
  have CL := long_any s.size
  by_cases h : (2147483647 : Int) < s.size
  · rw [decide_eq_true h] at CL
    go_enter Try.func4, Try.ntmps4
    go_wp2_with fail
    refine (CL _).mono ?_
    rintro e w1 ⟨rfl, rfl⟩
    go_wp2
    go_ret
    exact ⟨rfl, Below.refl _ _⟩
  · rw [decide_eq_false h] at CL
    have CO := objname_any s
    have CR := refname_any s
    generalize nameOK s = b at CO CR
    go_enter Try.func4, Try.ntmps4
    go_wp2_with fail
    refine (CL _).mono ?_
    rintro e w1 ⟨rfl, rfl⟩
    go_wp2_with fail
    refine (CO _).mono ?_
    rintro e w2 ⟨rfl, hb2⟩
    go_wp2_with fail
    refine (CR _).mono ?_
    rintro e w3 ⟨rfl, rfl⟩
    go_wp2_with fail
    refine (lives_any _).mono ?_
    rintro e w4 ⟨rfl, hb4⟩
    go_wp2
    go_ret
    exact ⟨rfl, lb_trans hb2 hb4⟩


end Go.Proofs.Ytbphfgalgiinnaa
