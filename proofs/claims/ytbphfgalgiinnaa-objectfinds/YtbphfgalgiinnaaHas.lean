/-
  Has of package isa, for every op that is an int8's number.
-/
import Derived.Test.YtbphfgalgiinnaaShapes
namespace Go.Proofs.Ytbphfgalgiinnaa
open Go.RowKit


set_option maxRecDepth 100000 in
theorem isahas_any (op : Int) (h8 : op ≤ 127) (w : World) : Calls Try.prog 70 #[.int .i8 op] w fun e w' => e = .returned (.tuple #[.bool (hD op), .bool (hA op), .bool (hB op), .bool (hN op), .bool (hP op)]) ∧ Below w.heap.size w w' := by
  have CK := known_any op h8
  by_cases hr : 0 ≤ op ∧ op ≤ 21
  · rw [decide_eq_true hr] at CK
    obtain ⟨b1, b2, b4, b8, b16⟩ := sh_bits op hr.1 hr.2
    have hI := index_sh op hr.1 hr.2
    have C1 := fun wx => fhas_any (sh op) 1 wx
    have C2 := fun wx => fhas_any (sh op) 2 wx
    have C4 := fun wx => fhas_any (sh op) 4 wx
    have C8 := fun wx => fhas_any (sh op) 8 wx
    have C16 := fun wx => fhas_any (sh op) 16 wx
    rw [b1] at C1; rw [b2] at C2; rw [b4] at C4; rw [b8] at C8; rw [b16] at C16
    clear b1 b2 b4 b8 b16
    go_enter Try.func70, Try.ntmps70
    go_wp2_with fail
    refine (CK _).mono ?_
    rintro e w1 ⟨rfl, rfl⟩
    go_wp2_with fail
    refine (shapes_any _).mono ?_
    rintro e w2 ⟨rfl, hb⟩
    have HB : Hid (Below w1.heap.size w1 w2) := hb
    clear hb CK
    go_wp2_with fail
    refine (C1 _).mono ?_
    rintro e w3 ⟨rfl, rfl⟩
    go_wp2_with fail
    refine (C2 _).mono ?_
    rintro e w3 ⟨rfl, rfl⟩
    go_wp2_with fail
    refine (C4 _).mono ?_
    rintro e w3 ⟨rfl, rfl⟩
    go_wp2_with fail
    refine (C8 _).mono ?_
    rintro e w3 ⟨rfl, rfl⟩
    go_wp2_with fail
    refine (C16 _).mono ?_
    rintro e w3 ⟨rfl, rfl⟩
    go_wp2
    exact bodyPost_ret (v := .tuple #[.bool (hD op), .bool (hA op), .bool (hB op), .bool (hN op), .bool (hP op)]) (by simp [results, Try.results70, go_sem]) rfl ⟨rfl, HB.out⟩
  · rw [decide_eq_false hr] at CK
    have e1 : hD op = false := by unfold hD; exact decide_eq_false (by omega)
    have e2 : hA op = false := by unfold hA; exact decide_eq_false (by omega)
    have e3 : hB op = false := by unfold hB; exact decide_eq_false (by omega)
    have e4 : hN op = false := by unfold hN; exact decide_eq_false (by omega)
    have e5 : hP op = false := by unfold hP; exact decide_eq_false (by omega)
    rw [e1, e2, e3, e4, e5]
    clear e1 e2 e3 e4 e5
    go_enter Try.func70, Try.ntmps70
    go_wp2_with fail
    refine (CK _).mono ?_
    rintro e w1 ⟨rfl, rfl⟩
    go_wp2
    exact bodyPost_ret (v := .tuple #[.bool false, .bool false, .bool false, .bool false, .bool false]) (by simp [results, Try.results70, go_sem]) rfl ⟨rfl, Below.refl _ _⟩


end Go.Proofs.Ytbphfgalgiinnaa
