/-
  Name of package isa, for every op that is an int8's number, where the names lie as listed.
-/
import Derived.Test.YtfdkefnfebnmgaaDoorNm
import Derived.Test.YtfdkefnfebnmgaaDoorSmall
namespace Go.Proofs.YtfdkefnfebnmgaaDoor
open Go.RowKit


set_option maxRecDepth 100000 in
theorem isaname_any (op : Int) (h8 : op ≤ 127) (w : World) (hn : Nm w) : Calls Tryd.prog 10 #[.int .i8 op] w fun e w' => e = .returned (.string (nameB op)) ∧ Below w.heap.size w w' := by
  have CK := known_any op h8
  by_cases hr : 0 ≤ op ∧ op ≤ 21
  · rw [decide_eq_true hr] at CK
    have hc := hn.cell op hr.1 hr.2
    obtain ⟨h0, h1⟩ := hr
    clear hn
    go_enter Tryd.func10, Tryd.ntmps10
    go_wp2_with fail
    refine (CK _).mono ?_
    rintro e w1 ⟨rfl, rfl⟩
    go_wp2
    go_ret
    exact ⟨rfl, Below.refl _ _⟩
  · rw [decide_eq_false hr] at CK
    have HN : Hid (nameB op = ⟨#[]⟩) := name_out (by omega)
    clear hn
    go_enter Tryd.func10, Tryd.ntmps10
    go_wp2_with fail
    refine (CK _).mono ?_
    rintro e w1 ⟨rfl, rfl⟩
    go_wp2
    go_ret
    exact ⟨by rw [HN.out]; rfl, Below.refl _ _⟩

end Go.Proofs.YtfdkefnfebnmgaaDoor
