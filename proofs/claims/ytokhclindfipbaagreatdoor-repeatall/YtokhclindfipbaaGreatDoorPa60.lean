/-
  WideImage, SpareImage, EqImage and heavy of the statements, each by what it returns; the lists have at most 2^20 items. Plain: three pairs of instructions.
-/
import Derived.Test.YtokhclindfipbaaGreatDoorProg
import Derived.WalkKit
import Derived.WalkSpells
import Derived.WalkLawsBesides
import Derived.RowKit3
import Derived.Below
import Derived.Deep.QuietTactic
import Derived.BigQuiet
import Derived.WalkSmall
import Derived.Laws.Rows
import Derived.Test.YtokhclindfipbaaGreatDoorPa59
import Derived.Test.YtokhclindfipbaaGreatDoorPa06
import Derived.Test.YtokhclindfipbaaGreatDoorPa16
import Derived.Test.YtokhclindfipbaaGreatDoorPa47
import Derived.Test.YtokhclindfipbaaGreatDoorPa49
namespace Go.Proofs.YtokhclindfipbaaGreatDoor
open Go.RowKit

def wideC1 (text : List Int) : Obj := .cells (wcur (wInt .u32 text) (fun _ => .int .u32 0) (text.length + 64) (text.length + 64)) 93
def wideC2 (mem : List Int) : Obj := .cells (wcur (wInt .i64 mem) (fun _ => .int .i64 0) (mem.length + 64) (mem.length + 64)) 2
theorem wideimg_lies (A1 A2 : Option Addr) (c1 c2 : Nat) (text mem : List Int) (ent : Int) (w : World) (hT : IntsAt w A1 .u32 text) (hM : IntsAt w A2 .i64 mem) (hl : text.length ≤ 1048576) (hm : mem.length ≤ 1048576) :
    Calls Tryz.prog 6 #[.agg #[.slice A1 text.length c1, .int .i64 ent, .slice A2 mem.length c2]] w fun e w' => ∃ g1 g2 : Nat, e = .returned (.agg #[.slice (some ⟨g1, 0, none⟩) text.length (text.length + 64), .int .i64 ent, .slice (some ⟨g2, 0, none⟩) mem.length (mem.length + 64)]) ∧ Below w.heap.size w w' ∧ IntsAt w' (some ⟨g1, 0, none⟩) .u32 text ∧ MarkI w' .u32 g1 text.length ∧ IntsAt w' (some ⟨g2, 0, none⟩) .i64 mem ∧ MarkI w' .i64 g2 mem.length := by
  go_enter Tryz.func6, Tryz.ntmps6
  go_wp2_with fail
  refine (widewords_any A1 c1 text _ (hT.keep (lb_alloc (lb_alloc (Below.refl _ _) _) _)) hl).mono ?_
  rintro e w1 ⟨rfl, rfl⟩
  go_wp2_with fail
  refine (widelongs_any A2 c2 mem _ (hM.keep (lb_alloc (lb_alloc (lb_alloc (Below.refl _ _) _) _) _)) hm).mono ?_
  rintro e w1 ⟨rfl, rfl⟩
  go_wp2
  refine bodyPost_ret (v := .agg #[.slice (some ⟨w.heap.size + 2, 0, none⟩) text.length (text.length + 64), .int .i64 ent, .slice (some ⟨w.heap.size + 3, 0, none⟩) mem.length (mem.length + 64)]) (by simp [results, Tryz.results6, go_sem]) rfl ⟨_, _, rfl, lb_alloc (lb_alloc (lb_alloc (lb_alloc (Below.refl _ _) _) _) _) _, ?_, ?_, ?_, ?_⟩
  · have h := (wide_ints ((w.alloc (.cells #[.slice (some ⟨w.heap.size + 2, 0, none⟩) text.length (text.length + 64), .int .i64 ent, .slice (some ⟨w.heap.size + 3, 0, none⟩) mem.length (mem.length + 64)] 25)).alloc (.cells #[.slice (some ⟨w.heap.size + 2, 0, none⟩) text.length (text.length + 64), .int .i64 ent, .slice (some ⟨w.heap.size + 3, 0, none⟩) mem.length (mem.length + 64)] 25)) .u32 (fun _ => .int .u32 0) text 93).keep (lb_alloc (Below.refl _ _) (.cells (wcur (wInt .i64 mem) (fun _ => .int .i64 0) (mem.length + 64) (mem.length + 64)) 2))
    rw [al_size, al_size] at h
    exact h
  · have h := (wide_marki ((w.alloc (.cells #[.slice (some ⟨w.heap.size + 2, 0, none⟩) text.length (text.length + 64), .int .i64 ent, .slice (some ⟨w.heap.size + 3, 0, none⟩) mem.length (mem.length + 64)] 25)).alloc (.cells #[.slice (some ⟨w.heap.size + 2, 0, none⟩) text.length (text.length + 64), .int .i64 ent, .slice (some ⟨w.heap.size + 3, 0, none⟩) mem.length (mem.length + 64)] 25)) .u32 (fun _ => .int .u32 0) text 93).keep (lb_alloc (Below.refl _ _) (.cells (wcur (wInt .i64 mem) (fun _ => .int .i64 0) (mem.length + 64) (mem.length + 64)) 2))
    rw [al_size, al_size] at h
    exact h
  · have h := wide_ints (((w.alloc (.cells #[.slice (some ⟨w.heap.size + 2, 0, none⟩) text.length (text.length + 64), .int .i64 ent, .slice (some ⟨w.heap.size + 3, 0, none⟩) mem.length (mem.length + 64)] 25)).alloc (.cells #[.slice (some ⟨w.heap.size + 2, 0, none⟩) text.length (text.length + 64), .int .i64 ent, .slice (some ⟨w.heap.size + 3, 0, none⟩) mem.length (mem.length + 64)] 25)).alloc (.cells (wcur (wInt .u32 text) (fun _ => .int .u32 0) (text.length + 64) (text.length + 64)) 93)) .i64 (fun _ => .int .i64 0) mem 2
    rw [al_size, al_size, al_size] at h
    exact h
  · have h := wide_marki (((w.alloc (.cells #[.slice (some ⟨w.heap.size + 2, 0, none⟩) text.length (text.length + 64), .int .i64 ent, .slice (some ⟨w.heap.size + 3, 0, none⟩) mem.length (mem.length + 64)] 25)).alloc (.cells #[.slice (some ⟨w.heap.size + 2, 0, none⟩) text.length (text.length + 64), .int .i64 ent, .slice (some ⟨w.heap.size + 3, 0, none⟩) mem.length (mem.length + 64)] 25)).alloc (.cells (wcur (wInt .u32 text) (fun _ => .int .u32 0) (text.length + 64) (text.length + 64)) 93)) .i64 (fun _ => .int .i64 0) mem 2
    rw [al_size, al_size, al_size] at h
    exact h
theorem spareimg_any (ent : Int) (g1 n1 g2 n2 : Nat) (w : World) (m1 : MarkI w .u32 g1 n1) (m2 : MarkI w .i64 g2 n2) (b1 : n1 ≤ 1048576) (b2 : n2 ≤ 1048576) :
    Calls Tryz.prog 16 #[.agg #[.slice (some ⟨g1, 0, none⟩) n1 (n1 + 64), .int .i64 ent, .slice (some ⟨g2, 0, none⟩) n2 (n2 + 64)]] w fun e w' => e = .returned (.bool true) ∧ Below w.heap.size w w' := by
  go_enter Tryz.func16, Tryz.ntmps16
  go_wp2_with fail
  refine (sparewords_any g1 n1 _ (m1.keep (lb_alloc (Below.refl _ _) _)) b1).mono ?_
  rintro e w0 ⟨rfl, rfl⟩
  go_wp2_with fail
  refine (sparelongs_any g2 n2 _ (m2.keep (lb_alloc (Below.refl _ _) _)) b2).mono ?_
  rintro e w1 ⟨rfl, rfl⟩
  go_wp2
  go_ret
  exact ⟨rfl, lb_alloc (Below.refl _ _) _⟩
theorem eqimg_same (A1 A2 B1 B2 : Option Addr) (c1 c2 e1 e2 : Nat) (text mem : List Int) (ent : Int) (w : World) (hT : IntsAt w A1 .u32 text) (hM : IntsAt w A2 .i64 mem) (gT : IntsAt w B1 .u32 text) (gM : IntsAt w B2 .i64 mem) (hl : text.length ≤ 1048576) (hm : mem.length ≤ 1048576) :
    Calls Tryz.prog 15 #[.agg #[.slice A1 text.length c1, .int .i64 ent, .slice A2 mem.length c2], .agg #[.slice B1 text.length e1, .int .i64 ent, .slice B2 mem.length e2]] w fun e w' => e = .returned (.bool true) ∧ Below w.heap.size w w' := by
  have E0 := fun wx (hx : Below w.heap.size w wx) => eqwords_any A1 B1 c1 e1 text text wx (hT.keep hx) (gT.keep hx) hl
  simp only [decide_true] at E0
  have E1 := fun wx (hx : Below w.heap.size w wx) => eqlongs_any A2 B2 c2 e2 mem mem wx (hM.keep hx) (gM.keep hx) hm
  simp only [decide_true] at E1
  go_enter Tryz.func15, Tryz.ntmps15
  go_wp2_with fail
  refine (E0 _ (lb_alloc (lb_alloc (Below.refl _ _) _) _)).mono ?_
  rintro e w0 ⟨rfl, hb0⟩
  have HB0 : Hid (Below w.heap.size w w0) := lb_trans (lb_alloc (lb_alloc (Below.refl _ _) _) _) hb0
  have q0a0 : w0.cell? ⟨w.heap.size, 0, none⟩ = some (.slice A1 text.length c1) := lkeep hb0 (by simp [go_sem])
  have q0a1 : w0.cell? ⟨w.heap.size, 1, none⟩ = some (.int .i64 ent) := lkeep hb0 (by simp [go_sem])
  have q0a2 : w0.cell? ⟨w.heap.size, 2, none⟩ = some (.slice A2 mem.length c2) := lkeep hb0 (by simp [go_sem])
  have q0b0 : w0.cell? ⟨w.heap.size + 1, 0, none⟩ = some (.slice B1 text.length e1) := lkeep hb0 (by simp [go_sem])
  have q0b1 : w0.cell? ⟨w.heap.size + 1, 1, none⟩ = some (.int .i64 ent) := lkeep hb0 (by simp [go_sem])
  have q0b2 : w0.cell? ⟨w.heap.size + 1, 2, none⟩ = some (.slice B2 mem.length e2) := lkeep hb0 (by simp [go_sem])
  clear hb0
  go_wp2_with fail
  refine (E1 _ (HB0.out)).mono ?_
  rintro e w1 ⟨rfl, hb1⟩
  have HB1 : Hid (Below w.heap.size w w1) := lb_trans (HB0.out) hb1
  clear hb1
  go_wp2
  go_ret
  exact ⟨rfl, HB1.out⟩
/-- What heavy answers. -/
def HvP (n1 n2 : Nat) (w : World) (e : Ending) (w' : World) : Prop := ∃ B : Bool, e = .returned (.bool B) ∧ (B = false → n1 ≤ 32768 ∧ n2 ≤ 8192) ∧ Below w.heap.size w w'


end Go.Proofs.YtokhclindfipbaaGreatDoor

namespace Go.Proofs.YtokhclindfipbaaGreatDoor
open Go.RowKit

def T7 : List Int := [142606341, 1879572482, 142606341, 1879572482, 142606341, 1879572482, 2818572288]
def N7 : List Int := [0, 1, 0, 1, 0, 1, 2]
def e7 : Nat → Nat := enK (begF T7 0) 7
theorem T7_check : (checkI T7 0 0).1 = 0 := by kernel_rfl
theorem T7_num : numL T7 T7.length = N7 := by kernel_rfl
theorem T7_range : ∀ i, i < T7.length → 0 ≤ nth T7 i ∧ nth T7 i < 4294967296 := by decide
theorem N7_suf : sufN N7 = [0, 2, 4, 1, 3, 5, 6] := (sufN_uniq ⟨by decide, by decide⟩).symm
def cpZ (A : List Nat) (l : List Int) (r : Nat) : Nat := if r = 0 then 0 else cpS l (snth A (r - 1)) (snth A r)
def rowZ (A : List Nat) (nm : List Int) (en : Nat → Nat) (f n : Nat) : List (Nat × Nat) := ((List.range n).filter fun n => decide (max 2 (cpZ A nm f + 1) ≤ n) && decide (2 ≤ (plcR nm en (snth A f) n).length)).map fun n => (n, snth (plcR nm en (snth A f) n) 0)
def preZ (A : List Nat) (nm : List Int) (en : Nat → Nat) : Nat → List (Nat × Nat)
  | 0 => []
  | f + 1 => preZ A nm en f ++ rowZ A nm en f (nm.length + 1)
theorem preZ_is (nm : List Int) (en : Nat → Nat) : ∀ k, preE nm en k = preZ (sufN nm) nm en k
  | 0 => rfl
  | k + 1 => by rw [preE, preZ, preZ_is nm en k]; rfl
theorem N7_each : eachL N7 e7 = [(2, 0), (3, 0), (4, 0), (2, 1), (3, 1)] := by
  unfold eachL
  rw [preZ_is, N7_suf]
  kernel_rfl
theorem N7_td : tdL N7 e7 (eachL N7 e7) = [(2, [0, 2, 4]), (3, [0, 2]), (4, [0, 2]), (2, [1, 3]), (3, [1, 3])] := by
  rw [N7_each]
  kernel_rfl
theorem N7_few : (eachL N7 e7).length = 5 ∧ smP (tdL N7 e7 (eachL N7 e7)) = 11 := by
  rw [N7_td, N7_each]
  decide
theorem N7_plc : plcS N7 e7 1 2 = [1, 3] := by kernel_rfl
theorem N7_end : e7 1 = 7 ∧ hrB N7 e7 3 5 = false := ⟨by kernel_rfl, by kernel_rfl⟩


end Go.Proofs.YtokhclindfipbaaGreatDoor
