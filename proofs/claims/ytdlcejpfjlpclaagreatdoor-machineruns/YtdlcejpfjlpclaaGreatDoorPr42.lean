/-
  An image, or bytes, that came in, opened: the lists, where they lie; no condition. A list of numbers, or a number, that came in, opened; no condition.
-/
import Derived.Test.YtdlcejpfjlpclaaGreatDoorProg
import Derived.WalkKit
import Derived.ProofKit
import Derived.OpenShut
import Derived.Stop.Joined
import Derived.Carry
import Derived.Lib.SmallJoins
import Derived.Deep.SlicePairs
import Derived.Deep.Strs
import Derived.SizedLaws
import Derived.Test.YtdlcejpfjlpclaaGreatDoorPr04
import Derived.WalkSpells
import Derived.WalkLawsBesides
import Derived.RowKit3
import Derived.Below
import Derived.Deep.QuietTactic
import Derived.BigQuiet
import Derived.WalkSmall
import Derived.Laws.Rows
namespace Go.Proofs.YtdlcejpfjlpclaaGreatDoor
open Go.ChangeShapes Go.WideShapes Go.ChangeAt Go.RowKit Go.Joins

theorem open_i {H : Type} {enc : TypeId × Value → H} {W : World} {base : Nat} {sp : Nat → Bool} {held : Bool} {fuel : Nat} {cs : List Value} {x : DataW H × List MemPlace} {t e : TypeId} {k : IntKind} (ht : Tryz.prog.underlying t = some (.slice e)) (he : Tryz.prog.underlying e = some (.int k)) (hc : Tryz.prog.cellsOf e = 1) (h : DataW.trod enc Tryz.prog W base sp held fuel t cs = some x) :
    ∃ (O : Option Addr) (cap : Nat) (zs : List Int), cs = [.slice O zs.length cap] ∧ IntsAt W O k zs ∧ zs.length ≤ maxLen ∧ (∀ i, i < zs.length → (Lit.int k (nth zs i)).wf = true) ∧ (O = none → cap = 0) := by
  rcases open_ints ht he hc h with ⟨rfl, _⟩ | ⟨a, len, cap, zs, rfl, _, hl, hm, hz, _, hcell, hwf⟩
  · exact ⟨none, 0, [], rfl, fun i hi => by simp at hi, by simp, fun i hi => by simp at hi, fun _ => rfl⟩
  · have hlen : len ≤ zs.length := by rw [hz]; split <;> omega
    have hn : ∀ i, i < len → nth (zs.take len) i = zs.getD i 0 := fun i hi => by simp [nth, List.getD, hi]
    have hl2 : (zs.take len).length = len := by rw [List.length_take, Nat.min_eq_left hlen]
    refine ⟨some a, cap, zs.take len, by rw [hl2], ?_, by omega, ?_, fun h => by cases h⟩
    · intro i hi
      rw [hl2] at hi
      exact ⟨a, rfl, by rw [hn i hi]; exact hcell i (by omega)⟩
    · intro i hi
      rw [hl2] at hi
      rw [hn i hi]
      refine hwf _ ?_
      simp [List.getD, show i < zs.length by omega]
set_option maxRecDepth 100000 in
theorem open_bs {H : Type} {enc : TypeId × Value → H} {W : World} {b0 base : Nat} {sp : Nat → Bool} {held : Bool} {v : Value} {d : DataW H} {p : List MemPlace} (hv : Value.okWide Tryz.prog W .any b0 116 v) (h : DataW.Trod enc Tryz.prog W base sp held 116 v d p) :
    ∃ (O : Option Addr) (cap : Nat) (zs : List Int), v = .slice O zs.length cap ∧ IntsAt W O .u8 zs ∧ zs.length ≤ maxLen ∧ (∀ i, i < zs.length → 0 ≤ nth zs i ∧ nth zs i < 256) ∧ (O = none → cap = 0) := by
  obtain ⟨a, len, c, rfl⟩ := okWide_slice Tryz.underlying116 hv
  obtain ⟨fuel, hf⟩ := h
  obtain ⟨O, cap, zs, e, k, hl, hwf, u⟩ := open_i Tryz.underlying116 Tryz.underlying5 (by kernel_rfl) hf
  refine ⟨O, cap, zs, ?_, k, hl, fun i hi => ?_, u⟩
  · simpa [Value.cells] using e
  · have := hwf i hi
    simp [Lit.wf, IntKind.min, IntKind.max, IntKind.signed, IntKind.bits] at this
    omega

theorem three {cs : Array Value} (h : cs.size = 3) : ∃ a b c, cs = #[a, b, c] := by
  obtain ⟨l⟩ := cs
  match l, h with
  | [a, b, c], _ => exact ⟨a, b, c, rfl⟩
set_option maxRecDepth 100000 in
theorem openImg {H : Type} {enc : TypeId × Value → H} {W : World} {b0 base : Nat} {spare : Nat → Bool} {held : Bool} {v : Value} {d : DataW H} {p : List MemPlace}
    (hv : Value.okWide Tryz.prog W .any b0 25 v) (h : DataW.Trod enc Tryz.prog W base spare held 25 v d p) :
    ∃ (ent : Int) (A1 A2 : Option Addr) (c1 c2 : Nat) (text mem : List Int), v = .agg #[.slice A1 text.length c1, .int .i64 ent, .slice A2 mem.length c2] ∧
      IntsAt W A1 .u32 text ∧ IntsAt W A2 .i64 mem ∧ (∀ i, i < text.length → 0 ≤ nth text i ∧ nth text i < 4294967296) ∧ (∀ i, i < mem.length → -9223372036854775808 ≤ nth mem i ∧ nth mem i < 9223372036854775808) ∧ (A1 = none → c1 = 0) ∧ (A2 = none → c2 = 0) := by
  obtain ⟨cs, rfl, hsz⟩ := okWide_struct Tryz.underlying25 hv
  obtain ⟨v0, v1, v2, rfl⟩ := three (hsz.trans (by kernel_rfl))
  obtain ⟨fuel, hf⟩ := h
  obtain ⟨xs, n, _, hdd, _, hlen, hf⟩ := DataW.trod_struct Tryz.underlying25 hf
  match xs, hlen with
  | [y0, y1, y2], _ =>
    have h0 := hf 0 _ rfl
    have h1 := hf 1 _ rfl
    have h2 := hf 2 _ rfl
    simp [Value.cells, show Tryz.prog.cellsOf 22 = 1 by kernel_rfl, show Tryz.prog.cellsOf 3 = 1 by kernel_rfl, show Tryz.prog.cellsOf 23 = 1 by kernel_rfl] at h0 h1 h2
    obtain ⟨A1, c1, text, e0, k0, _, r0, u1⟩ := open_i Tryz.underlying22 Tryz.underlying36 (by kernel_rfl) h0
    obtain ⟨ent, e1, _, _⟩ := DataW.trod_int Tryz.underlying3 h1
    obtain ⟨A2, c2, mem, e2, k2, _, r2, u2⟩ := open_i Tryz.underlying23 Tryz.underlying2 (by kernel_rfl) h2
    simp at e0 e1 e2
    subst e0 e1 e2
    refine ⟨ent, A1, A2, c1, c2, text, mem, rfl, k0, k2, fun i hi => ?_, fun i hi => ?_, u1, u2⟩
    · have := r0 i hi
      simp [Lit.wf, IntKind.min, IntKind.max, IntKind.signed, IntKind.bits] at this
      omega
    · have := r2 i hi
      simp [Lit.wf, IntKind.min, IntKind.max, IntKind.signed, IntKind.bits] at this
      omega


end Go.Proofs.YtdlcejpfjlpclaaGreatDoor

namespace Go.Proofs.YtdlcejpfjlpclaaGreatDoor
open Go.ChangeShapes Go.WideShapes Go.ChangeAt Go.RowKit Go.Joins

set_option maxRecDepth 100000 in
theorem openLongs {H : Type} {enc : TypeId × Value → H} {W : World} {b0 base : Nat} {sp : Nat → Bool} {held : Bool} {v : Value} {d : DataW H} {p : List MemPlace} (hv : Value.okWide Tryz.prog W .any b0 23 v) (h : DataW.Trod enc Tryz.prog W base sp held 23 v d p) :
    ∃ (O : Option Addr) (cap : Nat) (zs : List Int), v = .slice O zs.length cap ∧ IntsAt W O .i64 zs ∧ zs.length ≤ maxLen ∧ (O = none → cap = 0) := by
  obtain ⟨a, len, c, rfl⟩ := okWide_slice Tryz.underlying23 hv
  obtain ⟨fuel, hf⟩ := h
  obtain ⟨O, cap, zs, e, k, hl, hwf, u⟩ := open_i Tryz.underlying23 Tryz.underlying2 (by kernel_rfl) hf
  refine ⟨O, cap, zs, ?_, k, hl, u⟩
  simpa [Value.cells] using e

set_option maxRecDepth 100000 in
theorem openInt {W : World} {b0 : Nat} {v : Value} (hv : Value.okWide Tryz.prog W .any b0 3 v) : ∃ x : Int, v = .int .i64 x := by
  obtain ⟨x, rfl, _⟩ := okWide_int Tryz.underlying3 hv
  exact ⟨x, rfl⟩

end Go.Proofs.YtdlcejpfjlpclaaGreatDoor
