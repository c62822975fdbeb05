/-
  What Read of package image tells, as plain mathematics; no Go in sight. Write and Read one behind the other; no Go in sight.
-/
import Derived.Test.YtfaekkbblpfbhaaDoorIr22
import Derived.Test.YtfaekkbblpfbhaaDoorIr18
import Derived.Test.YtfaekkbblpfbhaaDoorProg
import Derived.WalkKit
import Derived.WalkSpells
import Derived.WalkLawsBesides
import Derived.RowKit3
import Derived.Below
import Derived.Deep.QuietTactic
import Derived.BigQuiet
import Derived.WalkSmall
import Derived.Laws.Rows
import Derived.Test.YtfaekkbblpfbhaaDoorIr19
namespace Go.Proofs.YtfaekkbblpfbhaaDoor
open Go.RowKit

/-- No image. -/
def zImg : Value := .agg #[.slice none 0 0, .int .i64 0, .slice none 0 0]
theorem check_s32 {text : List Int} {ml : Nat} {ent : Int} (h0 : 0 ≤ ent) (h1 : ent < 4294967296) (hl : text.length ≤ 16384) : checkI text ml (s32 ent) = checkI text ml ent := by
  by_cases hs : ent < 2147483648
  · unfold s32; rw [if_pos hs]
  · have e : s32 ent = ent - 4294967296 := by unfold s32; rw [if_neg hs]
    by_cases c0 : text.length = 0
    · rw [check0 c0, check0 c0]
    · by_cases c1 : 16384 < text.length
      · omega
      · by_cases c2 : 4096 < ml
        · rw [check2 c0 c1 c2, check2 c0 c1 c2]
        · rw [check3 c0 c1 c2 (.inl (by omega)), check3 c0 c1 c2 (.inr (by omega))]
theorem s32_may {text : List Int} {ml : Nat} {ent : Int} (h : (checkI text ml ent).1 = 0) : s32 ent = ent := by
  have hp := (check_mayI h).past
  have := hp.ent1
  have := hp.len
  unfold s32
  rw [if_pos (by omega)]
/-- What Read answers. -/
def ReadP (b : List Int) (w : World) (r : Ending) (w' : World) : Prop :=
  Below w.heap.size w w' ∧ ((¬ (tookI b).t.bad = 0 ∧ r = .returned (.tuple #[.agg #[.slice none 0 0, .int .i64 0, .slice none 0 0], .int .i64 (tookI b).t.bad, .int .i64 (tookI b).t.place])) ∨
    ((tookI b).t.bad = 0 ∧ ¬ (checkI (tookI b).text (tookI b).mem.length (tookI b).ent).1 = 0 ∧ r = .returned (.tuple #[.agg #[.slice none 0 0, .int .i64 0, .slice none 0 0], .int .i64 (checkI (tookI b).text (tookI b).mem.length (tookI b).ent).1, .int .i64 (checkI (tookI b).text (tookI b).mem.length (tookI b).ent).2])) ∨
    ((tookI b).t.bad = 0 ∧ (checkI (tookI b).text (tookI b).mem.length (tookI b).ent).1 = 0 ∧ ∃ (A1 A2 : Option Addr) (c1 c2 : Nat), r = .returned (.tuple #[.agg #[.slice A1 (tookI b).text.length c1, .int .i64 (tookI b).ent, .slice A2 (tookI b).mem.length c2], .int .i64 0, .int .i64 0]) ∧ RowsI w' w.heap.size A1 A2 c1 c2 (tookI b).text (tookI b).mem))

end Go.Proofs.YtfaekkbblpfbhaaDoor

namespace Go.Proofs.YtfaekkbblpfbhaaDoor
open Go.RowKit

theorem mem_all {l : List Int} {P : Int → Prop} (hp : ∀ i, i < l.length → P (nth l i)) : ∀ x ∈ l, P x := fun x hx => by
  obtain ⟨i, hi, e⟩ := List.getElem_of_mem hx
  have := hp i hi
  simpa [nth, List.getD, hi, e] using this
/-- What an image that may be is read as. -/
theorem read_back {text mem : List Int} {ent : Int} (h : (checkI text mem.length ent).1 = 0) (hR : ∀ i, i < text.length → 0 ≤ nth text i ∧ nth text i < 4294967296) (hD : ∀ i, i < mem.length → -9223372036854775808 ≤ nth mem i ∧ nth mem i < 9223372036854775808) :
    (tookI (bytesI text ent mem)).text = text ∧ (tookI (bytesI text ent mem)).ent = ent ∧ (tookI (bytesI text ent mem)).mem = mem ∧ (tookI (bytesI text ent mem)).t.bad = 0 := by
  have hp := (check_mayI h).past
  have h1 := hp.len
  have h2 := hp.ent1
  exact tookI_read hp.len (mem_all hR) ⟨hp.ent0, by omega⟩ hp.mem (mem_all hD)
theorem wrote_ok {text mem : List Int} {ent : Int} {w w' : World} {r : Ending} (h : WroteP text ent mem w r w') (hk : (checkI text mem.length ent).1 = 0) :
    ∃ A c, r = .returned (.tuple #[.slice A (bytesI text ent mem).length c, .int .i64 0]) ∧ w'.ownsRow w.heap.size 5 1 (.slice A (bytesI text ent mem).length c) (bytesI text ent mem).length (bNews (bytesI text ent mem)) ∧ IntsAt w' A .u8 (bytesI text ent mem) ∧ (bytesI text ent mem).length ≤ c ∧ Below w.heap.size w w' := by
  unfold WroteP at h
  rw [if_pos hk] at h
  obtain ⟨v, h1, h2, h3⟩ := h
  obtain ⟨A, c, rfl, h4, h5⟩ := own_ints h2
  exact ⟨A, c, h1, h2, h4, h5, h3⟩
theorem wrote_no {text mem : List Int} {ent : Int} {w w' : World} {r : Ending} (h : WroteP text ent mem w r w') (hk : ¬ (checkI text mem.length ent).1 = 0) :
    r = .returned (.tuple #[.slice none 0 0, .int .i64 (checkI text mem.length ent).1]) ∧ Below w.heap.size w w' := by
  unfold WroteP at h
  rw [if_neg hk] at h
  exact h
/-- What is written is read as it. -/
theorem read_ok {text mem : List Int} {ent : Int} {w w' : World} {r : Ending} (h : ReadP (bytesI text ent mem) w r w') (hk : (checkI text mem.length ent).1 = 0) (hR : ∀ i, i < text.length → 0 ≤ nth text i ∧ nth text i < 4294967296) (hD : ∀ i, i < mem.length → -9223372036854775808 ≤ nth mem i ∧ nth mem i < 9223372036854775808) :
    ∃ (A1 A2 : Option Addr) (c1 c2 : Nat), r = .returned (.tuple #[.agg #[.slice A1 text.length c1, .int .i64 ent, .slice A2 mem.length c2], .int .i64 0, .int .i64 0]) ∧ RowsI w' w.heap.size A1 A2 c1 c2 text mem ∧ Below w.heap.size w w' := by
  obtain ⟨e1, e2, e3, e4⟩ := read_back hk hR hD
  obtain ⟨hb, h⟩ := h
  rw [e1, e2, e3] at h
  rcases h with ⟨h0, _⟩ | ⟨_, h0, _⟩ | ⟨_, _, A1, A2, c1, c2, h1, h2⟩
  · exact absurd e4 h0
  · exact absurd hk h0
  · exact ⟨A1, A2, c1, c2, h1, h2, hb⟩
def haltC : List Int := [2818572288]
theorem halt_check : checkI haltC 0 0 = (0, 0) := by decide +kernel
theorem nil_check : checkI [] 0 0 = (50, 0) := by decide +kernel
theorem halt_range (i : Nat) (h : i < haltC.length) : 0 ≤ nth haltC i ∧ nth haltC i < 4294967296 := by
  have : i = 0 := by simp [haltC] at h; omega
  subst this
  simp [haltC, nth]

end Go.Proofs.YtfaekkbblpfbhaaDoor
