/-
  The document's sorting by merging, plain. The document's sorted and Array.
-/
import Derived.Test.YtokhclindfipbaaGreatDoorProg
import Derived.WalkKit
import Derived.WalkSpells
import Derived.WalkLawsBesides
import Derived.RowKit3
import Derived.Below
import Derived.Deep.QuietTactic
import Derived.BigQuiet
import Derived.WalkSmall
import Derived.Laws.Rows
import Derived.Test.YtokhclindfipbaaGreatDoorPa04
import Derived.Deep.Cut
import Derived.Deep.LoopGhost
import Derived.Test.YtokhclindfipbaaGreatDoorPa27
import Derived.Test.YtokhclindfipbaaGreatDoorPa18
namespace Go.Proofs.YtokhclindfipbaaGreatDoor
open Go.RowKit

/-- Not greater. -/
def leS (l : List Int) (i k : Nat) : Bool := !lsS l k i
theorem leS_trans (l : List Int) (a b c : Nat) (h1 : leS l a b = true) (h2 : leS l b c = true) : leS l a c = true := by
  unfold leS at *
  rw [Bool.not_eq_true'] at h1 h2 ⊢
  cases h3 : lsS l c a with
  | false => rfl
  | true =>
    exfalso
    by_cases e1 : l.drop a = l.drop b
    · have : lsS l c b = true := by unfold lsS at h3 ⊢; rw [← e1]; exact h3
      rw [this] at h2; cases h2
    · rcases ltL_total e1 with x | x
      · have := ltL_trans h3 x
        have h2 : ltL (l.drop c) (l.drop b) = false := h2
        rw [this] at h2; cases h2
      · have h1 : ltL (l.drop b) (l.drop a) = false := h1
        rw [x] at h1; cases h1
theorem leS_total (l : List Int) (a b : Nat) : (leS l a b || leS l b a) = true := by
  unfold leS
  cases h1 : lsS l b a with
  | false => rfl
  | true => rw [lsS_asym h1]; rfl
/-- The places from one to below another, in order. -/
structure SrtP (l : List Int) (f t : Nat) (R : List Nat) : Prop where
  perm : R.Perm (List.range' f (t - f))
  ord : R.Pairwise fun i k => leS l i k = true
theorem SrtP.len {l : List Int} {f t : Nat} {R : List Nat} (h : SrtP l f t R) : R.length = t - f := by rw [h.perm.length_eq, List.length_range']
theorem SrtP.lt {l : List Int} {f t : Nat} {R : List Nat} (h : SrtP l f t R) {x : Nat} (hx : x ∈ R) : x < t := by
  rw [h.perm.mem_iff, List.mem_range'_1] at hx
  omega
theorem SrtP.none (l : List Int) (f : Nat) : SrtP l f f [] := ⟨by rw [Nat.sub_self]; exact List.Perm.refl _, List.Pairwise.nil⟩
theorem SrtP.one {l : List Int} {f t : Nat} (h : t = f + 1) : SrtP l f t [f] := ⟨by rw [h, show f + 1 - f = 1 by omega]; exact List.Perm.refl _, by simp⟩
theorem SrtP.merge {l : List Int} {f m t : Nat} {A B : List Nat} (h1 : f ≤ m) (h2 : m ≤ t) (ha : SrtP l f m A) (hb : SrtP l m t B) : SrtP l f t (List.merge A B (leS l)) := by
  refine ⟨?_, List.pairwise_merge (leS_trans l) (leS_total l) A B ha.ord hb.ord⟩
  refine List.Perm.trans (List.merge_perm_append (leS l)) ?_
  have e : List.range' f (t - f) = List.range' f (m - f) ++ List.range' m (t - m) := by
    have := List.range'_append_1 (s := f) (m := m - f) (n := t - m)
    rw [show f + (m - f) = m by omega, show m - f + (t - m) = t - f by omega] at this
    exact this.symm
  rw [e]
  exact ha.perm.append hb.perm
theorem SrtP.all {l : List Int} {R : List Nat} (h : SrtP l 0 l.length R) : R = sufN l := by
  have hp : R.Perm (List.range l.length) := by rw [List.range_eq_range']; exact h.perm
  refine sufN_uniq ⟨hp, ?_⟩
  have hn : R.Nodup := hp.nodup_iff.2 List.nodup_range
  refine (h.ord.and hn).imp_of_mem fun {a b} ha hb x => ?_
  have ha : a < l.length := by rw [hp.mem_iff, List.mem_range] at ha; exact ha
  have hb : b < l.length := by rw [hp.mem_iff, List.mem_range] at hb; exact hb
  rcases lsS_total ha hb x.2 with y | y
  · exact y
  · have := x.1
    unfold leS at this
    rw [y] at this; cases this
/-- A merging under way. -/
def Mrg (l : List Int) (A B O : List Nat) (p q : Nat) : Prop := List.merge A B (leS l) = O ++ List.merge (A.drop p) (B.drop q) (leS l)
theorem Mrg.start (l : List Int) (A B : List Nat) : Mrg l A B [] 0 0 := rfl
theorem ndrop {A : List Nat} {p : Nat} (h : p < A.length) : A.drop p = snth A p :: A.drop (p + 1) := by
  rw [List.drop_eq_getElem_cons h]
  simp [snth, h]
theorem Mrg.left {l : List Int} {A B O : List Nat} {p q : Nat} (h : Mrg l A B O p q) (hp : p < A.length) (hq : q < B.length) (hl : lsS l (snth B q) (snth A p) = false) : Mrg l A B (O ++ [snth A p]) (p + 1) q := by
  unfold Mrg at *
  rw [h, ndrop hp, ndrop hq, List.cons_merge_cons_pos _ _ _ (by unfold leS; rw [hl]; rfl), List.append_assoc]
  rfl
theorem Mrg.right {l : List Int} {A B O : List Nat} {p q : Nat} (h : Mrg l A B O p q) (hp : p < A.length) (hq : q < B.length) (hl : lsS l (snth B q) (snth A p) = true) : Mrg l A B (O ++ [snth B q]) p (q + 1) := by
  unfold Mrg at *
  rw [h, ndrop hp, ndrop hq, List.cons_merge_cons_neg _ _ _ (by unfold leS; rw [hl]; simp), List.append_assoc, ← ndrop hp]
  rfl
theorem Mrg.done {l : List Int} {A B O : List Nat} {p q : Nat} (h : Mrg l A B O p q) (he : A.length ≤ p ∨ B.length ≤ q) : List.merge A B (leS l) = O ++ A.drop p ++ B.drop q := by
  unfold Mrg at h
  rw [h, List.append_assoc]
  congr 1
  rcases he with e | e
  · rw [List.drop_eq_nil_of_le e, List.nil_append, List.nil_merge]
  · rw [List.drop_eq_nil_of_le e, List.append_nil, List.merge_right]
def natL (R : List Nat) : List Int := R.map fun p => ((p : Nat) : Int)
theorem natL_len (R : List Nat) : (natL R).length = R.length := by simp [natL]
theorem natL_nth {R : List Nat} {i : Nat} (h : i < R.length) : nth (natL R) i = ((snth R i : Nat) : Int) := by simp [nth, natL, snth, h]
theorem natL_app (R S : List Nat) : natL (R ++ S) = natL R ++ natL S := by simp [natL]





end Go.Proofs.YtokhclindfipbaaGreatDoor

namespace Go.Proofs.YtokhclindfipbaaGreatDoor
open Go.RowKit

def lenV : Value → Nat
  | .slice _ n _ => n
  | _ => 0
def SrtR (l : List Int) (f t : Nat) (w : World) (e : Ending) (w' : World) : Prop := ∃ (R : List Nat) (A : Option Addr) (c : Nat), e = .returned (.slice A R.length c) ∧ w'.ownsRow w.heap.size 3 1 (.slice A R.length c) R.length (iVals .i64 (natL R)) ∧ SrtP l f t R ∧ Below w.heap.size w w'
def tlA (X : Addr) (c : Nat) : Addr := if c = 1 then X else X.add 1
theorem tail_run (X : Addr) (n c : Nat) (h0 : 0 < n) (_h : n ≤ c) (w : World) : (Instr.slice 22 (.slice (some X) n c) (some (.int .i64 1)) none none).run Tryz.prog w = .ok (.slice (some (tlA X c)) (n - 1) (c - 1)) w := by
  rw [run_slice_l (P := Tryz.prog) w 22 (some X) n c (by kernel_rfl) .i64 1 (by omega) (by omega)]
  rw [show (sizeOf (Tryz.prog.elem 22)).run Tryz.prog w = .ok 1 w by kernel_rfl]
  show Result.ok (sliced (some X) 1 n c 1) w = _
  unfold sliced tlA
  by_cases e : c = 1
  · rw [if_pos e, if_pos e]
  · rw [if_neg e, if_neg e]; rfl
theorem add_add1 (X : Addr) (i : Nat) : (X.add 1).add i = X.add (i + 1) := by
  unfold Addr.add
  by_cases e : i = 0
  · subst e; simp
  · simp [e]; omega
theorem tl_ints {w : World} {X : Addr} {x : Int} {L : List Int} {c : Nat} (h : IntsAt w (some X) .i64 (x :: L)) (hc : L.length + 1 ≤ c) : IntsAt w (some (tlA X c)) .i64 L := fun i hi => by
  obtain ⟨a, ea, q⟩ := h (i + 1) (by simpa using hi)
  obtain rfl := Option.some.inj ea
  refine ⟨_, rfl, ?_⟩
  unfold tlA
  rw [if_neg (by omega), add_add1]
  rw [q]; rfl
theorem hd_ints {w : World} {X : Addr} {x : Int} {L : List Int} (h : IntsAt w (some X) .i64 (x :: L)) : w.cell? X = some (.int .i64 x) := by
  obtain ⟨a, ea, q⟩ := h 0 (by simp)
  obtain rfl := Option.some.inj ea
  exact q
theorem natL_drop {R : List Nat} {p : Nat} (h : p < R.length) : natL (R.drop p) = ((snth R p : Nat) : Int) :: natL (R.drop (p + 1)) := by
  rw [ndrop h]; rfl
theorem ints_news {w : World} {X : Addr} {L : List Int} (h : IntsAt w (some X) .i64 L) (j : Nat) (u : Value) (hu : (iVals .i64 L)[j]? = some u) : w.cell? (X.add j) = some u := by
  have hj : j < L.length := by
    have := (List.getElem?_eq_some_iff.1 hu).1
    simpa [iVals] using this
  obtain ⟨a, ea, q⟩ := h j hj
  obtain rfl := Option.some.inj ea
  rw [q, ← hu, iVals_get hj]
theorem ints_one (L : List Int) : ∀ u ∈ iVals .i64 L, u.oneCell' = true := fun u hu => by
  unfold iVals at hu
  obtain ⟨x, _, rfl⟩ := List.mem_map.1 hu
  rfl
theorem iVals_app (L M : List Int) : iVals .i64 (L ++ M) = iVals .i64 L ++ iVals .i64 M := by simp [iVals]
theorem snth_mem {A : List Nat} {i : Nat} (h : i < A.length) : snth A i ∈ A := List.mem_of_getElem? (snth_get h)
theorem own_some {w : World} {b n c : Nat} {A : Option Addr} {xs : List Value} (h : w.ownsRow b 3 1 (.slice A n c) n xs) (h0 : 0 < n) : ∃ X, A = some X ∧ n ≤ c := by
  rcases h.2 with ⟨_, e⟩ | ⟨g, cap, cur, e, _, _, hc, _⟩
  · omega
  · cases e
    exact ⟨_, rfl, hc⟩
theorem own_form2 {w : World} {b n : Nat} {v : Value} {xs : List Value} (h : w.ownsRow b 3 1 v n xs) : ∃ A c, v = .slice A n c ∧ n ≤ c := by
  rcases h.2 with ⟨e, e2⟩ | ⟨g, cap, cur, e, _, _, hc, _⟩
  · exact ⟨none, 0, by rw [e, e2], by omega⟩
  · exact ⟨_, _, e, hc⟩


end Go.Proofs.YtokhclindfipbaaGreatDoor
