/-
  A merging under way, plain. Rows with blocks of their own, marked and grown: what stays; no Go in sight. What the statements need of the program: Of, Compare and Most of suffix, by what they answer.
-/
import Derived.Test.YtokhclindfipbaaProg
import Derived.WalkKit
import Derived.WalkSpells
import Derived.WalkLawsBesides
import Derived.RowKit3
import Derived.Below
import Derived.Deep.QuietTactic
import Derived.BigQuiet
import Derived.WalkSmall
import Derived.Laws.Rows
import Derived.Test.YtokhclindfipbaaPr09
import Derived.Deep.AppendLies
import Derived.Laws.OwnMore
import Derived.Test.YtokhclindfipbaaPr03
namespace Go.Proofs.Ytokhclindfipbaa
open Go.RowKit

/-- So many of the left one and of the right one are taken. -/
structure MrS (o : Nat → Nat → Int) (c : Nat → Nat → Nat) (L R : List Nat) (p q cc : Nat) : Prop where
  pl : p ≤ L.length
  ql : q ≤ R.length
  rest : (mrg o L R).drop (p + q) = mrg o (L.drop p) (R.drop q)
  cost : cc + mrgC o c (L.drop p) (R.drop q) = mrgC o c L R
theorem MrS.start (o : Nat → Nat → Int) (c : Nat → Nat → Nat) (L R : List Nat) : MrS o c L R 0 0 0 := ⟨Nat.zero_le _, Nat.zero_le _, by simp, by simp⟩
theorem sdrop {A : List Nat} {p : Nat} (h : p < A.length) : A.drop p = snth A p :: A.drop (p + 1) := by
  rw [List.drop_eq_getElem_cons h]
  simp [snth, h]
theorem sdrop_eq {A B : List Nat} {p x : Nat} (h : A.drop p = x :: B) : snth A p = x ∧ A.drop (p + 1) = B := by
  have hl : p < A.length := by
    have := congrArg List.length h
    rw [List.length_drop, List.length_cons] at this
    omega
  rw [sdrop hl] at h
  injection h with h1 h2
  exact ⟨h1, h2⟩
theorem MrS.right {o : Nat → Nat → Int} {c : Nat → Nat → Nat} {L R : List Nat} {p q cc : Nat} (h : MrS o c L R p q cc) (hp : p < L.length) (hq : q < R.length) (ho : o (snth R q) (snth L p) < 0) : snth (mrg o L R) (p + q) = snth R q ∧ MrS o c L R p (q + 1) (cc + c (snth R q) (snth L p)) := by
  have h1 := h.rest
  have h2 := h.cost
  rw [sdrop hp, sdrop hq, mrg_right ho] at h1
  rw [sdrop hp, sdrop hq, mrgC_right ho] at h2
  obtain ⟨e1, e2⟩ := sdrop_eq h1
  exact ⟨e1, h.pl, hq, by rw [← Nat.add_assoc, e2, sdrop hp], by rw [sdrop hp]; omega⟩
theorem MrS.left {o : Nat → Nat → Int} {c : Nat → Nat → Nat} {L R : List Nat} {p q cc : Nat} (h : MrS o c L R p q cc) (hp : p < L.length) (hq : q < R.length) (ho : ¬ o (snth R q) (snth L p) < 0) : snth (mrg o L R) (p + q) = snth L p ∧ MrS o c L R (p + 1) q (cc + c (snth R q) (snth L p)) := by
  have h1 := h.rest
  have h2 := h.cost
  rw [sdrop hp, sdrop hq, mrg_left ho] at h1
  rw [sdrop hp, sdrop hq, mrgC_left ho] at h2
  obtain ⟨e1, e2⟩ := sdrop_eq h1
  exact ⟨e1, hp, h.ql, by rw [show p + 1 + q = p + q + 1 by omega, e2, sdrop hq], by rw [sdrop hq]; omega⟩
theorem MrS.alone {o : Nat → Nat → Int} {c : Nat → Nat → Nat} {L R : List Nat} {p q cc : Nat} (h : MrS o c L R p q cc) (hp : p < L.length) (hq : R.length ≤ q) : snth (mrg o L R) (p + q) = snth L p ∧ MrS o c L R (p + 1) q cc := by
  have h1 := h.rest
  have h2 := h.cost
  rw [List.drop_eq_nil_of_le hq, mrg_out, sdrop hp] at h1
  rw [List.drop_eq_nil_of_le hq, mrgC_out] at h2
  obtain ⟨e1, e2⟩ := sdrop_eq h1
  exact ⟨e1, hp, h.ql, by rw [show p + 1 + q = p + q + 1 by omega, e2, List.drop_eq_nil_of_le hq, mrg_out], by rw [List.drop_eq_nil_of_le hq, mrgC_out]; omega⟩
theorem snth_drop (A : List Nat) (p j : Nat) : snth (A.drop p) j = snth A (p + j) := by simp [snth]
theorem MrS.done {o : Nat → Nat → Int} {c : Nat → Nat → Nat} {L R : List Nat} {p q cc : Nat} (h : MrS o c L R p q cc) (hp : L.length ≤ p) : cc = mrgC o c L R ∧ ∀ j, q ≤ j → j < R.length → snth (mrg o L R) (L.length + j) = snth R j := by
  have h1 := h.rest
  have h2 := h.cost
  have hpl := h.pl
  obtain rfl : p = L.length := by omega
  rw [List.drop_eq_nil_of_le (Nat.le_refl _), mrg_nil] at h1
  rw [List.drop_eq_nil_of_le (Nat.le_refl _), mrgC_nil] at h2
  refine ⟨by omega, fun j hj _ => ?_⟩
  have := congrArg (fun l => snth l (j - q)) h1
  simp only [snth_drop] at this
  rw [show L.length + q + (j - q) = L.length + j by omega, show q + (j - q) = j by omega] at this
  exact this



end Go.Proofs.Ytokhclindfipbaa

namespace Go.Proofs.Ytokhclindfipbaa


section
variable {P : Program}
/-- An append of something: in place, or in a block made now with all the others as they were. -/
theorem run_append_two (w : World) (t ty e : TypeId) (i : TypeInfo) (z : Value) (size bytes : Nat) (ht : P.underlying t = some (.slice e)) (hi : P.info? e = some i) (hz : i.zero = some z)
    (hsize : i.size = size) (hby : i.bytes = bytes) (hzs : z.cells.size = size) (hsz : 0 < size)
    (v : Value) (n : Nat) (xs : List Value) (hown : w.ownsRow 0 e size v n xs)
    (a : Addr) (m c : Nat) (news : List Value) (hl : news.length = m * size) (hnews : ∀ j u, news[j]? = some u → w.cell? (a.add j) = some u) (h1 : ∀ u ∈ news, u.oneCell' = true)
    (hm : 0 < m) (h63 : n + m ≤ maxLen) (hbytes : (n + m) * bytes ≤ 140737488355328) :
    ∃ g cap w', (Builtin.append_ #[t, t] ty #[v, .slice (some a) m c]).run P w = .ok (.slice (some ⟨g, 0, none⟩) (n + m) cap) w' ∧
      w'.ownsRow 0 e size (.slice (some ⟨g, 0, none⟩) (n + m) cap) (n + m) (xs ++ news) ∧ w.grownBy w' v.ownBlock ∧ (v = .slice (some ⟨g, 0, none⟩) n cap ∨ (g = w.heap.size ∧ w.grownBy w' none)) := by
  obtain ⟨g', cap', w', hr, h2, h3, h4, _⟩ := run_append_lies (P := P) w t ty 0 e i z size bytes ht hi hz hsize hby hzs hsz v n xs hown a m c news hl hnews h1 hm h63 hbytes (Nat.zero_le _) _ rfl
  rcases hown.2 with ⟨rfl, rfl⟩ | ⟨g, cap, cur, rfl, hbg, hg, hnc, hcm, hcs, htake⟩
  · refine ⟨g', cap', w', hr, h2, h3, .inr ⟨?_, h3⟩⟩
    rcases h4 with h4 | h4
    · cases h4
    · exact h4
  · by_cases hroom : n + m ≤ cap
    · obtain ⟨w2, hr2, h5, h6⟩ := run_append_fits (P := P) w 0 t ty e i size ht hi hsize g n cap xs hown a m c news hl hnews h1 hroom
      exact ⟨g, cap, w2, hr2, h5, h6, .inl rfl⟩
    · subst hsize hby
      have hr2 := run_append_grow (P := P) w t ty e i z ht hi hz ⟨g, 0, none⟩ n cap xs hown.1 (hown.cells (g := g) rfl) a m c news hl hnews (by omega) (by simp only [maxLen] at h63; omega) (growslice_fits (by omega) hbytes)
      have e2 := hr.symm.trans hr2
      simp only [Result.ok.injEq, Value.slice.injEq, Option.some.injEq, Addr.mk.injEq, and_true, true_and] at e2
      obtain ⟨⟨e3, _⟩, e4⟩ := e2
      refine ⟨g', cap', w', hr, h2, h3, .inr ⟨e3, ?_⟩⟩
      rw [e4]
      exact ⟨rfl, rfl, rfl, by simp, fun k hk _ => Go.RowKit.Below.heap_alloc w.drew _ k hk⟩
theorem wp_append_two (w : World) {o : Oper} {a : Act} {K : Act → World → Prop} {Q : Exit → Act → World → Prop} (s x : Operand) (t : TypeId)
    (ho : o.op = .call { callee := .builtin .append, args := #[s, x], argTypes := #[t, t] })
    (e : TypeId) (i : TypeInfo) (z : Value) (size bytes : Nat) (ht : P.underlying t = some (.slice e)) (hi : P.info? e = some i) (hz : i.zero = some z)
    (hsize : i.size = size) (hby : i.bytes = bytes) (hzs : z.cells.size = size) (hsz : 0 < size)
    (v : Value) (n : Nat) (xs : List Value) (hs : a.eval s = v) (hown : w.ownsRow 0 e size v n xs)
    (ad : Addr) (m c : Nat) (news : List Value) (hx : a.eval x = .slice (some ad) m c) (hl : news.length = m * size) (hnews : ∀ j u, news[j]? = some u → w.cell? (ad.add j) = some u) (h1 : ∀ u ∈ news, u.oneCell' = true)
    (hm : 0 < m) (h63 : n + m ≤ maxLen) (hbytes : (n + m) * bytes ≤ 140737488355328)
    (h : ∀ g cap w', w'.ownsRow 0 e size (.slice (some ⟨g, 0, none⟩) (n + m) cap) (n + m) (xs ++ news) → w.grownBy w' v.ownBlock → (v = .slice (some ⟨g, 0, none⟩) n cap ∨ (g = w.heap.size ∧ w.grownBy w' none)) → K (a.put o.dst (.slice (some ⟨g, 0, none⟩) (n + m) cap)) w') : o.wp P a w K Q := by
  obtain ⟨g, cap, w', hr, h2, h3, h4⟩ := run_append_two (P := P) w t o.type e i z size bytes ht hi hz hsize hby hzs hsz v n xs hown ad m c news hl hnews h1 hm h63 hbytes
  unfold Oper.wp execOp
  simp only [ho, resolve, invoke, builtin, Sem.run_bind, Sem.run_pure, Result.andThen_ok, List.map_toArray, List.map_cons, List.map_nil, hs, hx, hr]
  exact h g cap w' h2 h3 h4
theorem wpList_append_two (w : World) {ops : Array Oper} {rest : List Oper} {o : Oper} {a : Act} {Q : Exit → Act → World → Prop} (hgd : o.guard = none) (s x : Operand) (t : TypeId)
    (ho : o.op = .call { callee := .builtin .append, args := #[s, x], argTypes := #[t, t] })
    (e : TypeId) (i : TypeInfo) (z : Value) (size bytes : Nat) (ht : P.underlying t = some (.slice e)) (hi : P.info? e = some i) (hz : i.zero = some z)
    (hsize : i.size = size) (hby : i.bytes = bytes) (hzs : z.cells.size = size) (hsz : 0 < size)
    (v : Value) (n : Nat) (xs : List Value) (hs : a.eval s = v) (hown : w.ownsRow 0 e size v n xs)
    (ad : Addr) (m c : Nat) (news : List Value) (hx : a.eval x = .slice (some ad) m c) (hl : news.length = m * size) (hnews : ∀ j u, news[j]? = some u → w.cell? (ad.add j) = some u) (h1 : ∀ u ∈ news, u.oneCell' = true)
    (hm : 0 < m) (h63 : n + m ≤ maxLen) (hbytes : (n + m) * bytes ≤ 140737488355328)
    (h : ∀ g cap w', w'.ownsRow 0 e size (.slice (some ⟨g, 0, none⟩) (n + m) cap) (n + m) (xs ++ news) → w.grownBy w' v.ownBlock → (v = .slice (some ⟨g, 0, none⟩) n cap ∨ (g = w.heap.size ∧ w.grownBy w' none)) → wpList P ops Q rest (a.put o.dst (.slice (some ⟨g, 0, none⟩) (n + m) cap)) w') : wpList P ops Q (o :: rest) a w :=
  wpList_plain hgd fun _ hK => wp_append_two w s x t ho e i z size bytes ht hi hz hsize hby hzs hsz v n xs hs hown ad m c news hx hl hnews h1 hm h63 hbytes fun g cap w' h2 h3 h4 => hK _ _ (h g cap w' h2 h3 h4)
end

/-- L marks of the list n. -/
def marks (mk : Nat → Nat → List Value) (n L : Nat) : List Value := (List.range L).flatMap (mk n)
theorem marks_zero (mk : Nat → Nat → List Value) (n : Nat) : marks mk n 0 = [] := rfl
theorem marks_succ (mk : Nat → Nat → List Value) (n L : Nat) : marks mk n (L + 1) = marks mk n L ++ mk n L := by simp [marks, List.range_succ]
theorem marks_len {mk : Nat → Nat → List Value} {size : Nat} (h : ∀ n i, (mk n i).length = size) (n L : Nat) : (marks mk n L).length = L * size := by
  induction L with
  | zero => simp [marks]
  | succ L ih => rw [marks_succ, List.length_append, ih, h, Nat.succ_mul]
theorem marks_take {mk : Nat → Nat → List Value} {size : Nat} (h : ∀ n i, (mk n i).length = size) (n : Nat) {L M : Nat} (hL : L ≤ M) : (marks mk n M).take (L * size) = marks mk n L := by
  induction M with
  | zero =>
    obtain rfl : L = 0 := by omega
    simp [marks]
  | succ M ih =>
    by_cases e : L = M + 1
    · subst e
      rw [List.take_of_length_le (by rw [marks_len h]; exact Nat.le_refl _)]
    · rw [marks_succ, List.take_append_of_le_length (by rw [marks_len h]; exact Nat.mul_le_mul_right _ (by omega))]
      exact ih (by omega)
theorem marks_get {mk : Nat → Nat → List Value} {size : Nat} (h : ∀ n i, (mk n i).length = size) (n : Nat) {L i j : Nat} (hi : i < L) (hj : j < size) : (marks mk n L)[i * size + j]? = (mk n i)[j]? := by
  have h1 : (marks mk n (i + 1))[i * size + j]? = (mk n i)[j]? := by
    rw [marks_succ, List.getElem?_append_right (by rw [marks_len h]; omega), marks_len h]
    congr 1
    omega
  rw [← h1, ← marks_take h n (show i + 1 ≤ L by omega), List.getElem?_take, if_pos (by rw [Nat.succ_mul]; omega)]

/-- A row stays where another block grows. -/
theorem own_apart {w w' : World} {base : Nat} {e : TypeId} {size : Nat} {v : Value} {n : Nat} {xs : List Value} {row : Option Nat} (h : w.ownsRow base e size v n xs) (hg : w.grownBy w' row) (hne : ∀ b, v.ownBlock = some b → row ≠ some b) : w'.ownsRow base e size v n xs := by
  refine h.kept hg ?_
  cases hv : v.ownBlock with
  | none => exact .inl rfl
  | some b => exact .inr (fun e => hne b hv e.symm)
/-- What lies in a block's cells is of one kind. -/
theorem own_block {w : World} {base : Nat} {e : TypeId} {size : Nat} {v : Value} {n : Nat} {xs : List Value} (h : w.ownsRow base e size v n xs) {b : Nat} (hb : v.ownBlock = some b) : ∃ cur, w.heap[b]? = some (.cells cur e (0, 0)) := by
  rcases h.2 with ⟨rfl, _⟩ | ⟨g, cap, cur, rfl, _, hg, _⟩
  · cases hb
  · cases hb
    exact ⟨cur, hg⟩
/-- A row of one kind is not a block of another. -/
def Not (w : World) (e : TypeId) (row : Option Nat) : Prop := ∀ b, row = some b → ∀ cur, w.heap[b]? ≠ some (.cells cur e (0, 0))
theorem own_other {w w' : World} {base : Nat} {e : TypeId} {size : Nat} {v : Value} {n : Nat} {xs : List Value} {row : Option Nat} (h : w.ownsRow base e size v n xs) (hg : w.grownBy w' row) (hne : Not w e row) : w'.ownsRow base e size v n xs :=
  own_apart h hg fun b hb hr => by
    obtain ⟨cur, hc⟩ := own_block h hb
    exact hne b hr cur hc
theorem own_not {w : World} {base : Nat} {e : TypeId} {size : Nat} {v : Value} {n : Nat} {xs : List Value} (h : w.ownsRow base e size v n xs) {e' : TypeId} (hne : e ≠ e') : Not w e' v.ownBlock := fun b hb cur hc => by
  obtain ⟨c2, hc2⟩ := own_block h hb
  rw [hc2] at hc
  simp only [Option.some.injEq, Obj.cells.injEq] at hc
  exact hne hc.2.1

/-- A bag's rows: each a value and its length. -/
def rv (rs : List (Value × Nat)) (m : Nat) : Value := (rs.getD m (.slice none 0 0, 0)).1
def rl (rs : List (Value × Nat)) (m : Nat) : Nat := (rs.getD m (.slice none 0 0, 0)).2
def vn (os : List Value) (m : Nat) : Value := os.getD m (.slice none 0 0)
theorem vn_map (rs : List (Value × Nat)) (m : Nat) (h : m < rs.length) : vn (rs.map Prod.fst) m = rv rs m := by simp [vn, rv, h]
theorem vn_last (os : List Value) (x : Value) : vn (os ++ [x]) os.length = x := by simp [vn]
theorem vn_old (os : List Value) (x : Value) (j : Nat) (h : j < os.length) : vn (os ++ [x]) j = vn os j := by
  unfold vn
  rw [List.getD_eq_getElem?_getD, List.getD_eq_getElem?_getD, List.getElem?_append_left h]
/-- Two lists of lists that lie apart, by blocks. -/
def Off (a b : Option Nat) : Prop := ∀ k, a = some k → b ≠ some k
theorem Off.symm {a b : Option Nat} (h : Off a b) : Off b a := fun k hb ha => h k ha hb

section
variable (T TS : TypeId) (size : Nat) (mk : Nat → Nat → List Value) (rs : List (Value × Nat))
/-- What is held: a bag's row, or one grown by one, or by seventy. -/
def Held (os ms : List Value) (v : Value) (k L : Nat) : Prop :=
  (k < rs.length ∧ v = rv rs k ∧ L = rl rs k) ∨ (k < os.length ∧ v = vn os k ∧ L = rl rs k + 1) ∨ (k < ms.length ∧ v = vn ms k ∧ L = rl rs k + 70)
/-- The three lists of lists. -/
structure Three (w : World) (V O M : Value) (os ms : List Value) : Prop where
  bag : w.ownsRow 0 TS 1 V rs.length (rs.map Prod.fst)
  one : w.ownsRow 0 TS 1 O os.length os
  more : w.ownsRow 0 TS 1 M ms.length ms
  vo : Off V.ownBlock O.ownBlock
  vm : Off V.ownBlock M.ownBlock
  om : Off O.ownBlock M.ownBlock
/-- All that is other: the bag's rows, and what is new. -/
structure Fr (w0 w : World) : Prop where
  os : w.os = w0.os
  tape : w.tape = w0.tape
  output : w.output = w0.output
  size : w0.heap.size ≤ w.heap.size
  block : ∀ b, b < w0.heap.size → (∀ m, m < rs.length → (rv rs m).ownBlock ≠ some b) → w.heap[b]? = w0.heap[b]?
/-- Whose block it may be. -/
def Mine (w0 : World) (row : Option Nat) : Prop := ∀ b, row = some b → w0.heap.size ≤ b ∨ ∃ m, m < rs.length ∧ (rv rs m).ownBlock = some b
/-- Ahead of the list n. -/
structure Out (w0 w : World) (n : Nat) (V O M : Value) (os ms : List Value) : Prop where
  three : Three TS rs w V O M os ms
  fr : Fr rs w0 w
  mo : Mine rs w0 O.ownBlock
  mm : Mine rs w0 M.ownBlock
  held : ∀ v k L, Held rs os ms v k L → w.ownsRow 0 T size v L (marks mk k L) ∧ ∀ m, n ≤ m → m < rs.length → ∀ b, v.ownBlock = some b → (rv rs m).ownBlock = some b → L ≤ rl rs m
/-- At the list n, grown to i. -/
structure Ap (w0 w : World) (n : Nat) (V O M : Value) (os ms : List Value) (l : Value) (i : Nat) : Prop where
  out : Out T TS size mk rs w0 w (n + 1) V O M os ms
  cur : w.ownsRow 0 T size l i (marks mk n i)
  my : Mine rs w0 l.ownBlock
  far : ∀ m, n + 1 ≤ m → m < rs.length → Off l.ownBlock (rv rs m).ownBlock
  safe : ∀ v k L, Held rs os ms v k L → ∀ b, v.ownBlock = some b → l.ownBlock = some b → L ≤ i

variable {T TS size mk rs}
theorem Fr.grown {w0 w w' : World} {row : Option Nat} (h : Fr rs w0 w) (hg : w.grownBy w' row) (hm : Mine rs w0 row) : Fr rs w0 w' := by
  refine ⟨hg.os.trans h.os, hg.tape.trans h.tape, hg.output.trans h.output, Nat.le_trans h.size hg.size, fun b hb hn => ?_⟩
  rw [hg.block b (Nat.lt_of_lt_of_le hb h.size) (fun e => ?_), h.block b hb hn]
  rcases hm b e.symm with h1 | ⟨m, h1, h2⟩
  · omega
  · exact hn m h1 h2
theorem Three.other {w w' : World} {V O M : Value} {os ms : List Value} {row : Option Nat} (h : Three TS rs w V O M os ms) (hg : w.grownBy w' row) (hn : Not w TS row) : Three TS rs w' V O M os ms :=
  ⟨own_other h.bag hg hn, own_other h.one hg hn, own_other h.more hg hn, h.vo, h.vm, h.om⟩
/-- A block's number, of one that is owned. -/
theorem own_lt {w : World} {base : Nat} {e : TypeId} {size : Nat} {v : Value} {n : Nat} {xs : List Value} (h : w.ownsRow base e size v n xs) {b : Nat} (hb : v.ownBlock = some b) : b < w.heap.size := (h.lt b hb).2
/-- Where a row is behind an append. -/
def Grew (w w' : World) (v : Value) (n g cap : Nat) : Prop := v = .slice (some ⟨g, 0, none⟩) n cap ∨ (g = w.heap.size ∧ w.grownBy w' none)
theorem Grew.off {w w' : World} {v : Value} {n g cap n' : Nat} {base : Nat} {e : TypeId} {size : Nat} {u : Value} {k : Nat} {xs : List Value} (h : Grew w w' v n g cap) (hu : w.ownsRow base e size u k xs) (ho : Off u.ownBlock v.ownBlock) : Off u.ownBlock (Value.slice (some ⟨g, 0, none⟩) n' cap).ownBlock := by
  rcases h with rfl | ⟨rfl, _⟩
  · exact ho
  · intro b hb e
    have := own_lt hu hb
    simp only [Value.ownBlock, Option.some.injEq] at e
    omega
theorem Grew.mine {w w' w0 : World} {v : Value} {n g cap n' : Nat} (h : Grew w w' v n g cap) (hs : w0.heap.size ≤ w.heap.size) (hm : Mine rs w0 v.ownBlock) : Mine rs w0 (Value.slice (some ⟨g, 0, none⟩) n' cap).ownBlock := by
  rcases h with rfl | ⟨rfl, _⟩
  · exact hm
  · intro b e
    simp only [Value.ownBlock, Option.some.injEq] at e
    left
    omega
theorem Three.addOne {w w' : World} {V O M : Value} {os ms : List Value} {x : Value} {g cap : Nat} (h : Three TS rs w V O M os ms) (ho : w'.ownsRow 0 TS 1 (.slice (some ⟨g, 0, none⟩) (os.length + 1) cap) (os.length + 1) (os ++ [x])) (hg : w.grownBy w' O.ownBlock) (hw : Grew w w' O os.length g cap) :
    Three TS rs w' V (.slice (some ⟨g, 0, none⟩) (os.length + 1) cap) M (os ++ [x]) ms := by
  refine ⟨own_apart h.bag hg h.vo, by rw [List.length_append]; exact ho, own_apart h.more hg (fun b hb e => h.om b e hb), hw.off h.bag h.vo, h.vm, ?_⟩
  exact (hw.off h.more h.om.symm).symm
theorem Three.addMore {w w' : World} {V O M : Value} {os ms : List Value} {x : Value} {g cap : Nat} (h : Three TS rs w V O M os ms) (ho : w'.ownsRow 0 TS 1 (.slice (some ⟨g, 0, none⟩) (ms.length + 1) cap) (ms.length + 1) (ms ++ [x])) (hg : w.grownBy w' M.ownBlock) (hw : Grew w w' M ms.length g cap) :
    Three TS rs w' V O (.slice (some ⟨g, 0, none⟩) (ms.length + 1) cap) os (ms ++ [x]) := by
  refine ⟨own_apart h.bag hg h.vm, own_apart h.one hg h.om, by rw [List.length_append]; exact ho, h.vo, hw.off h.bag h.vm, ?_⟩
  exact hw.off h.one h.om
/-- A held row stays while the current one grows. -/
theorem held_grow (hmk : ∀ n i, (mk n i).length = size) (_hsz : 0 < size) {w w' : World} {v l : Value} {k L n i g cap : Nat} (hv : w.ownsRow 0 T size v L (marks mk k L)) (hl : w.ownsRow 0 T size l i (marks mk n i)) (hs : ∀ b, v.ownBlock = some b → l.ownBlock = some b → L ≤ i)
    (ho : w'.ownsRow 0 T size (.slice (some ⟨g, 0, none⟩) (i + 1) cap) (i + 1) (marks mk n (i + 1))) (hg : w.grownBy w' l.ownBlock) (hw : Grew w w' l i g cap) : w'.ownsRow 0 T size v L (marks mk k L) := by
  rcases hw with rfl | ⟨_, h0⟩
  · by_cases hb : v.ownBlock = some g
    · have hLi := hs g hb rfl
      refine ⟨hv.1, ?_⟩
      rcases hv.2 with h1 | ⟨gv, cv, cur, rfl, _, hgv, hLc, hcm, hcs, htk⟩
      · exact .inl h1
      · obtain rfl : gv = g := by simpa [Value.ownBlock] using hb
        rcases hl.2 with ⟨e1, _⟩ | ⟨g2, c2, cur2, e2, _, hg2, _, _, hcs2, htk2⟩
        · cases e1
        · cases e2
          rw [hgv] at hg2
          cases hg2
          rcases ho.2 with ⟨e1, _⟩ | ⟨g3, c3, cur3, e3, _, hg3, _, _, hcs3, htk3⟩
          · cases e1
          · cases e3
            refine .inr ⟨gv, cv, cur3, rfl, Nat.zero_le _, hg3, hLc, hcm, by omega, ?_⟩
            have a1 : cur3.toList.take (L * size) = marks mk n L := by
              have := congrArg (List.take (L * size)) htk3
              rwa [List.take_take, Nat.min_eq_left (Nat.mul_le_mul_right _ (by omega)), marks_take hmk n (by omega)] at this
            have a2 : cur.toList.take (L * size) = marks mk n L := by
              have := congrArg (List.take (L * size)) htk2
              rwa [List.take_take, Nat.min_eq_left (Nat.mul_le_mul_right _ hLi), marks_take hmk n hLi] at this
            rw [a1, ← a2, htk]
    · exact own_apart hv hg fun b hb' e => by
        have : b = g := by simpa [Value.ownBlock] using e.symm
        exact hb (this ▸ hb')
  · exact own_apart hv h0 fun b _ e => by cases e
theorem Out.other {w0 w w' : World} {n : Nat} {V O M : Value} {os ms : List Value} {row : Option Nat} (h : Out T TS size mk rs w0 w n V O M os ms) (hg : w.grownBy w' row) (hn : Not w TS row) (hn2 : Not w T row) (hm : Mine rs w0 row) : Out T TS size mk rs w0 w' n V O M os ms :=
  ⟨h.three.other hg hn, h.fr.grown hg hm, h.mo, h.mm, fun v k L hh => ⟨own_other (h.held v k L hh).1 hg hn2, (h.held v k L hh).2⟩⟩
/-- The current row grows by one. -/
theorem Ap.grow (hmk : ∀ n i, (mk n i).length = size) (hsz : 0 < size) (hT : T ≠ TS) {w0 w w' : World} {n : Nat} {V O M : Value} {os ms : List Value} {l : Value} {i g cap : Nat} (h : Ap T TS size mk rs w0 w n V O M os ms l i)
    (ho : w'.ownsRow 0 T size (.slice (some ⟨g, 0, none⟩) (i + 1) cap) (i + 1) (marks mk n i ++ mk n i)) (hg : w.grownBy w' l.ownBlock) (hw : l = .slice (some ⟨g, 0, none⟩) i cap ∨ (g = w.heap.size ∧ w.grownBy w' none)) : Ap T TS size mk rs w0 w' n V O M os ms (.slice (some ⟨g, 0, none⟩) (i + 1) cap) (i + 1) := by
  rw [← marks_succ] at ho
  have hw' : Grew w w' l i g cap := hw
  refine ⟨⟨h.out.three.other hg (own_not h.cur hT), h.out.fr.grown hg h.my, h.out.mo, h.out.mm, fun v k L hh => ⟨held_grow hmk hsz (h.out.held v k L hh).1 h.cur (h.safe v k L hh) ho hg hw', (h.out.held v k L hh).2⟩⟩, ho, hw'.mine h.out.fr.size h.my, fun m h1 h2 => ?_, fun v k L hh b hb e => ?_⟩
  · exact (hw'.off (h.out.held _ _ _ (.inl ⟨h2, rfl, rfl⟩)).1 (h.far m h1 h2).symm).symm
  · rcases hw' with rfl | ⟨rfl, _⟩
    · exact Nat.le_succ_of_le (h.safe v k L hh b hb e)
    · have := own_lt (h.out.held v k L hh).1 hb
      simp only [Value.ownBlock, Option.some.injEq] at e
      omega
/-- The row grown by one is kept. -/
theorem Ap.addOne (hT : T ≠ TS) {w0 w w' : World} {n : Nat} {V O M : Value} {os ms : List Value} {l : Value} {i g cap : Nat} (h : Ap T TS size mk rs w0 w n V O M os ms l i) (hi : i = rl rs n + 1) (hos : os.length = n)
    (ho : w'.ownsRow 0 TS 1 (.slice (some ⟨g, 0, none⟩) (os.length + 1) cap) (os.length + 1) (os ++ [l])) (hg : w.grownBy w' O.ownBlock) (hw : O = .slice (some ⟨g, 0, none⟩) os.length cap ∨ (g = w.heap.size ∧ w.grownBy w' none)) :
    Ap T TS size mk rs w0 w' n V (.slice (some ⟨g, 0, none⟩) (os.length + 1) cap) M (os ++ [l]) ms l i := by
  have hw' : Grew w w' O os.length g cap := hw
  have hno := own_not h.out.three.one (e' := T) hT.symm
  have hc : w'.ownsRow 0 T size l i (marks mk n i) := own_other h.cur hg hno
  have hd : ∀ v k L, Held rs (os ++ [l]) ms v k L → Held rs os ms v k L ∨ (v = l ∧ k = n ∧ L = i) := by
    rintro v k L (h1 | ⟨h1, h2, h3⟩ | h1)
    · exact .inl (.inl h1)
    · by_cases e : k < os.length
      · exact .inl (.inr (.inl ⟨e, by rw [h2, vn_old _ _ _ e], h3⟩))
      · obtain rfl : k = os.length := by simp at h1; omega
        rw [vn_last] at h2
        exact .inr ⟨h2, hos, by rw [h3, hos, hi]⟩
    · exact .inl (.inr (.inr h1))
  refine ⟨⟨h.out.three.addOne ho hg hw', h.out.fr.grown hg h.out.mo, hw'.mine h.out.fr.size h.out.mo, h.out.mm, fun v k L hh => ?_⟩, hc, h.my, h.far, fun v k L hh b hb e => ?_⟩
  · rcases hd v k L hh with hh | ⟨rfl, rfl, rfl⟩
    · exact ⟨own_other (h.out.held v k L hh).1 hg hno, (h.out.held v k L hh).2⟩
    · exact ⟨hc, fun m h1 h2 b hb e => absurd e (h.far m h1 h2 b hb)⟩
  · rcases hd v k L hh with hh | ⟨rfl, rfl, rfl⟩
    · exact h.safe v k L hh b hb e
    · exact Nat.le_refl _
/-- The row grown by seventy is kept: on to the next. -/
theorem Ap.addMore (hT : T ≠ TS) {w0 w w' : World} {n : Nat} {V O M : Value} {os ms : List Value} {l : Value} {i g cap : Nat} (h : Ap T TS size mk rs w0 w n V O M os ms l i) (hi : i = rl rs n + 70) (hms : ms.length = n)
    (ho : w'.ownsRow 0 TS 1 (.slice (some ⟨g, 0, none⟩) (ms.length + 1) cap) (ms.length + 1) (ms ++ [l])) (hg : w.grownBy w' M.ownBlock) (hw : M = .slice (some ⟨g, 0, none⟩) ms.length cap ∨ (g = w.heap.size ∧ w.grownBy w' none)) :
    Out T TS size mk rs w0 w' (n + 1) V O (.slice (some ⟨g, 0, none⟩) (ms.length + 1) cap) os (ms ++ [l]) := by
  have hw' : Grew w w' M ms.length g cap := hw
  have hno := own_not h.out.three.more (e' := T) hT.symm
  have hc : w'.ownsRow 0 T size l i (marks mk n i) := own_other h.cur hg hno
  refine ⟨h.out.three.addMore ho hg hw', h.out.fr.grown hg h.out.mm, h.out.mo, hw'.mine h.out.fr.size h.out.mm, fun v k L hh => ?_⟩
  have hd : Held rs os ms v k L ∨ (v = l ∧ k = n ∧ L = i) := by
    rcases hh with h1 | h1 | ⟨h1, h2, h3⟩
    · exact .inl (.inl h1)
    · exact .inl (.inr (.inl h1))
    · by_cases e : k < ms.length
      · exact .inl (.inr (.inr ⟨e, by rw [h2, vn_old _ _ _ e], h3⟩))
      · obtain rfl : k = ms.length := by simp at h1; omega
        rw [vn_last] at h2
        exact .inr ⟨h2, hms, by rw [h3, hms, hi]⟩
  rcases hd with hh | ⟨rfl, rfl, rfl⟩
  · exact ⟨own_other (h.out.held v k L hh).1 hg hno, (h.out.held v k L hh).2⟩
  · exact ⟨hc, fun m h1 h2 b hb e => absurd e (h.far m h1 h2 b hb)⟩
/-- The rows' blocks are different ones. -/
def Sep (rs : List (Value × Nat)) : Prop := ∀ m m', m < m' → m' < rs.length → Off (rv rs m).ownBlock (rv rs m').ownBlock
theorem Sep.eq (h : Sep rs) {m m' : Nat} (hm : m < rs.length) (hm' : m' < rs.length) {b : Nat} (h1 : (rv rs m).ownBlock = some b) (h2 : (rv rs m').ownBlock = some b) : m = m' := by
  rcases Nat.lt_trichotomy m m' with h3 | h3 | h3
  · exact absurd h2 (h m m' h3 hm' b h1)
  · exact h3
  · exact absurd h1 (h m' m h3 hm b h2)
/-- The next list is taken up. -/
theorem Out.take (hs : Sep rs) {w0 w : World} {n : Nat} {V O M : Value} {os ms : List Value} (h : Out T TS size mk rs w0 w n V O M os ms) (hn : n < rs.length) : Ap T TS size mk rs w0 w n V O M os ms (rv rs n) (rl rs n) := by
  have hh : Held rs os ms (rv rs n) n (rl rs n) := .inl ⟨hn, rfl, rfl⟩
  refine ⟨⟨h.three, h.fr, h.mo, h.mm, fun v k L h1 => ⟨(h.held v k L h1).1, fun m h2 => (h.held v k L h1).2 m (by omega)⟩⟩, (h.held _ _ _ hh).1, fun b hb => .inr ⟨n, hn, hb⟩, fun m h1 h2 => hs n m (by omega) h2, fun v k L h1 b hb e => (h.held v k L h1).2 n (Nat.le_refl _) hn b hb e⟩
/-- While the marks are being written: up to the place i of the list n. -/
def Wr (T : TypeId) (size : Nat) (mk : Nat → Nat → List Value) (rs : List (Value × Nat)) (w : World) (n i : Nat) : Prop :=
  ∀ m, m < rs.length → ∃ xs, w.ownsRow 0 T size (rv rs m) (rl rs m) xs ∧ (m < n → xs = marks mk m (rl rs m)) ∧ (m = n → xs.take (i * size) = marks mk n i)
/-- All marks stand. -/
theorem Wr.out (hs : Sep rs) {w0 w : World} {V : Value} (h : Wr T size mk rs w rs.length 0) (hV : w.ownsRow 0 TS 1 V rs.length (rs.map Prod.fst)) (hf : Fr rs w0 w) : Out T TS size mk rs w0 w 0 V (.slice none 0 0) (.slice none 0 0) [] [] := by
  refine ⟨⟨hV, World.ownsRow_nil _ _ _ _, World.ownsRow_nil _ _ _ _, fun b _ e => (by cases e), fun b _ e => (by cases e), fun b _ e => (by cases e)⟩, hf, fun b e => (by cases e), fun b e => (by cases e), fun v k L hh => ?_⟩
  rcases hh with ⟨h1, rfl, rfl⟩ | ⟨h1, _⟩ | ⟨h1, _⟩
  · obtain ⟨xs, hx, h2, _⟩ := h k h1
    rw [h2 h1] at hx
    exact ⟨hx, fun m _ h4 b hb hb' => by rw [hs.eq h1 h4 hb hb']; exact Nat.le_refl _⟩
  · simp at h1
  · simp at h1
theorem Wr.next {w : World} {n : Nat} (h : Wr T size mk rs w n (rl rs n)) : Wr T size mk rs w (n + 1) 0 := by
  intro m hm
  obtain ⟨xs, hx, h1, h2⟩ := h m hm
  refine ⟨xs, hx, fun h3 => ?_, fun _ => by simp [marks]⟩
  by_cases e : m < n
  · exact h1 e
  · obtain rfl : m = n := by omega
    rw [← h2 rfl, List.take_of_length_le (by rw [hx.1]; exact Nat.le_refl _)]
/-- A mark is written. -/
theorem Wr.step (hs : Sep rs) {w w' : World} {n i : Nat} (h : Wr T size mk rs w n i) (hn : n < rs.length) (hg : w.grownBy w' (rv rs n).ownBlock) (ho : ∀ xs, w.ownsRow 0 T size (rv rs n) (rl rs n) xs → xs.take (i * size) = marks mk n i → ∃ ys, w'.ownsRow 0 T size (rv rs n) (rl rs n) ys ∧ ys.take ((i + 1) * size) = marks mk n (i + 1)) : Wr T size mk rs w' n (i + 1) := by
  intro m hm
  obtain ⟨xs, hx, h1, h2⟩ := h m hm
  by_cases e : m = n
  · subst e
    obtain ⟨ys, hy, h3⟩ := ho xs hx (h2 rfl)
    exact ⟨ys, hy, fun h4 => absurd h4 (by omega), fun _ => h3⟩
  · refine ⟨xs, own_apart hx hg fun b hb e2 => e (hs.eq hm hn hb e2), h1, fun h4 => absurd h4 e⟩
end













end Go.Proofs.Ytokhclindfipbaa

namespace Go.Proofs.Ytokhclindfipbaa
open Go.RowKit

/-- What Of answers: the array, the ranks, each in memory of its own, and a cost. -/
def OfR (l : List Int) (c : Int) (w : World) (e : Ending) (w' : World) : Prop := ∃ (A1 A2 : Option Addr) (k1 k2 : Nat), e = .returned (.agg #[.slice A1 l.length k1, .slice A2 l.length k2, .int .i64 c]) ∧ w'.ownsRow w.heap.size 3 1 (.slice A1 l.length k1) l.length (iVals .i64 (sufL l)) ∧ w'.ownsRow w.heap.size 3 1 (.slice A2 l.length k2) l.length (iVals .i64 (rkL l)) ∧ Off (Value.slice A1 l.length k1).ownBlock (Value.slice A2 l.length k2).ownBlock ∧ Below w.heap.size w w'
structure OfOK (cst : List Int → Int) : Prop where
  ok : ∀ (A : Option Addr) (c : Nat) (l : List Int) (w : World), IntsAt w A .i64 l → (∀ i, i < l.length → -9223372036854775808 ≤ nth l i ∧ nth l i ≤ 9223372036854775807) → l.length ≤ 2048 → Calls Try.prog 40 #[.slice A l.length c] w (OfR l (cst l) w)
  few : 3 ≤ cst [3, 1, 3, 1] ∧ cst [3, 1, 3, 1] ≤ 384
/-- How much it may cost. -/
def CostOK (cst : List Int → Int) : Prop := ∀ l : List Int, l.length ≤ 2048 → 0 ≤ cst l ∧ (l.length : Int) - 1 ≤ cst l ∧ cst l ≤ mostI (l.length : Int)


end Go.Proofs.Ytokhclindfipbaa
