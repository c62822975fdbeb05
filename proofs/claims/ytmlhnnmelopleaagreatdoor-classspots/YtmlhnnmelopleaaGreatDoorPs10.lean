/-
  What a map of marks leaves alone; targets; no Go in sight. Rows with blocks of their own, marked and grown: what stays; no Go in sight. Lists of lists of numbers, how they lie in memory. Where control can go, plain.
-/
import Derived.Test.YtmlhnnmelopleaaGreatDoorProg
import Derived.WalkKit
import Derived.WalkSpells
import Derived.WalkLawsBesides
import Derived.RowKit3
import Derived.Below
import Derived.Deep.QuietTactic
import Derived.BigQuiet
import Derived.WalkSmall
import Derived.Laws.Rows
import Derived.Test.YtmlhnnmelopleaaGreatDoorPs09
import Derived.Deep.AppendLies
import Derived.Laws.OwnMore
import Derived.Test.YtmlhnnmelopleaaGreatDoorPs04
namespace Go.Proofs.YtmlhnnmelopleaaGreatDoor
open Go.RowKit

theorem hP_hN11 {op : Int} (h : hP op = true) : hN op = true := by
  unfold hP at h
  unfold hN
  rw [decide_eq_true_eq] at h ⊢
  omega
theorem isT_ins11 {v : Int} (h : isT v = true) : isIns v = true ∧ hP (dOp v) = true ∧ 0 ≤ dOp v := by
  unfold isT at h
  rw [Bool.and_eq_true, decide_eq_true_eq] at h
  refine ⟨?_, h.2, h.1⟩
  cases hi : isIns v
  · have : dOp v = -1 := by unfold dOp; rw [hi]; simp
    omega
  · rfl
theorem tg_pos {v : Int} (hT : isT v = true) : 0 ≤ tgV v ∧ tgV v < 16384 := by
  obtain ⟨hi, hP', h0⟩ := isT_ins11 hT
  have hd : dOp v = wOp v := by unfold dOp; rw [hi]; simp
  have hi2 := hi
  unfold isIns at hi2
  rw [Bool.and_eq_true] at hi2
  have hok := hi2.2
  unfold insOK numOK at hok
  rw [hd] at hP'
  simp only [Bool.and_eq_true, hP_hN11 hP', hP', if_true, decide_eq_true_iff] at hok
  have e : tgV v = wN v := by unfold tgV dN; rw [hT, hi]; simp
  rw [e]
  exact hok.2
/-- A Place has a target. -/
theorem place_tg {v : Int} (h : dOp v = 20) : isT v = true ∧ tgV v = dN v := by
  have hT : isT v = true := by
    unfold isT hP
    rw [h]
    rfl
  exact ⟨hT, by unfold tgV; rw [if_pos hT]⟩
theorem Mks.apart {w : World} {b n : Nat} {f : Int → Bool} (h : Mks w b n f) {p : Addr} {v : Value} (hc : w.cell? p = some v) : some p.block ≠ some b := by
  obtain ⟨D, ⟨es, clock, h1, h2⟩, h3⟩ := h
  intro e
  injection e with e
  rw [World.cell?] at hc
  rw [e, h1] at hc
  simp at hc
theorem Mks.cell {w w1 : World} {b n : Nat} {f : Int → Bool} (h : Mks w b n f) (hg : w.grownBy w1 (some b)) {p : Addr} {v : Value} (hc : w.cell? p = some v) : w1.cell? p = some v := hg.cell hc (h.apart hc)
theorem Mks.ints {w w1 : World} {b n : Nat} {f : Int → Bool} (h : Mks w b n f) (hg : w.grownBy w1 (some b)) {A : Option Addr} {K : IntKind} {zs : List Int} (hc : IntsAt w A K zs) : IntsAt w1 A K zs := fun i hi => by
  obtain ⟨a, e, c⟩ := hc i hi
  exact ⟨a, e, h.cell hg c⟩
theorem grown_of {w w1 : World} {row : Option Nat} (hb : Below w.heap.size w w1) : w.grownBy w1 row := ⟨hb.os, hb.tape, hb.output, hb.size, fun k hk _ => hb.block k hk⟩
theorem grown_on {w w1 w2 : World} {row : Option Nat} (h : w.grownBy w1 row) (hb : Below w1.heap.size w1 w2) : w.grownBy w2 row := h.trans (grown_of hb)
/-- An answer of what marks. -/
def MkP (b m : Nat) (F : Int → Bool) (w : World) (e : Ending) (w' : World) : Prop := e = .returned (.tuple #[]) ∧ Mks w' b m F ∧ w.grownBy w' (some b)
theorem gLab_yes {text : List Int} {k : Nat} (h : isT (nth text k) = true) : gLab text k = some (tgV (nth text k)) := by unfold gLab; rw [if_pos h]
theorem gLab_no {text : List Int} {k : Nat} (h : isT (nth text k) = false) : gLab text k = none := by unfold gLab; rw [if_neg (by simp [h])]
theorem gTak_yes {text : List Int} {k : Nat} (h : (dOp (nth text k) == 20) = true) : gTak text k = some (dN (nth text k)) := by unfold gTak; rw [if_pos h]
theorem gTak_no {text : List Int} {k : Nat} (h : (dOp (nth text k) == 20) = false) : gTak text k = none := by unfold gTak; rw [if_neg (by simp [h])]
theorem gSit_yes {text : List Int} {k : Nat} (h : (dOp (nth text k) == 17) = true ∨ (dOp (nth text k) == 18) = true) : gSit text k = some ((k : Int) + 1) := by unfold gSit; rw [if_pos h]
theorem gSit_no {text : List Int} {k : Nat} (h : (dOp (nth text k) == 17) = false) (h2 : (dOp (nth text k) == 18) = false) : gSit text k = none := by unfold gSit; rw [if_neg (by simp [h, h2])]
theorem gEnd_yes {text : List Int} {k : Nat} (h : endsB (dOp (nth text k)) = true) : gEnd text k = some ((k : Int) + 1) := by unfold gEnd; rw [if_pos h]
theorem gEnd_no {text : List Int} {k : Nat} (h : endsB (dOp (nth text k)) = false) : gEnd text k = none := by unfold gEnd; rw [if_neg (by simp [h])]




end Go.Proofs.YtmlhnnmelopleaaGreatDoor

namespace Go.Proofs.YtmlhnnmelopleaaGreatDoor


section
variable {P : Program}
/-- An append of something: in place, or in a block made now with all the others as they were. -/
theorem run_append_two (w : World) (t ty e : TypeId) (i : TypeInfo) (z : Value) (size bytes : Nat) (ht : P.underlying t = some (.slice e)) (hi : P.info? e = some i) (hz : i.zero = some z)
    (hsize : i.size = size) (hby : i.bytes = bytes) (hzs : z.cells.size = size) (hsz : 0 < size)
    (v : Value) (n : Nat) (xs : List Value) (hown : w.ownsRow 0 e size v n xs)
    (a : Addr) (m c : Nat) (news : List Value) (hl : news.length = m * size) (hnews : ∀ j u, news[j]? = some u → w.cell? (a.add j) = some u) (h1 : ∀ u ∈ news, u.oneCell' = true)
    (hm : 0 < m) (h63 : n + m ≤ maxLen) (hbytes : (n + m) * bytes ≤ 140737488355328) :
    ∃ g cap w', (Builtin.append_ #[t, t] ty #[v, .slice (some a) m c]).run P w = .ok (.slice (some ⟨g, 0, none⟩) (n + m) cap) w' ∧
      w'.ownsRow 0 e size (.slice (some ⟨g, 0, none⟩) (n + m) cap) (n + m) (xs ++ news) ∧ w.grownBy w' v.ownBlock ∧ (v = .slice (some ⟨g, 0, none⟩) n cap ∨ (g = w.heap.size ∧ w.grownBy w' none)) := by
  obtain ⟨g', cap', w', hr, h2, h3, h4, _⟩ := run_append_lies (P := P) w t ty 0 e i z size bytes ht hi hz hsize hby hzs hsz v n xs hown a m c news hl hnews h1 hm h63 hbytes (Nat.zero_le _) _ rfl
  rcases hown.2 with ⟨rfl, rfl⟩ | ⟨g, cap, cur, rfl, hbg, hg, hnc, hcm, hcs, htake⟩
  · refine ⟨g', cap', w', hr, h2, h3, .inr ⟨?_, h3⟩⟩
    rcases h4 with h4 | h4
    · cases h4
    · exact h4
  · by_cases hroom : n + m ≤ cap
    · obtain ⟨w2, hr2, h5, h6⟩ := run_append_fits (P := P) w 0 t ty e i size ht hi hsize g n cap xs hown a m c news hl hnews h1 hroom
      exact ⟨g, cap, w2, hr2, h5, h6, .inl rfl⟩
    · subst hsize hby
      have hr2 := run_append_grow (P := P) w t ty e i z ht hi hz ⟨g, 0, none⟩ n cap xs hown.1 (hown.cells (g := g) rfl) a m c news hl hnews (by omega) (by simp only [maxLen] at h63; omega) (growslice_fits (by omega) hbytes)
      have e2 := hr.symm.trans hr2
      simp only [Result.ok.injEq, Value.slice.injEq, Option.some.injEq, Addr.mk.injEq, and_true, true_and] at e2
      obtain ⟨⟨e3, _⟩, e4⟩ := e2
      refine ⟨g', cap', w', hr, h2, h3, .inr ⟨e3, ?_⟩⟩
      rw [e4]
      exact ⟨rfl, rfl, rfl, by simp, fun k hk _ => Go.RowKit.Below.heap_alloc w.drew _ k hk⟩
theorem wp_append_two (w : World) {o : Oper} {a : Act} {K : Act → World → Prop} {Q : Exit → Act → World → Prop} (s x : Operand) (t : TypeId)
    (ho : o.op = .call { callee := .builtin .append, args := #[s, x], argTypes := #[t, t] })
    (e : TypeId) (i : TypeInfo) (z : Value) (size bytes : Nat) (ht : P.underlying t = some (.slice e)) (hi : P.info? e = some i) (hz : i.zero = some z)
    (hsize : i.size = size) (hby : i.bytes = bytes) (hzs : z.cells.size = size) (hsz : 0 < size)
    (v : Value) (n : Nat) (xs : List Value) (hs : a.eval s = v) (hown : w.ownsRow 0 e size v n xs)
    (ad : Addr) (m c : Nat) (news : List Value) (hx : a.eval x = .slice (some ad) m c) (hl : news.length = m * size) (hnews : ∀ j u, news[j]? = some u → w.cell? (ad.add j) = some u) (h1 : ∀ u ∈ news, u.oneCell' = true)
    (hm : 0 < m) (h63 : n + m ≤ maxLen) (hbytes : (n + m) * bytes ≤ 140737488355328)
    (h : ∀ g cap w', w'.ownsRow 0 e size (.slice (some ⟨g, 0, none⟩) (n + m) cap) (n + m) (xs ++ news) → w.grownBy w' v.ownBlock → (v = .slice (some ⟨g, 0, none⟩) n cap ∨ (g = w.heap.size ∧ w.grownBy w' none)) → K (a.put o.dst (.slice (some ⟨g, 0, none⟩) (n + m) cap)) w') : o.wp P a w K Q := by
  obtain ⟨g, cap, w', hr, h2, h3, h4⟩ := run_append_two (P := P) w t o.type e i z size bytes ht hi hz hsize hby hzs hsz v n xs hown ad m c news hl hnews h1 hm h63 hbytes
  unfold Oper.wp execOp
  simp only [ho, resolve, invoke, builtin, Sem.run_bind, Sem.run_pure, Result.andThen_ok, List.map_toArray, List.map_cons, List.map_nil, hs, hx, hr]
  exact h g cap w' h2 h3 h4
theorem wpList_append_two (w : World) {ops : Array Oper} {rest : List Oper} {o : Oper} {a : Act} {Q : Exit → Act → World → Prop} (hgd : o.guard = none) (s x : Operand) (t : TypeId)
    (ho : o.op = .call { callee := .builtin .append, args := #[s, x], argTypes := #[t, t] })
    (e : TypeId) (i : TypeInfo) (z : Value) (size bytes : Nat) (ht : P.underlying t = some (.slice e)) (hi : P.info? e = some i) (hz : i.zero = some z)
    (hsize : i.size = size) (hby : i.bytes = bytes) (hzs : z.cells.size = size) (hsz : 0 < size)
    (v : Value) (n : Nat) (xs : List Value) (hs : a.eval s = v) (hown : w.ownsRow 0 e size v n xs)
    (ad : Addr) (m c : Nat) (news : List Value) (hx : a.eval x = .slice (some ad) m c) (hl : news.length = m * size) (hnews : ∀ j u, news[j]? = some u → w.cell? (ad.add j) = some u) (h1 : ∀ u ∈ news, u.oneCell' = true)
    (hm : 0 < m) (h63 : n + m ≤ maxLen) (hbytes : (n + m) * bytes ≤ 140737488355328)
    (h : ∀ g cap w', w'.ownsRow 0 e size (.slice (some ⟨g, 0, none⟩) (n + m) cap) (n + m) (xs ++ news) → w.grownBy w' v.ownBlock → (v = .slice (some ⟨g, 0, none⟩) n cap ∨ (g = w.heap.size ∧ w.grownBy w' none)) → wpList P ops Q rest (a.put o.dst (.slice (some ⟨g, 0, none⟩) (n + m) cap)) w') : wpList P ops Q (o :: rest) a w :=
  wpList_plain hgd fun _ hK => wp_append_two w s x t ho e i z size bytes ht hi hz hsize hby hzs hsz v n xs hs hown ad m c news hx hl hnews h1 hm h63 hbytes fun g cap w' h2 h3 h4 => hK _ _ (h g cap w' h2 h3 h4)
end

/-- L marks of the list n. -/
def marks (mk : Nat → Nat → List Value) (n L : Nat) : List Value := (List.range L).flatMap (mk n)
theorem marks_zero (mk : Nat → Nat → List Value) (n : Nat) : marks mk n 0 = [] := rfl
theorem marks_succ (mk : Nat → Nat → List Value) (n L : Nat) : marks mk n (L + 1) = marks mk n L ++ mk n L := by simp [marks, List.range_succ]
theorem marks_len {mk : Nat → Nat → List Value} {size : Nat} (h : ∀ n i, (mk n i).length = size) (n L : Nat) : (marks mk n L).length = L * size := by
  induction L with
  | zero => simp [marks]
  | succ L ih => rw [marks_succ, List.length_append, ih, h, Nat.succ_mul]
theorem marks_take {mk : Nat → Nat → List Value} {size : Nat} (h : ∀ n i, (mk n i).length = size) (n : Nat) {L M : Nat} (hL : L ≤ M) : (marks mk n M).take (L * size) = marks mk n L := by
  induction M with
  | zero =>
    obtain rfl : L = 0 := by omega
    simp [marks]
  | succ M ih =>
    by_cases e : L = M + 1
    · subst e
      rw [List.take_of_length_le (by rw [marks_len h]; exact Nat.le_refl _)]
    · rw [marks_succ, List.take_append_of_le_length (by rw [marks_len h]; exact Nat.mul_le_mul_right _ (by omega))]
      exact ih (by omega)
theorem marks_get {mk : Nat → Nat → List Value} {size : Nat} (h : ∀ n i, (mk n i).length = size) (n : Nat) {L i j : Nat} (hi : i < L) (hj : j < size) : (marks mk n L)[i * size + j]? = (mk n i)[j]? := by
  have h1 : (marks mk n (i + 1))[i * size + j]? = (mk n i)[j]? := by
    rw [marks_succ, List.getElem?_append_right (by rw [marks_len h]; omega), marks_len h]
    congr 1
    omega
  rw [← h1, ← marks_take h n (show i + 1 ≤ L by omega), List.getElem?_take, if_pos (by rw [Nat.succ_mul]; omega)]

/-- A row stays where another block grows. -/
theorem own_apart {w w' : World} {base : Nat} {e : TypeId} {size : Nat} {v : Value} {n : Nat} {xs : List Value} {row : Option Nat} (h : w.ownsRow base e size v n xs) (hg : w.grownBy w' row) (hne : ∀ b, v.ownBlock = some b → row ≠ some b) : w'.ownsRow base e size v n xs := by
  refine h.kept hg ?_
  cases hv : v.ownBlock with
  | none => exact .inl rfl
  | some b => exact .inr (fun e => hne b hv e.symm)
/-- What lies in a block's cells is of one kind. -/
theorem own_block {w : World} {base : Nat} {e : TypeId} {size : Nat} {v : Value} {n : Nat} {xs : List Value} (h : w.ownsRow base e size v n xs) {b : Nat} (hb : v.ownBlock = some b) : ∃ cur, w.heap[b]? = some (.cells cur e (0, 0)) := by
  rcases h.2 with ⟨rfl, _⟩ | ⟨g, cap, cur, rfl, _, hg, _⟩
  · cases hb
  · cases hb
    exact ⟨cur, hg⟩
/-- A row of one kind is not a block of another. -/
def Not (w : World) (e : TypeId) (row : Option Nat) : Prop := ∀ b, row = some b → ∀ cur, w.heap[b]? ≠ some (.cells cur e (0, 0))
theorem own_other {w w' : World} {base : Nat} {e : TypeId} {size : Nat} {v : Value} {n : Nat} {xs : List Value} {row : Option Nat} (h : w.ownsRow base e size v n xs) (hg : w.grownBy w' row) (hne : Not w e row) : w'.ownsRow base e size v n xs :=
  own_apart h hg fun b hb hr => by
    obtain ⟨cur, hc⟩ := own_block h hb
    exact hne b hr cur hc
theorem own_not {w : World} {base : Nat} {e : TypeId} {size : Nat} {v : Value} {n : Nat} {xs : List Value} (h : w.ownsRow base e size v n xs) {e' : TypeId} (hne : e ≠ e') : Not w e' v.ownBlock := fun b hb cur hc => by
  obtain ⟨c2, hc2⟩ := own_block h hb
  rw [hc2] at hc
  simp only [Option.some.injEq, Obj.cells.injEq] at hc
  exact hne hc.2.1

/-- A bag's rows: each a value and its length. -/
def rv (rs : List (Value × Nat)) (m : Nat) : Value := (rs.getD m (.slice none 0 0, 0)).1
def rl (rs : List (Value × Nat)) (m : Nat) : Nat := (rs.getD m (.slice none 0 0, 0)).2
def vn (os : List Value) (m : Nat) : Value := os.getD m (.slice none 0 0)
theorem vn_map (rs : List (Value × Nat)) (m : Nat) (h : m < rs.length) : vn (rs.map Prod.fst) m = rv rs m := by simp [vn, rv, h]
theorem vn_last (os : List Value) (x : Value) : vn (os ++ [x]) os.length = x := by simp [vn]
theorem vn_old (os : List Value) (x : Value) (j : Nat) (h : j < os.length) : vn (os ++ [x]) j = vn os j := by
  unfold vn
  rw [List.getD_eq_getElem?_getD, List.getD_eq_getElem?_getD, List.getElem?_append_left h]
/-- Two lists of lists that lie apart, by blocks. -/
def Off (a b : Option Nat) : Prop := ∀ k, a = some k → b ≠ some k
theorem Off.symm {a b : Option Nat} (h : Off a b) : Off b a := fun k hb ha => h k ha hb

section
variable (T TS : TypeId) (size : Nat) (mk : Nat → Nat → List Value) (rs : List (Value × Nat))
/-- What is held: a bag's row, or one grown by one, or by seventy. -/
def Held (os ms : List Value) (v : Value) (k L : Nat) : Prop :=
  (k < rs.length ∧ v = rv rs k ∧ L = rl rs k) ∨ (k < os.length ∧ v = vn os k ∧ L = rl rs k + 1) ∨ (k < ms.length ∧ v = vn ms k ∧ L = rl rs k + 70)
/-- The three lists of lists. -/
structure Three (w : World) (V O M : Value) (os ms : List Value) : Prop where
  bag : w.ownsRow 0 TS 1 V rs.length (rs.map Prod.fst)
  one : w.ownsRow 0 TS 1 O os.length os
  more : w.ownsRow 0 TS 1 M ms.length ms
  vo : Off V.ownBlock O.ownBlock
  vm : Off V.ownBlock M.ownBlock
  om : Off O.ownBlock M.ownBlock
/-- All that is other: the bag's rows, and what is new. -/
structure Fr (w0 w : World) : Prop where
  os : w.os = w0.os
  tape : w.tape = w0.tape
  output : w.output = w0.output
  size : w0.heap.size ≤ w.heap.size
  block : ∀ b, b < w0.heap.size → (∀ m, m < rs.length → (rv rs m).ownBlock ≠ some b) → w.heap[b]? = w0.heap[b]?
/-- Whose block it may be. -/
def Mine (w0 : World) (row : Option Nat) : Prop := ∀ b, row = some b → w0.heap.size ≤ b ∨ ∃ m, m < rs.length ∧ (rv rs m).ownBlock = some b
/-- Ahead of the list n. -/
structure Out (w0 w : World) (n : Nat) (V O M : Value) (os ms : List Value) : Prop where
  three : Three TS rs w V O M os ms
  fr : Fr rs w0 w
  mo : Mine rs w0 O.ownBlock
  mm : Mine rs w0 M.ownBlock
  held : ∀ v k L, Held rs os ms v k L → w.ownsRow 0 T size v L (marks mk k L) ∧ ∀ m, n ≤ m → m < rs.length → ∀ b, v.ownBlock = some b → (rv rs m).ownBlock = some b → L ≤ rl rs m
/-- At the list n, grown to i. -/
structure Ap (w0 w : World) (n : Nat) (V O M : Value) (os ms : List Value) (l : Value) (i : Nat) : Prop where
  out : Out T TS size mk rs w0 w (n + 1) V O M os ms
  cur : w.ownsRow 0 T size l i (marks mk n i)
  my : Mine rs w0 l.ownBlock
  far : ∀ m, n + 1 ≤ m → m < rs.length → Off l.ownBlock (rv rs m).ownBlock
  safe : ∀ v k L, Held rs os ms v k L → ∀ b, v.ownBlock = some b → l.ownBlock = some b → L ≤ i

variable {T TS size mk rs}
theorem Fr.grown {w0 w w' : World} {row : Option Nat} (h : Fr rs w0 w) (hg : w.grownBy w' row) (hm : Mine rs w0 row) : Fr rs w0 w' := by
  refine ⟨hg.os.trans h.os, hg.tape.trans h.tape, hg.output.trans h.output, Nat.le_trans h.size hg.size, fun b hb hn => ?_⟩
  rw [hg.block b (Nat.lt_of_lt_of_le hb h.size) (fun e => ?_), h.block b hb hn]
  rcases hm b e.symm with h1 | ⟨m, h1, h2⟩
  · omega
  · exact hn m h1 h2
theorem Three.other {w w' : World} {V O M : Value} {os ms : List Value} {row : Option Nat} (h : Three TS rs w V O M os ms) (hg : w.grownBy w' row) (hn : Not w TS row) : Three TS rs w' V O M os ms :=
  ⟨own_other h.bag hg hn, own_other h.one hg hn, own_other h.more hg hn, h.vo, h.vm, h.om⟩
/-- A block's number, of one that is owned. -/
theorem own_lt {w : World} {base : Nat} {e : TypeId} {size : Nat} {v : Value} {n : Nat} {xs : List Value} (h : w.ownsRow base e size v n xs) {b : Nat} (hb : v.ownBlock = some b) : b < w.heap.size := (h.lt b hb).2
/-- Where a row is behind an append. -/
def Grew (w w' : World) (v : Value) (n g cap : Nat) : Prop := v = .slice (some ⟨g, 0, none⟩) n cap ∨ (g = w.heap.size ∧ w.grownBy w' none)
theorem Grew.off {w w' : World} {v : Value} {n g cap n' : Nat} {base : Nat} {e : TypeId} {size : Nat} {u : Value} {k : Nat} {xs : List Value} (h : Grew w w' v n g cap) (hu : w.ownsRow base e size u k xs) (ho : Off u.ownBlock v.ownBlock) : Off u.ownBlock (Value.slice (some ⟨g, 0, none⟩) n' cap).ownBlock := by
  rcases h with rfl | ⟨rfl, _⟩
  · exact ho
  · intro b hb e
    have := own_lt hu hb
    simp only [Value.ownBlock, Option.some.injEq] at e
    omega
theorem Grew.mine {w w' w0 : World} {v : Value} {n g cap n' : Nat} (h : Grew w w' v n g cap) (hs : w0.heap.size ≤ w.heap.size) (hm : Mine rs w0 v.ownBlock) : Mine rs w0 (Value.slice (some ⟨g, 0, none⟩) n' cap).ownBlock := by
  rcases h with rfl | ⟨rfl, _⟩
  · exact hm
  · intro b e
    simp only [Value.ownBlock, Option.some.injEq] at e
    left
    omega
theorem Three.addOne {w w' : World} {V O M : Value} {os ms : List Value} {x : Value} {g cap : Nat} (h : Three TS rs w V O M os ms) (ho : w'.ownsRow 0 TS 1 (.slice (some ⟨g, 0, none⟩) (os.length + 1) cap) (os.length + 1) (os ++ [x])) (hg : w.grownBy w' O.ownBlock) (hw : Grew w w' O os.length g cap) :
    Three TS rs w' V (.slice (some ⟨g, 0, none⟩) (os.length + 1) cap) M (os ++ [x]) ms := by
  refine ⟨own_apart h.bag hg h.vo, by rw [List.length_append]; exact ho, own_apart h.more hg (fun b hb e => h.om b e hb), hw.off h.bag h.vo, h.vm, ?_⟩
  exact (hw.off h.more h.om.symm).symm
theorem Three.addMore {w w' : World} {V O M : Value} {os ms : List Value} {x : Value} {g cap : Nat} (h : Three TS rs w V O M os ms) (ho : w'.ownsRow 0 TS 1 (.slice (some ⟨g, 0, none⟩) (ms.length + 1) cap) (ms.length + 1) (ms ++ [x])) (hg : w.grownBy w' M.ownBlock) (hw : Grew w w' M ms.length g cap) :
    Three TS rs w' V O (.slice (some ⟨g, 0, none⟩) (ms.length + 1) cap) os (ms ++ [x]) := by
  refine ⟨own_apart h.bag hg h.vm, own_apart h.one hg h.om, by rw [List.length_append]; exact ho, h.vo, hw.off h.bag h.vm, ?_⟩
  exact hw.off h.one h.om
/-- A held row stays while the current one grows. -/
theorem held_grow (hmk : ∀ n i, (mk n i).length = size) (_hsz : 0 < size) {w w' : World} {v l : Value} {k L n i g cap : Nat} (hv : w.ownsRow 0 T size v L (marks mk k L)) (hl : w.ownsRow 0 T size l i (marks mk n i)) (hs : ∀ b, v.ownBlock = some b → l.ownBlock = some b → L ≤ i)
    (ho : w'.ownsRow 0 T size (.slice (some ⟨g, 0, none⟩) (i + 1) cap) (i + 1) (marks mk n (i + 1))) (hg : w.grownBy w' l.ownBlock) (hw : Grew w w' l i g cap) : w'.ownsRow 0 T size v L (marks mk k L) := by
  rcases hw with rfl | ⟨_, h0⟩
  · by_cases hb : v.ownBlock = some g
    · have hLi := hs g hb rfl
      refine ⟨hv.1, ?_⟩
      rcases hv.2 with h1 | ⟨gv, cv, cur, rfl, _, hgv, hLc, hcm, hcs, htk⟩
      · exact .inl h1
      · obtain rfl : gv = g := by simpa [Value.ownBlock] using hb
        rcases hl.2 with ⟨e1, _⟩ | ⟨g2, c2, cur2, e2, _, hg2, _, _, hcs2, htk2⟩
        · cases e1
        · cases e2
          rw [hgv] at hg2
          cases hg2
          rcases ho.2 with ⟨e1, _⟩ | ⟨g3, c3, cur3, e3, _, hg3, _, _, hcs3, htk3⟩
          · cases e1
          · cases e3
            refine .inr ⟨gv, cv, cur3, rfl, Nat.zero_le _, hg3, hLc, hcm, by omega, ?_⟩
            have a1 : cur3.toList.take (L * size) = marks mk n L := by
              have := congrArg (List.take (L * size)) htk3
              rwa [List.take_take, Nat.min_eq_left (Nat.mul_le_mul_right _ (by omega)), marks_take hmk n (by omega)] at this
            have a2 : cur.toList.take (L * size) = marks mk n L := by
              have := congrArg (List.take (L * size)) htk2
              rwa [List.take_take, Nat.min_eq_left (Nat.mul_le_mul_right _ hLi), marks_take hmk n hLi] at this
            rw [a1, ← a2, htk]
    · exact own_apart hv hg fun b hb' e => by
        have : b = g := by simpa [Value.ownBlock] using e.symm
        exact hb (this ▸ hb')
  · exact own_apart hv h0 fun b _ e => by cases e
theorem Out.other {w0 w w' : World} {n : Nat} {V O M : Value} {os ms : List Value} {row : Option Nat} (h : Out T TS size mk rs w0 w n V O M os ms) (hg : w.grownBy w' row) (hn : Not w TS row) (hn2 : Not w T row) (hm : Mine rs w0 row) : Out T TS size mk rs w0 w' n V O M os ms :=
  ⟨h.three.other hg hn, h.fr.grown hg hm, h.mo, h.mm, fun v k L hh => ⟨own_other (h.held v k L hh).1 hg hn2, (h.held v k L hh).2⟩⟩
/-- The current row grows by one. -/
theorem Ap.grow (hmk : ∀ n i, (mk n i).length = size) (hsz : 0 < size) (hT : T ≠ TS) {w0 w w' : World} {n : Nat} {V O M : Value} {os ms : List Value} {l : Value} {i g cap : Nat} (h : Ap T TS size mk rs w0 w n V O M os ms l i)
    (ho : w'.ownsRow 0 T size (.slice (some ⟨g, 0, none⟩) (i + 1) cap) (i + 1) (marks mk n i ++ mk n i)) (hg : w.grownBy w' l.ownBlock) (hw : l = .slice (some ⟨g, 0, none⟩) i cap ∨ (g = w.heap.size ∧ w.grownBy w' none)) : Ap T TS size mk rs w0 w' n V O M os ms (.slice (some ⟨g, 0, none⟩) (i + 1) cap) (i + 1) := by
  rw [← marks_succ] at ho
  have hw' : Grew w w' l i g cap := hw
  refine ⟨⟨h.out.three.other hg (own_not h.cur hT), h.out.fr.grown hg h.my, h.out.mo, h.out.mm, fun v k L hh => ⟨held_grow hmk hsz (h.out.held v k L hh).1 h.cur (h.safe v k L hh) ho hg hw', (h.out.held v k L hh).2⟩⟩, ho, hw'.mine h.out.fr.size h.my, fun m h1 h2 => ?_, fun v k L hh b hb e => ?_⟩
  · exact (hw'.off (h.out.held _ _ _ (.inl ⟨h2, rfl, rfl⟩)).1 (h.far m h1 h2).symm).symm
  · rcases hw' with rfl | ⟨rfl, _⟩
    · exact Nat.le_succ_of_le (h.safe v k L hh b hb e)
    · have := own_lt (h.out.held v k L hh).1 hb
      simp only [Value.ownBlock, Option.some.injEq] at e
      omega
/-- The row grown by one is kept. -/
theorem Ap.addOne (hT : T ≠ TS) {w0 w w' : World} {n : Nat} {V O M : Value} {os ms : List Value} {l : Value} {i g cap : Nat} (h : Ap T TS size mk rs w0 w n V O M os ms l i) (hi : i = rl rs n + 1) (hos : os.length = n)
    (ho : w'.ownsRow 0 TS 1 (.slice (some ⟨g, 0, none⟩) (os.length + 1) cap) (os.length + 1) (os ++ [l])) (hg : w.grownBy w' O.ownBlock) (hw : O = .slice (some ⟨g, 0, none⟩) os.length cap ∨ (g = w.heap.size ∧ w.grownBy w' none)) :
    Ap T TS size mk rs w0 w' n V (.slice (some ⟨g, 0, none⟩) (os.length + 1) cap) M (os ++ [l]) ms l i := by
  have hw' : Grew w w' O os.length g cap := hw
  have hno := own_not h.out.three.one (e' := T) hT.symm
  have hc : w'.ownsRow 0 T size l i (marks mk n i) := own_other h.cur hg hno
  have hd : ∀ v k L, Held rs (os ++ [l]) ms v k L → Held rs os ms v k L ∨ (v = l ∧ k = n ∧ L = i) := by
    rintro v k L (h1 | ⟨h1, h2, h3⟩ | h1)
    · exact .inl (.inl h1)
    · by_cases e : k < os.length
      · exact .inl (.inr (.inl ⟨e, by rw [h2, vn_old _ _ _ e], h3⟩))
      · obtain rfl : k = os.length := by simp at h1; omega
        rw [vn_last] at h2
        exact .inr ⟨h2, hos, by rw [h3, hos, hi]⟩
    · exact .inl (.inr (.inr h1))
  refine ⟨⟨h.out.three.addOne ho hg hw', h.out.fr.grown hg h.out.mo, hw'.mine h.out.fr.size h.out.mo, h.out.mm, fun v k L hh => ?_⟩, hc, h.my, h.far, fun v k L hh b hb e => ?_⟩
  · rcases hd v k L hh with hh | ⟨rfl, rfl, rfl⟩
    · exact ⟨own_other (h.out.held v k L hh).1 hg hno, (h.out.held v k L hh).2⟩
    · exact ⟨hc, fun m h1 h2 b hb e => absurd e (h.far m h1 h2 b hb)⟩
  · rcases hd v k L hh with hh | ⟨rfl, rfl, rfl⟩
    · exact h.safe v k L hh b hb e
    · exact Nat.le_refl _
/-- The row grown by seventy is kept: on to the next. -/
theorem Ap.addMore (hT : T ≠ TS) {w0 w w' : World} {n : Nat} {V O M : Value} {os ms : List Value} {l : Value} {i g cap : Nat} (h : Ap T TS size mk rs w0 w n V O M os ms l i) (hi : i = rl rs n + 70) (hms : ms.length = n)
    (ho : w'.ownsRow 0 TS 1 (.slice (some ⟨g, 0, none⟩) (ms.length + 1) cap) (ms.length + 1) (ms ++ [l])) (hg : w.grownBy w' M.ownBlock) (hw : M = .slice (some ⟨g, 0, none⟩) ms.length cap ∨ (g = w.heap.size ∧ w.grownBy w' none)) :
    Out T TS size mk rs w0 w' (n + 1) V O (.slice (some ⟨g, 0, none⟩) (ms.length + 1) cap) os (ms ++ [l]) := by
  have hw' : Grew w w' M ms.length g cap := hw
  have hno := own_not h.out.three.more (e' := T) hT.symm
  have hc : w'.ownsRow 0 T size l i (marks mk n i) := own_other h.cur hg hno
  refine ⟨h.out.three.addMore ho hg hw', h.out.fr.grown hg h.out.mm, h.out.mo, hw'.mine h.out.fr.size h.out.mm, fun v k L hh => ?_⟩
  have hd : Held rs os ms v k L ∨ (v = l ∧ k = n ∧ L = i) := by
    rcases hh with h1 | h1 | ⟨h1, h2, h3⟩
    · exact .inl (.inl h1)
    · exact .inl (.inr (.inl h1))
    · by_cases e : k < ms.length
      · exact .inl (.inr (.inr ⟨e, by rw [h2, vn_old _ _ _ e], h3⟩))
      · obtain rfl : k = ms.length := by simp at h1; omega
        rw [vn_last] at h2
        exact .inr ⟨h2, hms, by rw [h3, hms, hi]⟩
  rcases hd with hh | ⟨rfl, rfl, rfl⟩
  · exact ⟨own_other (h.out.held v k L hh).1 hg hno, (h.out.held v k L hh).2⟩
  · exact ⟨hc, fun m h1 h2 b hb e => absurd e (h.far m h1 h2 b hb)⟩
/-- The rows' blocks are different ones. -/
def Sep (rs : List (Value × Nat)) : Prop := ∀ m m', m < m' → m' < rs.length → Off (rv rs m).ownBlock (rv rs m').ownBlock
theorem Sep.eq (h : Sep rs) {m m' : Nat} (hm : m < rs.length) (hm' : m' < rs.length) {b : Nat} (h1 : (rv rs m).ownBlock = some b) (h2 : (rv rs m').ownBlock = some b) : m = m' := by
  rcases Nat.lt_trichotomy m m' with h3 | h3 | h3
  · exact absurd h2 (h m m' h3 hm' b h1)
  · exact h3
  · exact absurd h1 (h m' m h3 hm b h2)
/-- The next list is taken up. -/
theorem Out.take (hs : Sep rs) {w0 w : World} {n : Nat} {V O M : Value} {os ms : List Value} (h : Out T TS size mk rs w0 w n V O M os ms) (hn : n < rs.length) : Ap T TS size mk rs w0 w n V O M os ms (rv rs n) (rl rs n) := by
  have hh : Held rs os ms (rv rs n) n (rl rs n) := .inl ⟨hn, rfl, rfl⟩
  refine ⟨⟨h.three, h.fr, h.mo, h.mm, fun v k L h1 => ⟨(h.held v k L h1).1, fun m h2 => (h.held v k L h1).2 m (by omega)⟩⟩, (h.held _ _ _ hh).1, fun b hb => .inr ⟨n, hn, hb⟩, fun m h1 h2 => hs n m (by omega) h2, fun v k L h1 b hb e => (h.held v k L h1).2 n (Nat.le_refl _) hn b hb e⟩
/-- While the marks are being written: up to the place i of the list n. -/
def Wr (T : TypeId) (size : Nat) (mk : Nat → Nat → List Value) (rs : List (Value × Nat)) (w : World) (n i : Nat) : Prop :=
  ∀ m, m < rs.length → ∃ xs, w.ownsRow 0 T size (rv rs m) (rl rs m) xs ∧ (m < n → xs = marks mk m (rl rs m)) ∧ (m = n → xs.take (i * size) = marks mk n i)
/-- All marks stand. -/
theorem Wr.out (hs : Sep rs) {w0 w : World} {V : Value} (h : Wr T size mk rs w rs.length 0) (hV : w.ownsRow 0 TS 1 V rs.length (rs.map Prod.fst)) (hf : Fr rs w0 w) : Out T TS size mk rs w0 w 0 V (.slice none 0 0) (.slice none 0 0) [] [] := by
  refine ⟨⟨hV, World.ownsRow_nil _ _ _ _, World.ownsRow_nil _ _ _ _, fun b _ e => (by cases e), fun b _ e => (by cases e), fun b _ e => (by cases e)⟩, hf, fun b e => (by cases e), fun b e => (by cases e), fun v k L hh => ?_⟩
  rcases hh with ⟨h1, rfl, rfl⟩ | ⟨h1, _⟩ | ⟨h1, _⟩
  · obtain ⟨xs, hx, h2, _⟩ := h k h1
    rw [h2 h1] at hx
    exact ⟨hx, fun m _ h4 b hb hb' => by rw [hs.eq h1 h4 hb hb']; exact Nat.le_refl _⟩
  · simp at h1
  · simp at h1
theorem Wr.next {w : World} {n : Nat} (h : Wr T size mk rs w n (rl rs n)) : Wr T size mk rs w (n + 1) 0 := by
  intro m hm
  obtain ⟨xs, hx, h1, h2⟩ := h m hm
  refine ⟨xs, hx, fun h3 => ?_, fun _ => by simp [marks]⟩
  by_cases e : m < n
  · exact h1 e
  · obtain rfl : m = n := by omega
    rw [← h2 rfl, List.take_of_length_le (by rw [hx.1]; exact Nat.le_refl _)]
/-- A mark is written. -/
theorem Wr.step (hs : Sep rs) {w w' : World} {n i : Nat} (h : Wr T size mk rs w n i) (hn : n < rs.length) (hg : w.grownBy w' (rv rs n).ownBlock) (ho : ∀ xs, w.ownsRow 0 T size (rv rs n) (rl rs n) xs → xs.take (i * size) = marks mk n i → ∃ ys, w'.ownsRow 0 T size (rv rs n) (rl rs n) ys ∧ ys.take ((i + 1) * size) = marks mk n (i + 1)) : Wr T size mk rs w' n (i + 1) := by
  intro m hm
  obtain ⟨xs, hx, h1, h2⟩ := h m hm
  by_cases e : m = n
  · subst e
    obtain ⟨ys, hy, h3⟩ := ho xs hx (h2 rfl)
    exact ⟨ys, hy, fun h4 => absurd h4 (by omega), fun _ => h3⟩
  · refine ⟨xs, own_apart hx hg fun b hb e2 => e (hs.eq hm hn hb e2), h1, fun h4 => absurd h4 e⟩
end








end Go.Proofs.YtmlhnnmelopleaaGreatDoor

namespace Go.Proofs.YtmlhnnmelopleaaGreatDoor
open Go.RowKit

def rowZ (L : List (List Int)) (i : Nat) : List Int := L.getD i []
/-- A list of lists of its own: each row a block of its own behind base. -/
structure RowsZ (w : World) (base : Nat) (V : Value) (vs : List Value) (L : List (List Int)) : Prop where
  bag : w.ownsRow base 32 1 V L.length vs
  row : ∀ i, i < L.length → w.ownsRow base 3 1 (vn vs i) (rowZ L i).length (iVals .i64 (rowZ L i))
/-- A list of lists, to be read. -/
def IntsZ (w : World) (A : Option Addr) (L : List (List Int)) : Prop := ∀ i, i < L.length → ∃ (a : Addr) (R : Option Addr) (k : Nat), A = some a ∧ w.cell? (a.add i) = some (.slice R (rowZ L i).length k) ∧ IntsAt w R .i64 (rowZ L i)
theorem IntsZ.keep {w w1 : World} {A : Option Addr} {L : List (List Int)} (h : IntsZ w A L) (hb : Below w.heap.size w w1) : IntsZ w1 A L := fun i hi => by
  obtain ⟨a, R, k, e, c, r⟩ := h i hi
  exact ⟨a, R, k, e, lkeep hb c, r.keep hb⟩
theorem RowsZ.nil (w : World) (base : Nat) : RowsZ w base (.slice none 0 0) [] [] := ⟨World.ownsRow_nil _ _ _ _, fun _i hi => absurd hi (Nat.not_lt_zero _)⟩
theorem RowsZ.keep {w w1 : World} {base : Nat} {V : Value} {vs : List Value} {L : List (List Int)} (h : RowsZ w base V vs L) (hb : Below w.heap.size w w1) : RowsZ w1 base V vs L := ⟨row_keep h.bag hb, fun i hi => row_keep (h.row i hi) hb⟩
theorem RowsZ.mono {w : World} {base b' : Nat} {V : Value} {vs : List Value} {L : List (List Int)} (h : RowsZ w base V vs L) (hb : b' ≤ base) : RowsZ w b' V vs L := ⟨ownsRow_mono h.bag hb, fun i hi => ownsRow_mono (h.row i hi) hb⟩
theorem RowsZ.len {w : World} {base : Nat} {V : Value} {vs : List Value} {L : List (List Int)} (h : RowsZ w base V vs L) : vs.length = L.length := by have := h.bag.1; omega
theorem row_other {w w1 : World} {b b2 : Nat} {e e2 : TypeId} {sz sz2 n n2 : Nat} {v v2 : Value} {xs xs2 : List Value} (h : w.ownsRow b e sz v n xs) (h2 : w.ownsRow b2 e2 sz2 v2 n2 xs2) (hne : e ≠ e2) (hg : w.grownBy w1 v2.ownBlock) : w1.ownsRow b e sz v n xs := by
  refine h.kept hg ?_
  rcases h.2 with ⟨rfl, _⟩ | ⟨g, cap, cur, rfl, _, hg1, _⟩
  · exact .inl rfl
  · refine .inr fun e => ?_
    rcases h2.2 with ⟨rfl, _⟩ | ⟨g2, cap2, cur2, rfl, _, hg2, _⟩
    · cases e
    · cases e
      rw [hg1] at hg2
      injection hg2 with hg2
      injection hg2 with _ hh
      exact hne hh
/-- One row more. -/
theorem RowsZ.add {w w1 : World} {base : Nat} {V V1 r : Value} {vs : List Value} {L : List (List Int)} {l : List Int} (h : RowsZ w base V vs L) (hr : w.ownsRow base 3 1 r l.length (iVals .i64 l)) (h1 : w1.ownsRow base 32 1 V1 (L.length + 1) (vs ++ [r])) (hg : w.grownBy w1 V.ownBlock) : RowsZ w1 base V1 (vs ++ [r]) (L ++ [l]) := by
  refine ⟨by simpa using h1, fun i hi => ?_⟩
  have hl := h.len
  by_cases he : i < L.length
  · have a : vn (vs ++ [r]) i = vn vs i := vn_old vs r i (by omega)
    have b : rowZ (L ++ [l]) i = rowZ L i := by
      unfold rowZ
      rw [List.getD_eq_getElem?_getD, List.getD_eq_getElem?_getD, List.getElem?_append_left he]
    rw [a, b]
    exact row_other (h.row i he) h.bag (by decide) hg
  · have hi' : i = L.length := by simp at hi; omega
    subst hi'
    have a : vn (vs ++ [r]) L.length = r := by rw [← hl]; exact vn_last vs r
    have b : rowZ (L ++ [l]) L.length = l := by simp [rowZ]
    rw [a, b]
    exact row_other hr h.bag (by decide) hg
theorem RowsZ.row_other {w w1 : World} {base : Nat} {V : Value} {vs : List Value} {L : List (List Int)} {b n : Nat} {v : Value} {xs : List Value} (h : RowsZ w base V vs L) (hv : w.ownsRow b 3 1 v n xs) (hoff : ∀ i, i < L.length → ∀ k, (vn vs i).ownBlock = some k → v.ownBlock ≠ some k) (hg : w.grownBy w1 v.ownBlock) : RowsZ w1 base V vs L :=
  ⟨Go.Proofs.YtmlhnnmelopleaaGreatDoor.row_other h.bag hv (by decide) hg, fun i hi => by
    refine (h.row i hi).kept hg ?_
    cases hk : (vn vs i).ownBlock with
    | none => exact .inl rfl
    | some k => exact .inr fun e => hoff i hi k hk e.symm⟩
theorem RowsZ.ints {w : World} {base c n : Nat} {A : Option Addr} {vs : List Value} {L : List (List Int)} (h : RowsZ w base (.slice A n c) vs L) : IntsZ w A L := fun i hi => by
  obtain ⟨R, k, e⟩ := own_form (h.row i hi)
  have hr := h.row i hi
  rw [e] at hr
  rcases h.bag.2 with ⟨_, h0⟩ | ⟨j, cap, cur, hv, hb, hg, hc, _⟩
  · omega
  · cases hv
    have hl := h.len
    refine ⟨_, R, k, rfl, ?_, row_ints hr⟩
    refine h.bag.cells rfl i _ ?_
    rw [← e]
    unfold vn
    rw [List.getD_eq_getElem?_getD, List.getElem?_eq_getElem (by omega)]
    rfl
theorem infoS : ∃ i, Tryz.prog.info? 32 = some i ∧ i.zero = some (.slice none 0 0) ∧ i.size = 1 ∧ i.bytes = 24 :=
  ⟨(Tryz.prog.info? 32).get (by kernel_rfl), by kernel_rfl, by kernel_rfl, by kernel_rfl, by kernel_rfl⟩
theorem one_slice {A : Option Addr} {n c : Nat} : ∀ u ∈ [Value.slice A n c], u.oneCell' = true := fun u hu => by
  simp only [List.mem_cons, List.not_mem_nil, or_false] at hu
  rw [hu]; rfl
theorem rowZ_map {f : Nat → List Int} {n i : Nat} (h : i < n) : rowZ ((List.range n).map f) i = f i := by simp [rowZ, h]
def hasZ (l : List Int) (x : Int) : Bool := decide (x ∈ l)
/-- Edges turned round. -/
def backR (L : List (List Int)) (k : Nat) (y : Int) : Bool := hasZ (rowZ L y.toNat) (k : Int)
def backT (L : List (List Int)) (k : Nat) : List (List Int) := (List.range k).map fun j => plcT (backR L j) L.length
theorem backT_succ (L : List (List Int)) (k : Nat) : backT L (k + 1) = backT L k ++ [plcT (backR L k) L.length] := by simp [backT, List.range_succ]
theorem backT_len (L : List (List Int)) (k : Nat) : (backT L k).length = k := by simp [backT]
/-- An answer that is a list of lists. -/
def ZP (L : List (List Int)) (w : World) (e : Ending) (w' : World) : Prop := ∃ (A : Option Addr) (c : Nat) (vs : List Value), e = .returned (.slice A L.length c) ∧ RowsZ w' w.heap.size (.slice A L.length c) vs L ∧ Below w.heap.size w w'




end Go.Proofs.YtmlhnnmelopleaaGreatDoor

namespace Go.Proofs.YtmlhnnmelopleaaGreatDoor
open Go.RowKit

def goesF (op n : Int) (next : Bool) (place : Int) (known : Bool) : Bool :=
  if op = -1 ∨ op = 0 ∨ op = 21 then false else if op = 15 ∨ op = 17 then (n == place) else if op = 16 then (n == place || next) else if op = 18 ∨ op = 19 then known else next
/-- The last word of a block. -/
def lastW (text : List Int) (ent : Int) (i : Nat) : Int := nth text (rSym (blkL text ent) i - 1).toNat
/-- May control go from the block i to the block k? -/
def edgB (text : List Int) (ent : Int) (i k : Nat) : Bool := goesF (dOp (lastW text ent i)) (dN (lastW text ent i)) ((k : Int) == (i : Int) + 1) (rAt (blkL text ent) k) (takF text (rAt (blkL text ent) k) || sitF text (rAt (blkL text ent) k))
def edgR (text : List Int) (ent : Int) (i : Nat) (y : Int) : Bool := edgB text ent i y.toNat
def edgT (text : List Int) (ent : Int) (k : Nat) : List (List Int) := (List.range k).map fun i => plcT (edgR text ent i) (blkL text ent).length
theorem edgT_succ (text : List Int) (ent : Int) (k : Nat) : edgT text ent (k + 1) = edgT text ent k ++ [plcT (edgR text ent k) (blkL text ent).length] := by simp [edgT, List.range_succ]
theorem edgT_len (text : List Int) (ent : Int) (k : Nat) : (edgT text ent k).length = k := by simp [edgT]
/-- What a block of an image that may be is. -/
theorem blk_len_le (text : List Int) (ent : Int) : (blkL text ent).length ≤ text.length := by
  have := plcT_len (begF text ent) text.length
  unfold blkL
  rw [zipN_len]
  omega
theorem blk_in {text : List Int} {ent : Int} {k : Nat} (hk : k < (blkL text ent).length) : 0 ≤ rAt (blkL text ent) k ∧ rAt (blkL text ent) k < rSym (blkL text ent) k ∧ rSym (blkL text ent) k ≤ (text.length : Int) := by
  have hk2 : k < (plcT (begF text ent) text.length).length := by rw [← blkN_len]; exact hk
  have h1 := blk_from (f := begF text ent) (n := text.length) hk2
  have h2 := blk_wide (f := begF text ent) (n := text.length) hk2
  have h3 := blk_to (f := begF text ent) (n := text.length) hk2
  have h4 := plcT_mem.1 (nth_mem hk2)
  have e : blkN (begF text ent) text.length = blkL text ent := rfl
  rw [e] at h1 h2 h3
  refine ⟨by rw [h1]; exact h4.1, h2, ?_⟩
  rw [h3]
  split
  · next h => have := (plcT_mem.1 (nth_mem h)).2.1; omega
  · exact Int.le_refl _




end Go.Proofs.YtmlhnnmelopleaaGreatDoor
