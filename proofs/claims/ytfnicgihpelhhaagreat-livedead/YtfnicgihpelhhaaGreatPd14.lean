/-
  Rows that lie apart, as one of them grows. Lists of blocks, how they lie in memory. EqInts: two lists of ints. What the program asks of sets of registers; no Go in sight.
-/
import Derived.Test.YtfnicgihpelhhaaGreatProg
import Derived.WalkKit
import Derived.WalkSpells
import Derived.WalkLawsBesides
import Derived.RowKit3
import Derived.Below
import Derived.Deep.QuietTactic
import Derived.BigQuiet
import Derived.WalkSmall
import Derived.Laws.Rows
import Derived.Test.YtfnicgihpelhhaaGreatPd09
import Derived.Deep.AppendLies
import Derived.Test.YtfnicgihpelhhaaGreatPd02
import Derived.Test.YtfnicgihpelhhaaGreatPd08
import Derived.Test.YtfnicgihpelhhaaGreatPd04
import Derived.Test.YtfnicgihpelhhaaGreatPd01
namespace Go.Proofs.YtfnicgihpelhhaaGreat
open Go.RowKit

/-- The row that grows is none of those that are done. -/
def Offs (vs : List Value) (n : Nat) (v : Value) : Prop := ∀ i, i < n → ∀ q, (vn vs i).ownBlock = some q → v.ownBlock ≠ some q
theorem offs_nil (vs : List Value) (n : Nat) : Offs vs n (.slice none 0 0) := fun _ _ _ _ e => by cases e
/-- Where a row lies that was appended to: in its own block, or in a new one. -/
theorem run_append_at (w : World) {P : Program} (base : Nat) (t ty e : TypeId) (i : TypeInfo) (z : Value) (size bytes : Nat) (ht : P.underlying t = some (.slice e)) (hi : P.info? e = some i) (hz : i.zero = some z)
    (hsize : i.size = size) (hby : i.bytes = bytes) (hzs : z.cells.size = size) (hsz : 0 < size)
    (v : Value) (n : Nat) (xs : List Value) (hown : w.ownsRow base e size v n xs)
    (a : Addr) (m c : Nat) (news : List Value) (hl : news.length = m * size) (hnews : ∀ j u, news[j]? = some u → w.cell? (a.add j) = some u) (h1 : ∀ u ∈ news, u.oneCell' = true)
    (hm : 0 < m) (h63 : n + m ≤ maxLen) (hbytes : (n + m) * bytes ≤ 140737488355328) (hb : base ≤ w.heap.size) :
    ∃ g cap w', (Builtin.append_ #[t, t] ty #[v, .slice (some a) m c]).run P w = .ok (.slice (some ⟨g, 0, none⟩) (n + m) cap) w' ∧
      w'.ownsRow base e size (.slice (some ⟨g, 0, none⟩) (n + m) cap) (n + m) (xs ++ news) ∧ w.grownBy w' v.ownBlock ∧ (v.ownBlock = some g ∨ w.heap.size ≤ g) := by
  obtain ⟨g, cap, w', hr, h2, h3, h4⟩ := run_append_two (P := P) w t ty e i z size bytes ht hi hz hsize hby hzs hsz v n xs (ownsRow_mono hown (Nat.zero_le _)) a m c news hl hnews h1 hm h63 hbytes
  have hg : v.ownBlock = some g ∨ w.heap.size ≤ g := by
    rcases h4 with h4 | ⟨h4, _⟩
    · exact .inl (by rw [h4]; rfl)
    · exact .inr (by omega)
  refine ⟨g, cap, w', hr, ?_, h3, hg⟩
  refine ⟨h2.1, ?_⟩
  rcases h2.2 with ⟨e1, e2⟩ | ⟨g2, cap2, cur, e1, _, r⟩
  · cases e1
  · cases e1
    refine .inr ⟨g, cap, cur, rfl, ?_, r⟩
    rcases hg with k | k
    · exact (hown.lt g k).1
    · omega
theorem wpList_append_at {P : Program} (w : World) {ops : Array Oper} {rest : List Oper} {o : Oper} {a : Act} {Q : Exit → Act → World → Prop} (hgd : o.guard = none) (s x : Operand) (t : TypeId)
    (ho : o.op = .call { callee := .builtin .append, args := #[s, x], argTypes := #[t, t] }) (base : Nat)
    (e : TypeId) (i : TypeInfo) (z : Value) (size bytes : Nat) (ht : P.underlying t = some (.slice e)) (hi : P.info? e = some i) (hz : i.zero = some z)
    (hsize : i.size = size) (hby : i.bytes = bytes) (hzs : z.cells.size = size) (hsz : 0 < size)
    (v : Value) (n : Nat) (xs : List Value) (hs : a.eval s = v) (hown : w.ownsRow base e size v n xs)
    (ad : Addr) (m c : Nat) (news : List Value) (hx : a.eval x = .slice (some ad) m c) (hl : news.length = m * size) (hnews : ∀ j u, news[j]? = some u → w.cell? (ad.add j) = some u) (h1 : ∀ u ∈ news, u.oneCell' = true)
    (hm : 0 < m) (h63 : n + m ≤ maxLen) (hbytes : (n + m) * bytes ≤ 140737488355328) (hb : base ≤ w.heap.size)
    (h : ∀ g cap w', w'.ownsRow base e size (.slice (some ⟨g, 0, none⟩) (n + m) cap) (n + m) (xs ++ news) → w.grownBy w' v.ownBlock → (v.ownBlock = some g ∨ w.heap.size ≤ g) → wpList P ops Q rest (a.put o.dst (.slice (some ⟨g, 0, none⟩) (n + m) cap)) w') : wpList P ops Q (o :: rest) a w :=
  wpList_plain hgd fun K hK => by
    obtain ⟨g, cap, w', hr, h2, h3, h4⟩ := run_append_at (P := P) w base t o.type e i z size bytes ht hi hz hsize hby hzs hsz v n xs hown ad m c news hl hnews h1 hm h63 hbytes hb
    unfold Oper.wp execOp
    simp only [ho, resolve, invoke, builtin, Sem.run_bind, Sem.run_pure, Result.andThen_ok, List.map_toArray, List.map_cons, List.map_nil, hs, hx, hr]
    exact hK _ _ (h g cap w' h2 h3 h4)
theorem offs_grow {w : World} {base : Nat} {V v : Value} {vs : List Value} {L : List (List Int)} {g n cap : Nat} (hZ : RowsZ w base V vs L) (h : Offs vs L.length v) (hl : v.ownBlock = some g ∨ w.heap.size ≤ g) : Offs vs L.length (.slice (some ⟨g, 0, none⟩) n cap) := fun i hi q hq e => by
  have eg : g = q := by simpa [Value.ownBlock] using e
  subst eg
  rcases hl with k | k
  · exact h i hi g hq k
  · have := ((hZ.row i hi).lt g hq).2
    omega



end Go.Proofs.YtfnicgihpelhhaaGreat

namespace Go.Proofs.YtfnicgihpelhhaaGreat
open Go.RowKit

/-- The cells of a list of blocks. -/
def dNews : List Rel → List Value
  | [] => []
  | x :: l => .int .i64 x.1 :: .int .i64 x.2 :: dNews l
theorem dNews_append : ∀ a b : List Rel, dNews (a ++ b) = dNews a ++ dNews b
  | [], _ => rfl
  | x :: a, b => by rw [List.cons_append, dNews, dNews, dNews_append a b]; rfl
theorem dNews_snoc (a : List Rel) (x : Rel) : dNews (a ++ [x]) = dNews a ++ [.int .i64 x.1, .int .i64 x.2] := dNews_append a [x]
theorem dNews_len : ∀ l : List Rel, (dNews l).length = l.length * 2
  | [] => rfl
  | x :: l => by simp [dNews, dNews_len l]; omega
theorem dNews_get : ∀ {l : List Rel} {i : Nat}, i < l.length → (dNews l)[i * 2]? = some (.int .i64 (rAt l i)) ∧ (dNews l)[i * 2 + 1]? = some (.int .i64 (rSym l i))
  | [], _, h => absurd h (Nat.not_lt_zero _)
  | x :: l, 0, _ => ⟨rfl, rfl⟩
  | x :: l, i + 1, h => by
    have := dNews_get (l := l) (i := i) (by simpa using h)
    rw [show (i + 1) * 2 = i * 2 + 1 + 1 by omega]
    exact this
theorem dNews_one : ∀ (l : List Rel), ∀ u ∈ dNews l, u.oneCell' = true
  | [], u, hu => by simp [dNews] at hu
  | x :: l, u, hu => by
    simp only [dNews, List.mem_cons] at hu
    rcases hu with rfl | rfl | hu
    · rfl
    · rfl
    · exact dNews_one l u hu
theorem dNews_cell {w : World} {a : Addr} {zs : List Rel} (hA : RelsAt w (some a) zs) (j : Nat) (u : Value) (h : (dNews zs)[j]? = some u) : w.cell? (a.add j) = some u := by
  have hj : j < zs.length * 2 := by
    have := (List.getElem?_eq_some_iff.1 h).1; rwa [dNews_len] at this
  obtain ⟨i, hi⟩ : ∃ i, i = j / 2 := ⟨_, rfl⟩
  obtain ⟨b, e, c0, c1⟩ := hA i (by omega)
  obtain rfl := Option.some.inj e
  obtain ⟨g0, g1⟩ := dNews_get (l := zs) (i := i) (by omega)
  have hm : j = i * 2 ∨ j = i * 2 + 1 := by omega
  clear hi
  rcases hm with rfl | rfl
  · rw [c0, ← h, g0]
  · rw [g1] at h
    rw [← h, ← Deep.add_add]
    exact c1
theorem drow_rels {w : World} {base c n : Nat} {e : TypeId} {A : Option Addr} {l : List Rel} (h : w.ownsRow base e 2 (.slice A n c) l.length (dNews l)) : RelsAt w A l := fun i hi => by
  rcases h.2 with ⟨_, h0⟩ | ⟨j, cap, cur, hv, hb, hg, hc, _⟩
  · omega
  · cases hv
    obtain ⟨a, b⟩ := dNews_get hi
    exact ⟨_, rfl, h.cells rfl _ _ a, by rw [Deep.add_add]; exact h.cells rfl _ _ b⟩
theorem no_rels (w : World) : RelsAt w none [] := fun i hi => by simp at hi
theorem infoB : ∃ i, Tryz.prog.info? 67 = some i ∧ i.zero = some (.agg #[.int .i64 0, .int .i64 0]) ∧ i.size = 2 ∧ i.bytes = 16 :=
  ⟨(Tryz.prog.info? 67).get (by kernel_rfl), by kernel_rfl, by kernel_rfl, by kernel_rfl, by kernel_rfl⟩
theorem two_oneI {x y : Int} : ∀ u ∈ [Value.int .i64 x, .int .i64 y], u.oneCell' = true := fun u hu => by
  simp only [List.mem_cons, List.not_mem_nil, or_false] at hu
  rcases hu with rfl | rfl <;> rfl



end Go.Proofs.YtfnicgihpelhhaaGreat

namespace Go.Proofs.YtfnicgihpelhhaaGreat
open Go.RowKit


end Go.Proofs.YtfnicgihpelhhaaGreat

namespace Go.Proofs.YtfnicgihpelhhaaGreat
open Go.RowKit

/-- Is it a call? -/
def cllB (op : Int) : Bool := op == 17 || op == 18
/-- What an instruction reads and writes, by its fields. -/
def irdN (op da db : Int) : Nat := bitN (hA op) da ||| bitN (hB op) db
def iwrN (op dd : Int) : Nat := bitN (hD op) dd ||| bitN (cllB op) 15
theorem rdN_is (v : Int) : rdN v = irdN (dOp v) (dA v) (dB v) := rfl
theorem wrN_is (v : Int) : wrN v = iwrN (dOp v) (dD v) := by
  unfold wrN iwrN
  generalize dOp v = op
  by_cases h : op = 17 ∨ op = 18
  · rw [if_pos h]
    rcases h with rfl | rfl
    · rw [show hD 17 = false by decide, show cllB 17 = true by decide, show bitN false (dD v) = 0 from rfl, Nat.zero_or]; decide
    · rw [show hD 18 = false by decide, show cllB 18 = true by decide, show bitN false (dD v) = 0 from rfl, Nat.zero_or]; decide
  · rw [if_neg h]
    have : cllB op = false := by
      unfold cllB
      rw [Bool.or_eq_false_iff, beq_eq_false_iff_ne, beq_eq_false_iff_ne]
      exact ⟨fun e => h (.inl e), fun e => h (.inr e)⟩
    rw [this, show bitN false 15 = 0 from rfl, Nat.or_zero]
theorem irdN_lt {op da db : Int} (h : da ≤ 15) (k : db ≤ 15) : irdN op da db < 65536 := orN_lt (bitN_lt _ h) (bitN_lt _ k)
theorem iwrN_lt {op dd : Int} (h : dd ≤ 15) : iwrN op dd < 65536 := orN_lt (bitN_lt _ h) (bitN_lt _ (by omega))
theorem linkA {n : Nat} (h : n < 65536) : ((bits .and .u16 (n : Int) 32768) != 0) = decide (n / 32768 = 1) := by
  rw [u16_and _ _ (by omega) (by omega) (by omega) (by omega)]
  have e : ((n : Int).toNat &&& (32768 : Int).toNat : Nat) = if n / 32768 = 1 then 32768 else 0 := by
    show n &&& 32768 = _
    apply Nat.eq_of_testBit_eq
    intro i
    rw [Nat.testBit_and, show (32768 : Nat) = 2 ^ 15 from rfl, Nat.testBit_two_pow]
    by_cases hi : 15 = i
    · subst hi
      rw [Nat.testBit_eq_decide_div_mod_eq]
      by_cases e : n / 2 ^ 15 = 1
      · rw [if_pos e, e, Nat.testBit_two_pow]; rfl
      · rw [if_neg e]
        have : n / 2 ^ 15 = 0 := by omega
        rw [this]; rfl
    · by_cases e : n / 2 ^ 15 = 1
      · rw [if_pos e, Nat.testBit_two_pow]; simp [hi]
      · rw [if_neg e]; simp [hi]
  rw [e]
  by_cases k : n / 32768 = 1
  · rw [if_pos k, decide_eq_true k]; rfl
  · rw [if_neg k, decide_eq_false k]; rfl


end Go.Proofs.YtfnicgihpelhhaaGreat
