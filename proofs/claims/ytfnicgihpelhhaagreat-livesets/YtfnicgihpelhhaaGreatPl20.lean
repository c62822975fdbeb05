/-
  has of the document, by what it returns. Rows that lie apart, as one of them grows. Back of the document, by what it answers.
-/
import Derived.Test.YtfnicgihpelhhaaGreatProg
import Derived.WalkKit
import Derived.WalkSpells
import Derived.WalkLawsBesides
import Derived.RowKit3
import Derived.Below
import Derived.Deep.QuietTactic
import Derived.BigQuiet
import Derived.WalkSmall
import Derived.Laws.Rows
import Derived.Test.YtfnicgihpelhhaaGreatPl13
import Derived.Test.YtfnicgihpelhhaaGreatPl17
namespace Go.Proofs.YtfnicgihpelhhaaGreat
open Go.RowKit


end Go.Proofs.YtfnicgihpelhhaaGreat

namespace Go.Proofs.YtfnicgihpelhhaaGreat
open Go.RowKit

/-- The row that grows is none of those that are done. -/
def Offs (vs : List Value) (n : Nat) (v : Value) : Prop := ∀ i, i < n → ∀ q, (vn vs i).ownBlock = some q → v.ownBlock ≠ some q
theorem offs_nil (vs : List Value) (n : Nat) : Offs vs n (.slice none 0 0) := fun _ _ _ _ e => by cases e
/-- Where a row lies that was appended to: in its own block, or in a new one. -/
theorem run_append_at (w : World) {P : Program} (base : Nat) (t ty e : TypeId) (i : TypeInfo) (z : Value) (size bytes : Nat) (ht : P.underlying t = some (.slice e)) (hi : P.info? e = some i) (hz : i.zero = some z)
    (hsize : i.size = size) (hby : i.bytes = bytes) (hzs : z.cells.size = size) (hsz : 0 < size)
    (v : Value) (n : Nat) (xs : List Value) (hown : w.ownsRow base e size v n xs)
    (a : Addr) (m c : Nat) (news : List Value) (hl : news.length = m * size) (hnews : ∀ j u, news[j]? = some u → w.cell? (a.add j) = some u) (h1 : ∀ u ∈ news, u.oneCell' = true)
    (hm : 0 < m) (h63 : n + m ≤ maxLen) (hbytes : (n + m) * bytes ≤ 140737488355328) (hb : base ≤ w.heap.size) :
    ∃ g cap w', (Builtin.append_ #[t, t] ty #[v, .slice (some a) m c]).run P w = .ok (.slice (some ⟨g, 0, none⟩) (n + m) cap) w' ∧
      w'.ownsRow base e size (.slice (some ⟨g, 0, none⟩) (n + m) cap) (n + m) (xs ++ news) ∧ w.grownBy w' v.ownBlock ∧ (v.ownBlock = some g ∨ w.heap.size ≤ g) := by
  obtain ⟨g, cap, w', hr, h2, h3, h4⟩ := run_append_two (P := P) w t ty e i z size bytes ht hi hz hsize hby hzs hsz v n xs (ownsRow_mono hown (Nat.zero_le _)) a m c news hl hnews h1 hm h63 hbytes
  have hg : v.ownBlock = some g ∨ w.heap.size ≤ g := by
    rcases h4 with h4 | ⟨h4, _⟩
    · exact .inl (by rw [h4]; rfl)
    · exact .inr (by omega)
  refine ⟨g, cap, w', hr, ?_, h3, hg⟩
  refine ⟨h2.1, ?_⟩
  rcases h2.2 with ⟨e1, e2⟩ | ⟨g2, cap2, cur, e1, _, r⟩
  · cases e1
  · cases e1
    refine .inr ⟨g, cap, cur, rfl, ?_, r⟩
    rcases hg with k | k
    · exact (hown.lt g k).1
    · omega
theorem wpList_append_at {P : Program} (w : World) {ops : Array Oper} {rest : List Oper} {o : Oper} {a : Act} {Q : Exit → Act → World → Prop} (hgd : o.guard = none) (s x : Operand) (t : TypeId)
    (ho : o.op = .call { callee := .builtin .append, args := #[s, x], argTypes := #[t, t] }) (base : Nat)
    (e : TypeId) (i : TypeInfo) (z : Value) (size bytes : Nat) (ht : P.underlying t = some (.slice e)) (hi : P.info? e = some i) (hz : i.zero = some z)
    (hsize : i.size = size) (hby : i.bytes = bytes) (hzs : z.cells.size = size) (hsz : 0 < size)
    (v : Value) (n : Nat) (xs : List Value) (hs : a.eval s = v) (hown : w.ownsRow base e size v n xs)
    (ad : Addr) (m c : Nat) (news : List Value) (hx : a.eval x = .slice (some ad) m c) (hl : news.length = m * size) (hnews : ∀ j u, news[j]? = some u → w.cell? (ad.add j) = some u) (h1 : ∀ u ∈ news, u.oneCell' = true)
    (hm : 0 < m) (h63 : n + m ≤ maxLen) (hbytes : (n + m) * bytes ≤ 140737488355328) (hb : base ≤ w.heap.size)
    (h : ∀ g cap w', w'.ownsRow base e size (.slice (some ⟨g, 0, none⟩) (n + m) cap) (n + m) (xs ++ news) → w.grownBy w' v.ownBlock → (v.ownBlock = some g ∨ w.heap.size ≤ g) → wpList P ops Q rest (a.put o.dst (.slice (some ⟨g, 0, none⟩) (n + m) cap)) w') : wpList P ops Q (o :: rest) a w :=
  wpList_plain hgd fun K hK => by
    obtain ⟨g, cap, w', hr, h2, h3, h4⟩ := run_append_at (P := P) w base t o.type e i z size bytes ht hi hz hsize hby hzs hsz v n xs hown ad m c news hl hnews h1 hm h63 hbytes hb
    unfold Oper.wp execOp
    simp only [ho, resolve, invoke, builtin, Sem.run_bind, Sem.run_pure, Result.andThen_ok, List.map_toArray, List.map_cons, List.map_nil, hs, hx, hr]
    exact hK _ _ (h g cap w' h2 h3 h4)
theorem offs_grow {w : World} {base : Nat} {V v : Value} {vs : List Value} {L : List (List Int)} {g n cap : Nat} (hZ : RowsZ w base V vs L) (h : Offs vs L.length v) (hl : v.ownBlock = some g ∨ w.heap.size ≤ g) : Offs vs L.length (.slice (some ⟨g, 0, none⟩) n cap) := fun i hi q hq e => by
  have eg : g = q := by simpa [Value.ownBlock] using e
  subst eg
  rcases hl with k | k
  · exact h i hi g hq k
  · have := ((hZ.row i hi).lt g hq).2
    omega



end Go.Proofs.YtfnicgihpelhhaaGreat

namespace Go.Proofs.YtfnicgihpelhhaaGreat
open Go.RowKit

theorem offs_at {vs : List Value} {n m : Nat} {v : Value} (h : Offs vs n v) (e : n = m) : Offs vs m v := by subst e; exact h

end Go.Proofs.YtfnicgihpelhhaaGreat
