/-
  Lists that a copy owns, and what one symbol more makes of them; no Go in sight.
-/
import Derived.Test.YtbphfgalgiinnaaProg
import Derived.WalkKit
import Derived.WalkSpells
import Derived.WalkLawsBesides
import Derived.RowKit3
import Derived.Below
import Derived.Deep.QuietTactic
import Derived.BigQuiet
import Derived.WalkSmall
import Derived.Test.YtbphfgalgiinnaaCopyObj
import Derived.Test.YtbphfgalgiinnaaObFinds
import Derived.Test.YtbphfgalgiinnaaWideLies
namespace Go.Proofs.Ytbphfgalgiinnaa
open Go.RowKit

theorem own_ints {w : World} {base e cap : Nat} {O : Option Addr} {K : IntKind} {zs : List Int} (h : w.ownsRow base e 1 (.slice O zs.length cap) zs.length (iNews K zs)) : IntsAt w O K zs := fun i hi => by
  rcases h.2 with ⟨_, hn⟩ | ⟨g, c, cur, hv, _⟩
  · omega
  · cases hv
    refine ⟨_, rfl, h.cells rfl i _ ?_⟩
    simp [iNews, hi, wInt]
theorem own_syms {w : World} {base e cap : Nat} {O : Option Addr} {zs : List Sym} (h : w.ownsRow base e 3 (.slice O zs.length cap) zs.length (sNews zs)) : SymsAt w O zs := fun i hi => by
  rcases h.2 with ⟨_, hn⟩ | ⟨g, c, cur, hv, _⟩
  · omega
  · cases hv
    refine ⟨_, rfl, h.cells rfl _ _ ?_, ?_, ?_⟩
    · rw [← wSym_item0 zs i hi]; simp [sNews, show i * 3 < zs.length * 3 by omega]
    · rw [Deep.add_add]; refine h.cells rfl _ _ ?_; rw [← wSym_item1 zs i hi]; simp [sNews, show i * 3 + 1 < zs.length * 3 by omega]
    · rw [Deep.add_add]; refine h.cells rfl _ _ ?_; rw [← wSym_item2 zs i hi]; simp [sNews, show i * 3 + 2 < zs.length * 3 by omega]
theorem own_rels {w : World} {base e cap : Nat} {O : Option Addr} {zs : List Rel} (h : w.ownsRow base e 2 (.slice O zs.length cap) zs.length (rNews zs)) : RelsAt w O zs := fun i hi => by
  rcases h.2 with ⟨_, hn⟩ | ⟨g, c, cur, hv, _⟩
  · omega
  · cases hv
    refine ⟨_, rfl, h.cells rfl _ _ ?_, ?_⟩
    · rw [← wRel_item0 zs i hi]; simp [rNews, show i * 2 < zs.length * 2 by omega]
    · rw [Deep.add_add]; refine h.cells rfl _ _ ?_; rw [← wRel_item1 zs i hi]; simp [rNews, show i * 2 + 1 < zs.length * 2 by omega]
theorem iNews_app (K : IntKind) (zs : List Int) (x : Int) : iNews K zs ++ [.int K x] = iNews K (zs ++ [x]) := by
  unfold iNews
  rw [List.length_append, List.length_singleton, List.range_succ, List.map_append]
  congr 1
  · apply List.map_congr_left
    intro i hi
    have hi' : i < zs.length := by simpa using hi
    simp [wInt, hi', show i < zs.length + 1 by omega, nth_app hi']
  · simp [wInt, nth_last]
theorem own_apart {w : World} {b1 b2 e1 e2 s1 s2 n1 n2 : Nat} {v1 v2 : Value} {x1 x2 : List Value} (h1 : w.ownsRow b1 e1 s1 v1 n1 x1) (h2 : w.ownsRow b2 e2 s2 v2 n2 x2) (he : ¬ e1 = e2) : v1.ownBlock = none ∨ v1.ownBlock ≠ v2.ownBlock := by
  rcases h1.2 with ⟨rfl, _⟩ | ⟨g, c, cur, rfl, _, hg, _⟩
  · exact Or.inl rfl
  · right
    rcases h2.2 with ⟨rfl, _⟩ | ⟨g', c', cur', rfl, _, hg', _⟩
    · intro h; cases h
    · intro h
      have e : g = g' := Option.some.inj h
      subst e
      rw [hg] at hg'
      cases hg'
      exact he rfl
theorem own_ne {w : World} {b e s n k : Nat} {v : Value} {x : List Value} (h : w.ownsRow b e s v n x) (hk : w.heap.size ≤ k) : some k ≠ v.ownBlock := fun c => by
  have := (h.lt k c.symm).2; omega

theorem sNews_app (zs : List Sym) (x : Sym) : sNews zs ++ [.string x.1, .int .i8 x.2.1, .int .i64 x.2.2] = sNews (zs ++ [x]) := by
  have hl : (zs ++ [x]).length = zs.length + 1 := by simp
  have g : (zs ++ [x]).getD zs.length symD = x := s_last
  have e0 : wSym (zs ++ [x]) (zs.length * 3) = .string x.1 := by rw [wSym_item0 _ _ (by rw [hl]; omega)]; unfold sName; rw [g]
  have e1 : wSym (zs ++ [x]) (zs.length * 3 + 1) = .int .i8 x.2.1 := by rw [wSym_item1 _ _ (by rw [hl]; omega)]; unfold sKind; rw [g]
  have e2 : wSym (zs ++ [x]) (zs.length * 3 + 2) = .int .i64 x.2.2 := by rw [wSym_item2 _ _ (by rw [hl]; omega)]; unfold sAt; rw [g]
  unfold sNews
  rw [hl, show (zs.length + 1) * 3 = zs.length * 3 + 1 + 1 + 1 by omega, List.range_succ, List.range_succ, List.range_succ]
  simp only [List.map_append, List.map_cons, List.map_nil, List.append_assoc]
  rw [e0, e1, show zs.length * 3 + 1 + 1 = zs.length * 3 + 2 by omega, e2]
  congr 1
  apply List.map_congr_left
  intro i hi
  have hi' : i < zs.length * 3 := by simpa using hi
  have hq : i / 3 < zs.length := by omega
  have gq : (zs ++ [x]).getD (i / 3) symD = zs.getD (i / 3) symD := s_app hq
  unfold wSym sName sKind sAt
  rw [gq, hl, if_pos hq, if_pos (show i / 3 < zs.length + 1 by omega)]
theorem twice_step {base : Nat} {O1 O3 O4 : Option Addr} {k1 k3 k4 : Nat} {code : List Int} {ss : List Sym} {rs : List Rel} {x : Sym} {w2 Wb w3 : World} {g cap : Nat}
    (o1 : w2.ownsRow base 45 1 (.slice O1 code.length k1) code.length (iNews .u32 code)) (o3 : w2.ownsRow base 42 3 (.slice O3 ss.length k3) ss.length (sNews ss)) (o4 : w2.ownsRow base 44 2 (.slice O4 rs.length k4) rs.length (rNews rs))
    (hb : w2.grownBy Wb none) (hown : w3.ownsRow base 42 3 (.slice (some ⟨g, 0, none⟩) (ss.length + 1) cap) (ss.length + 1) (sNews ss ++ [.string x.1, .int .i8 x.2.1, .int .i64 x.2.2]))
    (hgrow : Wb.grownBy w3 (Value.slice O3 ss.length k3).ownBlock) (hlie : (Value.slice O3 ss.length k3).ownBlock = some g ∨ g = w2.heap.size + 2) (v : Value) :
    IntsAt (w3.setCell ⟨w2.heap.size, 4, none⟩ v) O1 .u32 code ∧ SymsAt (w3.setCell ⟨w2.heap.size, 4, none⟩ v) (some ⟨g, 0, none⟩) (ss ++ [x]) ∧ RelsAt (w3.setCell ⟨w2.heap.size, 4, none⟩ v) O4 rs := by
  have o1Y := keepN o1 hb
  have o3Y := keepN o3 hb
  have o4Y := keepN o4 hb
  have o1W := o1Y.kept hgrow (own_apart o1Y o3Y (by decide))
  have o4W := o4Y.kept hgrow (own_apart o4Y o3Y (by decide))
  have hgne : ¬ g = w2.heap.size := by
    rcases hlie with h | h
    · have := (o3.lt g h).2; omega
    · omega
  have o3X := hown.kept (gset w3 w2.heap.size 4 v) (Or.inr (fun h => hgne (Option.some.inj h)))
  have o1X := o1W.kept (gset w3 w2.heap.size 4 v) (Or.inr (own_ne o1 (Nat.le_refl _)).symm)
  have o4X := o4W.kept (gset w3 w2.heap.size 4 v) (Or.inr (own_ne o4 (Nat.le_refl _)).symm)
  refine ⟨own_ints o1X, own_syms (base := base) (e := 42) (cap := cap) ?_, own_rels o4X⟩
  rw [List.length_append, List.length_singleton, ← sNews_app]; exact o3X
theorem names_app {ss : List Sym} (h : ∀ i, (sName ss i).size ≤ 140737488355328) (p : Nat) : ∀ i, (sName (ss ++ [ss.getD p symD]) i).size ≤ 140737488355328 := fun i => by
  rcases Nat.lt_trichotomy i ss.length with hi | hi | hi
  · have : sName (ss ++ [ss.getD p symD]) i = sName ss i := by unfold sName; rw [s_app hi]
    rw [this]; exact h i
  · have : sName (ss ++ [ss.getD p symD]) i = sName ss p := by unfold sName; rw [hi, s_last]
    rw [this]; exact h p
  · have : (ss ++ [ss.getD p symD]).getD i symD = symD := by
      rw [List.getD, List.getElem?_eq_none (by simp; omega)]; rfl
    unfold sName; rw [this]; exact Nat.zero_le _
theorem wrapPick {pick : Int} (p0 : 0 ≤ pick) (p1 : pick ≤ 255) : IntKind.i64.wrap pick = pick := by
  first
    | exact WalkArith.wrap_i64 (by omega)
    | (simp [IntKind.wrap, IntKind.signed, IntKind.bits]; omega)
theorem new3 (w2 : World) (box : Obj) (s : ByteArray) (k a : Int) : ∀ (j : Nat) (u : Value), [Value.string s, .int .i8 k, .int .i64 a][j]? = some u → (((w2.alloc box).alloc (.cells #[.string s, .int .i8 k, .int .i64 a] 42)).drew).cell? ((⟨w2.heap.size + 1, 0, none⟩ : Addr).add j) = some u := fun j u hu => by
  rw [addz]
  match j, hu with
  | 0, hu => simp at hu; subst hu; simp [go_sem]
  | 1, hu => simp at hu; subst hu; simp [go_sem]
  | 2, hu => simp at hu; subst hu; simp [go_sem]
  | n + 3, hu => simp at hu
theorem one3 (s : ByteArray) (k a : Int) : ∀ u ∈ [Value.string s, .int .i8 k, .int .i64 a], u.oneCell' = true := fun u hu => by
  simp at hu
  rcases hu with rfl | rfl | rfl <;> rfl
theorem grown2 (w2 : World) (o o' : Obj) : w2.grownBy (((w2.alloc o).alloc o').drew) none := by
  have h := (World.grownBy_alloc w2 o none).trans (World.grownBy_alloc (w2.alloc o) o' none)
  exact ⟨h.1, h.2, h.3, h.4, h.5⟩
theorem names_less {ss : List Sym} (h : ∀ i, (sName ss i).size ≤ 140737488355328) : ∀ i, (sName ss i).size ≤ 140737488355328 := h

end Go.Proofs.Ytbphfgalgiinnaa
