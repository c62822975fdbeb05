/-
  A list of numbers copied by append, by the document's helpers: a list of its own; it is at most 2^20 long. A list of symbols, of relocations copied by append, by the document's helpers: a list of its own; it is at most 2^20 long. An object copied by the document's helper: each list is its own; the lists are at most 2^20 long. The program's machine and the document's, side by side. A bag of bytes: marked, grown, and looked at: all marks stand.
-/
import Derived.Test.YtdlcejpfjlpclaaGreatDoorProg
import Derived.WalkKit
import Derived.WalkSpells
import Derived.WalkLawsBesides
import Derived.RowKit3
import Derived.Below
import Derived.Deep.QuietTactic
import Derived.BigQuiet
import Derived.WalkSmall
import Derived.Laws.AppendOwn
import Derived.Laws.OwnMore
import Derived.Deep.Slices
import Derived.Lib.BufferOwn
import Derived.Test.YtdlcejpfjlpclaaGreatDoorPr33
import Derived.Laws.Rows
import Derived.Test.YtdlcejpfjlpclaaGreatDoorPr18
import Derived.Test.YtdlcejpfjlpclaaGreatDoorPr24
import Derived.Test.YtdlcejpfjlpclaaGreatDoorPr17
import Derived.Test.YtdlcejpfjlpclaaGreatDoorPr12
import Derived.Test.YtdlcejpfjlpclaaGreatDoorPr07
namespace Go.Proofs.YtdlcejpfjlpclaaGreatDoor
open Go.RowKit

/-- How a copy ends: a list of its own. -/
def CopyP (el sz n : Nat) (news : List Value) (w : World) (e : Ending) (w' : World) : Prop := ∃ (O : Option Addr) (cap : Nat), e = .returned (.slice O n cap) ∧ w'.ownsRow w.heap.size el sz (.slice O n cap) n news ∧ w.grownBy w' none ∧ (O = none → cap = 0)
theorem copyP_mk {el sz n : Nat} {news : List Value} {w w' : World} {v : Value} {e : Ending} (he : e = .returned v) (h : w'.ownsRow w.heap.size el sz v n news) (hg : w.grownBy w' none) : CopyP el sz n news w e w' := by
  subst he
  rcases h.2 with ⟨rfl, rfl⟩ | ⟨g, cap, cur, rfl, _⟩
  · exact ⟨none, 0, rfl, h, hg, fun _ => rfl⟩
  · exact ⟨some ⟨g, 0, none⟩, cap, rfl, h, hg, fun e => by cases e⟩
def iNews (K : IntKind) (zs : List Int) : List Value := (List.range zs.length).map (wInt K zs)
theorem iNews_cell {w : World} {a : Addr} {K : IntKind} {zs : List Int} (hA : IntsAt w (some a) K zs) (j : Nat) (u : Value) (h : (iNews K zs)[j]? = some u) : w.cell? (a.add j) = some u := by
  have hj : j < zs.length := by
    have := (List.getElem?_eq_some_iff.1 h).1; simpa [iNews] using this
  obtain ⟨b, e, c⟩ := hA j hj
  obtain rfl := Option.some.inj e
  rw [c, ← h]
  simp [iNews, hj, wInt]
theorem iNews_one (K : IntKind) (zs : List Int) : ∀ u ∈ iNews K zs, u.oneCell' = true := by
  intro u hu
  obtain ⟨i, _, rfl⟩ := List.mem_map.1 hu
  unfold wInt; split <;> rfl
theorem copywords_any (O : Option Addr) (ca : Nat) (zs : List Int) (w : World) (hA : IntsAt w O .u32 zs) (h0 : O = none → ca = 0) (hz : zs.length ≤ 1048576) :
    Calls Tryz.prog 23 #[.slice O zs.length ca] w fun e w' => CopyP 36 1 zs.length (iNews .u32 zs) w e w' := by
  obtain ⟨i0, hi, hz0, hz1, hz2⟩ := info45
  cases O with
  | none =>
    obtain rfl := h0 rfl
    have hl : zs.length = 0 := by
      cases zs with
      | nil => rfl
      | cons x t => obtain ⟨a, e, _⟩ := hA 0 (by simp); cases e
    have hn : iNews .u32 zs = [] := by unfold iNews; rw [hl]; rfl
    rw [hl, hn]
    have hr := run_append_owned_none (P := Tryz.prog) (w := w) w.heap.size 22 22 36 i0 1 Tryz.underlying22 hi (.slice none 0 0) 0 [] (World.ownsRow_nil w _ _ _)
    go_enter Tryz.func23, Tryz.ntmps23
    go_wp2
    go_ret
    exact copyP_mk rfl (World.ownsRow_nil w _ _ _) (World.grownBy.refl w _)
  | some a =>
    go_enter Tryz.func23, Tryz.ntmps23
    go_wp2_with (at_builtin; refine wpList_append_own _ rfl (.tmp 4) (.tmp 5) 22 rfl w.heap.size 36 i0 (.int .u32 0) 1 4 Tryz.underlying22 hi hz0 hz1 hz2 rfl (by decide) (.slice none 0 0) 0 [] rfl (World.ownsRow_nil w _ _ _) a zs.length ca (iNews .u32 zs) rfl (by simp [iNews]) (iNews_cell hA) (iNews_one _ _) (by unfold maxLen; omega) (by omega) (Nat.le_refl _) ?_; intro v' w' hown hgrow hnil)
    go_ret
    exact copyP_mk rfl (by simpa using hown) hgrow
theorem copylongs_any (O : Option Addr) (ca : Nat) (zs : List Int) (w : World) (hA : IntsAt w O .i64 zs) (h0 : O = none → ca = 0) (hz : zs.length ≤ 1048576) :
    Calls Tryz.prog 7 #[.slice O zs.length ca] w fun e w' => CopyP 2 1 zs.length (iNews .i64 zs) w e w' := by
  obtain ⟨i0, hi, hz0, hz1, hz2⟩ := info2
  cases O with
  | none =>
    obtain rfl := h0 rfl
    have hl : zs.length = 0 := by
      cases zs with
      | nil => rfl
      | cons x t => obtain ⟨a, e, _⟩ := hA 0 (by simp); cases e
    have hn : iNews .i64 zs = [] := by unfold iNews; rw [hl]; rfl
    rw [hl, hn]
    have hr := run_append_owned_none (P := Tryz.prog) (w := w) w.heap.size 23 23 2 i0 1 Tryz.underlying23 hi (.slice none 0 0) 0 [] (World.ownsRow_nil w _ _ _)
    go_enter Tryz.func7, Tryz.ntmps7
    go_wp2
    go_ret
    exact copyP_mk rfl (World.ownsRow_nil w _ _ _) (World.grownBy.refl w _)
  | some a =>
    go_enter Tryz.func7, Tryz.ntmps7
    go_wp2_with (at_builtin; refine wpList_append_own _ rfl (.tmp 4) (.tmp 5) 23 rfl w.heap.size 2 i0 (.int .i64 0) 1 8 Tryz.underlying23 hi hz0 hz1 hz2 rfl (by decide) (.slice none 0 0) 0 [] rfl (World.ownsRow_nil w _ _ _) a zs.length ca (iNews .i64 zs) rfl (by simp [iNews]) (iNews_cell hA) (iNews_one _ _) (by unfold maxLen; omega) (by omega) (Nat.le_refl _) ?_; intro v' w' hown hgrow hnil)
    go_ret
    exact copyP_mk rfl (by simpa using hown) hgrow
theorem gcell {w w' : World} (hg : w.grownBy w' none) {p : Addr} {v : Value} (hc : w.cell? p = some v) : w'.cell? p = some v := hg.cell hc (by simp)
theorem gfroz {w w' : World} (hg : w.grownBy w' none) {p : Addr} {v : Value} (hc : w.cell? p = some v) (hf : w.frozen? p = false) : w'.frozen? p = false := by
  rw [World.frozen?_of_block (hg.block p.block (World.block_lt_of_cell? w p hc) (by simp))]; exact hf
theorem scell_ne {w : World} {b i j : Nat} {v u : Value} (hij : ¬ i = j) (h : w.cell? ⟨b, j, none⟩ = some u) : (w.setCell ⟨b, i, none⟩ v).cell? ⟨b, j, none⟩ = some u := by
  rw [← h]; simp [go_sem]
theorem scell_eq {w : World} {b i : Nat} {v u : Value} (h : w.cell? ⟨b, i, none⟩ = some u) : (w.setCell ⟨b, i, none⟩ v).cell? ⟨b, i, none⟩ = some v := by
  simp [go_sem, h]
theorem scell_far {w : World} {b c i j : Nat} {v u : Value} (hbc : ¬ b = c) (h : w.cell? ⟨c, j, none⟩ = some u) : (w.setCell ⟨b, i, none⟩ v).cell? ⟨c, j, none⟩ = some u := by
  rw [← h]; simp [go_sem]
theorem sfroz {w : World} {b i : Nat} {v : Value} {q : Addr} (h : w.frozen? q = false) : (w.setCell ⟨b, i, none⟩ v).frozen? q = false := by
  rw [← h]; simp [go_sem]
theorem keepN {w w' : World} {base e sz : Nat} {v : Value} {n : Nat} {xs : List Value} (h : w.ownsRow base e sz v n xs) (hg : w.grownBy w' none) : w'.ownsRow base e sz v n xs := h.kept hg (by
  by_cases c : v.ownBlock = none
  · exact Or.inl c
  · exact Or.inr c)
theorem keepS {w w' : World} {base e sz b : Nat} {v : Value} {n : Nat} {xs : List Value} (h : w.ownsRow base e sz v n xs) (hg : w.grownBy w' (some b)) (hb : b < base) : w'.ownsRow base e sz v n xs := h.kept hg (Or.inr fun c => by
  have := (h.lt b c).1; omega)
theorem ownMono {w : World} {base base' e sz : Nat} {v : Value} {n : Nat} {xs : List Value} (h : w.ownsRow base e sz v n xs) (hb : base' ≤ base) : w.ownsRow base' e sz v n xs := ⟨h.1, h.2.imp id fun ⟨g, cap, cur, a, b, c⟩ => ⟨g, cap, cur, a, Nat.le_trans hb b, c⟩⟩
theorem gset (w : World) (b i : Nat) (v : Value) : w.grownBy (w.setCell ⟨b, i, none⟩ v) (some b) := Lib.grownBy_setB (World.grownBy.refl w _) i v
theorem below_grow {w w1 w2 : World} (h : Below w.heap.size w w1) (hg : w1.grownBy w2 none) : Below w.heap.size w w2 := h.grown hg h.size (fun k e => by cases e)

end Go.Proofs.YtdlcejpfjlpclaaGreatDoor

namespace Go.Proofs.YtdlcejpfjlpclaaGreatDoor
open Go.RowKit

theorem new_facts {text tape mem : List Int} {ent : Int} (hE : newE text tape mem ent = 0) (hR : ∀ i, i < text.length → 0 ≤ nth text i ∧ nth text i < 4294967296) : Fine (newM text tape mem ent) ∧ (newM text tape mem ent).steps = 0 ∧ (newM text tape mem ent).status = 0 := by
  have h1 : (checkI text mem.length ent).1 = 0 := by
    unfold newE at hE
    split at hE
    · assumption
    · exact hE
  have h2 : ¬ 4096 < tape.length := by
    intro h
    unfold newE at hE
    rw [if_pos h1, if_pos h] at hE
    cases hE
  have hp := (check_mayI h1).past
  have := hp.len
  have := hp.ent1
  exact ⟨newM_fine hR hp.len hp.pos (by omega) hp.mem (by omega), rfl, rfl⟩
/-- More than a statement looks at. -/
def muchB (text mem tape : List Int) : Bool := decide (32768 < text.length ∨ 16384 < mem.length ∨ 16384 < tape.length)
theorem much_any (A1 A2 A3 : Option Addr) (c1 c2 c3 : Nat) (ent : Int) (text mem tape : List Int) (w : World) : Calls Tryz.prog 4 #[.agg #[.slice A1 text.length c1, .int .i64 ent, .slice A2 mem.length c2], .slice A3 tape.length c3] w fun e w' => e = .returned (.bool (muchB text mem tape)) ∧ Below w.heap.size w w' := by
  have HE : Hid (∀ B : Bool, (B = true ↔ (32768 < text.length ∨ 16384 < mem.length ∨ 16384 < tape.length)) → B = muchB text mem tape) := fun B h => by
    unfold muchB
    rw [Bool.eq_iff_iff, h]
    simp
  by_cases h1 : 32768 < text.length
  · have h1' : (32768 : Int) < (text.length : Int) := by omega
    go_enter Tryz.func4, Tryz.ntmps4
    go_wp2
    go_ret
    exact ⟨retB (HE.out _ (by simp; omega)), lb_alloc (Below.refl _ _) _⟩
  by_cases h2 : 16384 < mem.length
  · have h1' : ¬ (32768 : Int) < (text.length : Int) := by omega
    have h2' : (16384 : Int) < (mem.length : Int) := by omega
    go_enter Tryz.func4, Tryz.ntmps4
    go_wp2
    go_ret
    exact ⟨retB (HE.out _ (by simp; omega)), lb_alloc (Below.refl _ _) _⟩
  by_cases h3 : 16384 < tape.length
  · have h1' : ¬ (32768 : Int) < (text.length : Int) := by omega
    have h2' : ¬ (16384 : Int) < (mem.length : Int) := by omega
    have h3' : (16384 : Int) < (tape.length : Int) := by omega
    go_enter Tryz.func4, Tryz.ntmps4
    go_wp2
    go_ret
    exact ⟨retB (HE.out _ (by simp; omega)), lb_alloc (Below.refl _ _) _⟩
  · have h1' : ¬ (32768 : Int) < (text.length : Int) := by omega
    have h2' : ¬ (16384 : Int) < (mem.length : Int) := by omega
    have h3' : ¬ (16384 : Int) < (tape.length : Int) := by omega
    go_enter Tryz.func4, Tryz.ntmps4
    go_wp2
    go_ret
    exact ⟨retB (HE.out _ (by simp; omega)), lb_alloc (Below.refl _ _) _⟩


/-- Two machines, the program's and the document's, which share nothing and are one plain machine. -/
structure Duo (w : World) (b1 P : Nat) (s : Loc) (b2 Q : Nat) (t : QLoc) (m : Mach) : Prop where
  p : PAt w b1 P s m
  q : QAt w b2 Q t m
  apart : ∀ b, Foot s P b → ¬ QFoot t Q b
/-- The program's machine has gone on. -/
structure Half (w : World) (b1 P : Nat) (s : Loc) (b2 Q : Nat) (t : QLoc) (m m' : Mach) : Prop where
  p : PAt w b1 P s m'
  q : QAt w b2 Q t m
  apart : ∀ b, Foot s P b → ¬ QFoot t Q b
section
variable {w w' : World} {b1 P b2 Q : Nat} {s : Loc} {t : QLoc} {m m' : Mach}
theorem Duo.keep (h : Duo w b1 P s b2 Q t m) (hb : Below w.heap.size w w') : Duo w' b1 P s b2 Q t m := ⟨h.p.keep hb, h.q.keep hb, h.apart⟩
theorem Duo.left (h : Duo w b1 P s b2 Q t m) (hn : NowP w b1 P s m' w') : ∃ s', Half w' b1 P s' b2 Q t m m' := by
  obtain ⟨s', a1, a2, a3⟩ := hn
  refine ⟨s', a1, h.q.other a2 fun b hb hf => h.apart b hf hb, fun b hb hf => ?_⟩
  rcases a3 b hb with k | k
  · exact h.apart b k hf
  · have := (h.q.foot hf).2; omega
theorem Half.right (h : Half w b1 P s b2 Q t m m') (hn : NowQ w b2 Q t m' w') : ∃ t', Duo w' b1 P s b2 Q t' m' := by
  obtain ⟨t', a1, a2, a3⟩ := hn
  refine ⟨t', h.p.other a2 fun b hb hf => h.apart b hb hf, a1, fun b hb hf => ?_⟩
  rcases a3 b hf with k | k
  · exact h.apart b hb k
  · have := (h.p.foot hb).2; omega
theorem nowp_below {w0 : World} (h : NowP w b1 P s m' w') (p : PAt w b1 P s m) (hb : Below w0.heap.size w0 w) (hB : w0.heap.size ≤ b1) : Below w0.heap.size w0 w' := by
  obtain ⟨s', -, a2, -⟩ := h
  exact a2.below hb fun b hf => Nat.le_trans hB (p.foot hf).1
theorem nowq_below {w0 : World} (h : NowQ w b2 Q t m' w') (p : QAt w b2 Q t m) (hb : Below w0.heap.size w0 w) (hB : w0.heap.size ≤ b2) : Below w0.heap.size w0 w' := by
  obtain ⟨s', -, a2, -⟩ := h
  exact a2.below hb fun b hf => Nat.le_trans hB (p.foot hf).1
end
/-- A list that was handed in and is written over: nothing else is other. -/
structure Spoil (A : Option Addr) (n : Nat) (w w' : World) : Prop where
  os : w'.os = w.os
  tape : w'.tape = w.tape
  output : w'.output = w.output
  size : w'.heap.size = w.heap.size
  block : ∀ b, aB A ≠ some b → w'.heap[b]? = w.heap[b]?
  cells : ∀ k, k < n → ∃ g, A = some ⟨g, 0, none⟩ ∧ (∃ u, w'.cell? ⟨g, k, none⟩ = some u) ∧ w'.frozen? ⟨g, k, none⟩ = false
theorem Spoil.start {w : World} {base c n : Nat} {e : TypeId} {A : Option Addr} {xs : List Value} (h : w.ownsRow base e 1 (.slice A n c) n xs) : Spoil A n w w :=
  ⟨rfl, rfl, rfl, rfl, fun _ _ => rfl, fun k hk => by
    obtain ⟨u, hu⟩ : ∃ u, xs[k]? = some u := ⟨_, List.getElem?_eq_getElem (by have := h.1; omega)⟩
    rcases h.2 with ⟨_, h0⟩ | ⟨g, cap, cur, hv, hb, hg, hc, _⟩
    · omega
    · cases hv
      refine ⟨g, rfl, ⟨u, ?_⟩, box_fro hg k⟩
      have := h.cells rfl k u hu
      rwa [add0] at this⟩
theorem Spoil.set {A : Option Addr} {n : Nat} {w w' : World} (h : Spoil A n w w') {g : Nat} (hA : A = some ⟨g, 0, none⟩) (k : Nat) (v : Value) : Spoil A n w (w'.setCell ⟨g, k, none⟩ v) :=
  ⟨h.os, h.tape, h.output, by rw [← h.size]; simp [go_sem], fun b hb => (Below.heap_setCell _ _ _ _ (fun e => hb (by rw [hA, e]; rfl))).trans (h.block b hb), fun j hj => by
    obtain ⟨g', e, ⟨u, hu⟩, hf⟩ := h.cells j hj
    rw [hA] at e
    cases e
    refine ⟨g, hA, ?_, by rw [← hf]; simp [go_sem]⟩
    by_cases ej : j = k
    · subst ej; exact ⟨v, scell_eq hu⟩
    · exact ⟨u, scell_ne (fun e => ej e.symm) hu⟩⟩
theorem Spoil.cell {A : Option Addr} {n : Nat} {w w' : World} (h : Spoil A n w w') {p : Addr} {v : Value} (hp : aB A ≠ some p.block) (hc : w.cell? p = some v) : w'.cell? p = some v := by
  rw [World.cell?_of_block (w := w) (h.block p.block hp)]; exact hc
theorem Spoil.below {A : Option Addr} {n : Nat} {w0 w w' : World} (h : Spoil A n w w') (hb : Below w0.heap.size w0 w) (hA : ∀ b, aB A = some b → w0.heap.size ≤ b) : Below w0.heap.size w0 w' :=
  ⟨h.os.trans hb.os, h.tape.trans hb.tape, h.output.trans hb.output, by rw [h.size]; exact hb.size, fun k hk => (h.block k (fun e => by have := hA k e; omega)).trans (hb.block k hk)⟩
theorem own_aBlt {w : World} {base c n m : Nat} {e : TypeId} {sz : Nat} {A : Option Addr} {xs : List Value} (h : w.ownsRow base e sz (.slice A n c) m xs) {b : Nat} (hb : aB A = some b) : base ≤ b ∧ b < w.heap.size := h.lt b (by rw [own_aB]; exact hb)

end Go.Proofs.YtdlcejpfjlpclaaGreatDoor

namespace Go.Proofs.YtdlcejpfjlpclaaGreatDoor
open Go.RowKit


def mkB (n i : Nat) : List Value := [.int .u8 ((31 * n + 7 * i + 3) % 256)]
theorem mkB_len (n i : Nat) : (mkB n i).length = 1 := rfl
theorem info5 : ∃ i, Tryz.prog.info? 5 = some i ∧ i.zero = some (.int .u8 0) ∧ i.size = 1 ∧ i.bytes = 1 :=
  ⟨(Tryz.prog.info? 5).get (by kernel_rfl), by kernel_rfl, by kernel_rfl, by kernel_rfl, by kernel_rfl⟩
theorem info31 : ∃ i, Tryz.prog.info? 116 = some i ∧ i.zero = some (.slice none 0 0) ∧ i.size = 1 ∧ i.bytes = 24 :=
  ⟨(Tryz.prog.info? 116).get (by kernel_rfl), by kernel_rfl, by kernel_rfl, by kernel_rfl, by kernel_rfl⟩
theorem cells_of {w : World} {T : TypeId} {size L k : Nat} {mk : Nat → Nat → List Value} {v : Value} (hmk : ∀ n i, (mk n i).length = size) (h : w.ownsRow 0 T size v L (marks mk k L)) (hL : 0 < L) :
    ∃ g c, v = .slice (some ⟨g, 0, none⟩) L c ∧ Hid (∀ j, j < L → ∀ p, p < size → ∀ u, (mk k j)[p]? = some u → w.cell? ⟨g, j * size + p, none⟩ = some u) := by
  obtain ⟨g, c, e, -, -⟩ := h.form hL
  rw [e] at h
  exact ⟨g, c, e, fun j hj p hp u hu => own_mark hmk h hj hp hu⟩
set_option maxRecDepth 100000 in
set_option maxHeartbeats 2000000 in
theorem apartbytes_any (B : Nat) (A : Option Addr) (cV : Nat) (rs : List (Value × Nat)) (w0 : World)
    (hbag : w0.cell? ⟨B, 0, none⟩ = some (.slice A rs.length cV)) (hV : w0.ownsRow 0 116 1 (.slice A rs.length cV) rs.length (rs.map Prod.fst))
    (hR : ∀ m, m < rs.length → ∃ xs, w0.ownsRow 0 5 1 (rv rs m) (rl rs m) xs) (hS : Sep rs) (hB : ∀ m, m < rs.length → (rv rs m).ownBlock ≠ some B)
    (hN : rs.length ≤ 300) (hL : ∀ m, rl rs m ≤ 1048576) :
    Calls Tryz.prog 41 #[.pointer (some ⟨B, 0, none⟩)] w0 fun r w' => r = .returned (.bool true) ∧ Fr rs w0 w' := by
  obtain ⟨i0, hi, hz0, hz1, hz2⟩ := info5
  obtain ⟨i1, hy, hy0, hy1, hy2⟩ := info31
  have HB : Hid (∀ w, Fr rs w0 w → w.cell? ⟨B, 0, none⟩ = some (.slice A rs.length cV)) := fun w h => h.cell hbag hB
  have HW : Hid (Wm 5 116 1 mkB rs (.slice A rs.length cV) w0 w0 0 0) := Wm.start hV hR
  clear hbag hV hR hB
  go_enter Tryz.func41, Tryz.ntmps41
  go_wp2
  go_loopw [3] (fun n wr => ∃ k : Nat, n = .int .i64 k ∧ k ≤ rs.length ∧ Hid (Wm 5 116 1 mkB rs (.slice A rs.length cV) w0 wr k 0)) (fun n _ => rs.length - (intOf n).toNat)
  case atStart => exact ⟨0, rfl, Nat.zero_le _, HW⟩
  case round =>
    clear HW
    obtain ⟨k, rfl, hk, HW⟩ := hrel
    have hb := HB.out _ HW.out.fr
    by_cases hlt : k < rs.length
    · have hLk := hL k
      obtain ⟨a, ea, q⟩ := bag_at HW.out.bag k hlt
      obtain ⟨xs, hx⟩ := HW.out.row hlt
      obtain ⟨A1, c1, e1, -⟩ := own_any hx
      rw [e1] at q
      have HE1 : Hid _ := e1
      clear hx e1
      go_wp2
      go_loopw [4] (fun i wr => ∃ j : Nat, i = .int .i64 j ∧ j ≤ rl rs k ∧ Hid (Wm 5 116 1 mkB rs (.slice A rs.length cV) w0 wr k j)) (fun i _ => rl rs k - (intOf i).toNat)
      case atStart => exact ⟨0, rfl, Nat.zero_le _, HW⟩
      case round =>
        clear HW hb q
        obtain ⟨j, rfl, hj, HW⟩ := hrel
        have hb := HB.out _ HW.out.fr
        obtain ⟨a', ea', q⟩ := bag_at HW.out.bag k hlt
        rw [ea] at ea'
        cases ea'
        rw [HE1.out] at q
        by_cases hlj : j < rl rs k
        · obtain ⟨xs, hx⟩ := HW.out.row hlt
          rw [HE1.out] at hx
          obtain ⟨g, cap, e2, -, -⟩ := hx.form (by omega)
          cases e2
          obtain ⟨u, hu⟩ := row_cell0 hx j (by omega)
          have hfr := hx.frozenAt j
          clear hx
          subst ea
          go_wp2
          go_roundw
          case rel => exact ⟨j + 1, by go_num, by omega, HW.out.step1 hS (by decide) hlt hlj HE1.out rfl⟩
          case measure => simp [intOf]; omega
        · obtain rfl : j = rl rs k := by omega
          subst ea
          go_wp2
          go_roundw
          case rel => exact ⟨k + 1, by go_num, by omega, HW.out.next⟩
          case measure => simp [intOf]; omega
    · obtain rfl : k = rs.length := by omega
      have HO : Hid _ := Wm.out hS HW.out
      clear HW
      go_wp2
      go_loopw [7, 5, 6] (fun n one more wr => ∃ (k : Nat) (os ms : List Value), n = .int .i64 k ∧ k ≤ rs.length ∧ os.length = k ∧ ms.length = k ∧ Hid (Out 5 116 1 mkB rs w0 wr k (.slice A rs.length cV) one more os ms)) (fun n _ _ _ => rs.length - (intOf n).toNat)
      case atStart => exact ⟨0, [], [], rfl, Nat.zero_le _, rfl, rfl, HO⟩
      case round =>
        clear HO hb hlt hk
        obtain ⟨k, os, ms, rfl, hk, hos', hms', HO⟩ := hrel
        have hos : Hid _ := hos'
        have hms : Hid _ := hms'
        clear hos' hms'
        have hb := HB.out _ HO.out.fr
        by_cases hlt : k < rs.length
        · have hLk := hL k
          obtain ⟨a, ea, q⟩ := bag_at HO.out.three.bag k hlt
          obtain ⟨A1, c1, e1, -⟩ := own_any (HO.out.row k hlt)
          have HA : Hid _ := HO.out.take hS hlt
          rw [e1] at q HA
          have HE1 : Hid _ := e1
          clear e1 HO
          go_wp2
          go_loopw [9, 8, 5] (fun i l one wr => ∃ (j : Nat) (os : List Value), i = .int .i64 j ∧ rl rs k ≤ j ∧ j ≤ rl rs k + 70 ∧ (j = rl rs k → os.length = k) ∧ (rl rs k < j → os.length = k + 1) ∧ Hid (Ap 5 116 1 mkB rs w0 wr k (.slice A rs.length cV) one u6 os ms l j)) (fun i _ _ _ => rl rs k + 70 - (intOf i).toNat)
          case atStart => exact ⟨rl rs k, os, rfl, Nat.le_refl _, by omega, fun _ => hos.out, fun h => by omega, HA⟩
          case round =>
            clear HA hb q hos os
            obtain ⟨j, os, rfl, hj0, hj1, ho0', ho1', HA⟩ := hrel
            have ho0 : Hid _ := ho0'
            have ho1 : Hid _ := ho1'
            clear ho0' ho1'
            have hb := HB.out _ HA.out.out.fr
            obtain ⟨a', ea', q⟩ := bag_at HA.out.out.three.bag k hlt
            rw [ea] at ea'
            cases ea'
            rw [HE1.out] at q
            by_cases hlj : j < rl rs k + 70
            · have HA2 : Hid _ := HA.out.alloc (.cells #[.int .u8 ((31 * (k : Int) + 7 * (j : Int) + 3) % 256)] 5)
              by_cases hjl : j = rl rs k
              · have hOS : Hid _ := ho0.out hjl
                subst hjl
                go_wp2_with (first | (at_builtin; refine wpList_append_two _ rfl (.tmp 82) (.tmp 90) 116 rfl 5 i0 (.int .u8 0) 1 1 Tryz.underlying116 hi hz0 hz1 hz2 rfl (by decide) _ (rl rs k) (marks mkB k (rl rs k)) rfl HA2.out.cur ⟨wr.heap.size, 0, none⟩ 1 1 (mkB k (rl rs k)) rfl rfl (fun j u hu => World.news_of_block (heap_alloc_new _ _) j u hu) (fun u hu => by cases hu with | head => rfl | tail _ h => cases h) (by omega) (by unfold maxLen; omega) (by omega) ?_; intro g cap w2 hown hgrow hat; have HA3 : Hid _ := Ap.grow mkB_len (by decide) (by decide) HA2.out hown hgrow hat; clear hown hgrow hat HA2 HA hb q; have hb := HB.out _ HA3.out.out.fr; obtain ⟨a', ea', q⟩ := bag_at HA3.out.out.three.bag k hlt; rw [ea] at ea'; cases ea'; rw [HE1.out] at q) | (at_builtin; refine wpList_append_two _ rfl (.tmp 102) (.tmp 104) 45 rfl 116 i1 (.slice none 0 0) 1 24 Tryz.underlying45 hy hy0 hy1 hy2 rfl (by decide) _ os.length os rfl (HA3.out.alloc _).out.three.one ⟨w2.heap.size, 0, none⟩ 1 1 [.slice (some ⟨g, 0, none⟩) (rl rs k + 1) cap] rfl rfl (fun j u hu => World.news_of_block (heap_alloc_new _ _) j u hu) (fun u hu => by cases hu with | head => rfl | tail _ h => cases h) (by omega) (by have := hOS.out; unfold maxLen; omega) (by have := hOS.out; omega) ?_; intro g2 cap2 w3 hown hgrow hat; have HA4 : Hid _ := Ap.addOne (by decide) (HA3.out.alloc _) rfl hOS.out hown hgrow hat; clear hown hgrow hat HA3 hb q))
                subst ea
                go_roundw
                case rel => exact ⟨_, _, _, ⟨rl rs k + 1, by go_num, by omega, by omega, _, fun h => by omega, fun _ => by rw [List.length_append, hOS.out]; rfl, HA4⟩, rfl, rfl, rfl⟩
                case measure => simp [intOf]
              · have hx : ((j : Int) == (rl rs k : Int)) = false := by simpa using (fun h => hjl (by omega))
                go_wp2_with (first | (at_builtin; refine wpList_append_two _ rfl (.tmp 82) (.tmp 90) 116 rfl 5 i0 (.int .u8 0) 1 1 Tryz.underlying116 hi hz0 hz1 hz2 rfl (by decide) _ j (marks mkB k j) rfl HA2.out.cur ⟨wr.heap.size, 0, none⟩ 1 1 (mkB k j) rfl rfl (fun j u hu => World.news_of_block (heap_alloc_new _ _) j u hu) (fun u hu => by cases hu with | head => rfl | tail _ h => cases h) (by omega) (by unfold maxLen; omega) (by omega) ?_; intro g cap w2 hown hgrow hat; have HA3 : Hid _ := Ap.grow mkB_len (by decide) (by decide) HA2.out hown hgrow hat; clear hown hgrow hat HA2 HA hb q; have hb := HB.out _ HA3.out.out.fr; obtain ⟨a', ea', q⟩ := bag_at HA3.out.out.three.bag k hlt; rw [ea] at ea'; cases ea'; rw [HE1.out] at q))
                subst ea
                go_roundw
                case rel => exact ⟨j + 1, os, by go_num, by omega, by omega, fun h => by omega, fun _ => ho1.out (by omega), HA3⟩
                case measure => simp [intOf]; omega
            · obtain rfl : j = rl rs k + 70 := by omega
              obtain ⟨Al, cl, rfl, -⟩ := own_any HA.out.cur
              go_wp2_with (at_builtin; refine wpList_append_two _ rfl (.tmp 106) (.tmp 108) 45 rfl 116 i1 (.slice none 0 0) 1 24 Tryz.underlying45 hy hy0 hy1 hy2 rfl (by decide) _ ms.length ms rfl (HA.out.alloc _).out.three.more ⟨wr.heap.size, 0, none⟩ 1 1 [.slice Al (rl rs k + 70) cl] rfl rfl (fun j u hu => World.news_of_block (heap_alloc_new _ _) j u hu) (fun u hu => by cases hu with | head => rfl | tail _ h => cases h) (by omega) (by have := hms.out; unfold maxLen; omega) (by have := hms.out; omega) ?_; intro g2 cap2 w3 hown hgrow hat; have HO : Hid _ := Ap.addMore (by decide) (HA.out.alloc _) rfl hms.out hown hgrow hat; clear hown hgrow hat HA hb q)
              subst ea
              go_roundw
              case rel => exact ⟨k + 1, os, _, by go_num, by omega, ho1.out (by omega), by rw [List.length_append, hms.out]; rfl, HO⟩
              case measure => simp [intOf]; omega
        · obtain rfl : k = rs.length := by omega
          clear hlt hk
          have h5 := HO.out.three.one
          have h6 := HO.out.three.more
          rw [hos.out] at h5
          rw [hms.out] at h6
          obtain ⟨A5, c5, rfl, -⟩ := own_any h5
          obtain ⟨A6, c6, rfl, -⟩ := own_any h6
          have H5 : Hid _ := h5
          have H6 : Hid _ := h6
          clear h5 h6
          go_wp2
          go_loopw [10] (fun n w2 => ∃ (k d : Nat), n = .int .i64 k ∧ k ≤ rs.length ∧ w2 = wr.drewN d) (fun n _ => rs.length - (intOf n).toNat)
          case atStart => exact ⟨0, 0, rfl, Nat.zero_le _, rfl⟩
          case round =>
            obtain ⟨k, d, rfl, hk, rfl⟩ := hrel
            by_cases hlt : k < rs.length
            · have hLk := hL k
              obtain ⟨a6, ea6, q6⟩ := outer_at H6.out k hlt
              obtain ⟨gm, cm, em, HM⟩ := cells_of mkB_len (HO.out.mores k (by rw [hms.out]; exact hlt)) (by omega)
              obtain ⟨a5, ea5, q5⟩ := outer_at H5.out k hlt
              obtain ⟨go, co, eo, HO5⟩ := cells_of mkB_len (HO.out.ones k (by rw [hos.out]; exact hlt)) (by omega)
              obtain ⟨a, ea, q⟩ := bag_at HO.out.three.bag k hlt
              obtain ⟨A1, c1, e1, -⟩ := own_any (HO.out.row k hlt)
              rw [em] at q6
              rw [eo] at q5
              rw [e1] at q
              have HE1 : Hid _ := e1
              clear em eo e1
              go_wp2
              go_loopw [11] (fun i w2 => ∃ (j d : Nat), i = .int .i64 j ∧ j ≤ rl rs k + 70 ∧ w2 = wr.drewN d) (fun i _ => rl rs k + 70 - (intOf i).toNat)
              case atStart => exact ⟨0, d, rfl, Nat.zero_le _, rfl⟩
              case round =>
                obtain ⟨j, d, rfl, hj, rfl⟩ := hrel
                by_cases hlj : j < rl rs k + 70
                · have m6 := HM.out j hlj 0 (by omega) _ rfl
                  rw [Nat.mul_one, Nat.add_zero] at m6
                  rcases Nat.lt_trichotomy j (rl rs k) with h1 | h1 | h1
                  · obtain ⟨g1, c1', e1, H1⟩ := cells_of mkB_len (HO.out.row k hlt) (by omega)
                    rw [HE1.out] at e1
                    cases e1
                    have m1 := H1.out j h1 0 (by omega) _ rfl
                    rw [Nat.mul_one, Nat.add_zero] at m1
                    have hx : ((j : Int) == (rl rs k : Int)) = false := by simpa using (fun h => absurd h1 (by omega))
                    subst ea ea5 ea6
                    go_wp2
                    go_roundw
                    case rel => exact ⟨j + 1, _, by go_num, by omega, rfl⟩
                    case measure => simp [intOf]; omega
                  · have m5 := HO5.out j (by omega) 0 (by omega) _ rfl
                    rw [Nat.mul_one, Nat.add_zero] at m5
                    subst ea ea5 ea6 h1
                    go_wp2
                    go_roundw
                    case rel => exact ⟨rl rs k + 1, _, by go_num, by omega, rfl⟩
                    case measure => simp [intOf]
                  · have hx : ((j : Int) == (rl rs k : Int)) = false := by simpa using (fun h => absurd h1 (by omega))
                    subst ea ea5 ea6
                    go_wp2
                    go_roundw
                    case rel => exact ⟨j + 1, _, by go_num, by omega, rfl⟩
                    case measure => simp [intOf]; omega
                · obtain rfl : j = rl rs k + 70 := by omega
                  subst ea ea5 ea6
                  go_wp2
                  go_roundw
                  case rel => exact ⟨k + 1, _, by go_num, by omega, rfl⟩
                  case measure => simp [intOf]; omega
            · obtain rfl : k = rs.length := by omega
              go_wp2
              go_ret
              exact ⟨rfl, HO.out.fr.os, HO.out.fr.tape, HO.out.fr.output, HO.out.fr.size, HO.out.fr.block⟩



end Go.Proofs.YtdlcejpfjlpclaaGreatDoor
