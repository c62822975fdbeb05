/-
  Rows of numbers as lists lie in memory; an image of its own memory; no Go in sight. CopyImage of the statements, by what it returns; the lists have at most 2^20 items. Instructions and their words, as plain functions of numbers; no Go in sight. Instructions and their words, there and back, as plain functions of numbers; no Go in sight.
-/
import Derived.Test.YtfnicgihpelhhaaGreatProg
import Derived.Laws.Rows
import Derived.Laws.OwnMore
import Derived.Test.YtfnicgihpelhhaaGreatPd02
import Derived.Test.YtfnicgihpelhhaaGreatPd03
import Derived.WalkKit
import Derived.WalkSpells
import Derived.WalkLawsBesides
import Derived.RowKit3
import Derived.Below
import Derived.Deep.QuietTactic
import Derived.BigQuiet
import Derived.WalkSmall
import Derived.RowKit
namespace Go.Proofs.YtfnicgihpelhhaaGreat
open Go.RowKit

theorem row_but {w w1 : World} {base g n : Nat} {e : TypeId} {sz : Nat} {v : Value} {xs : List Value} (ho : w.ownsRow base e sz v n xs) (hg : g < base) (hb : But g w w1) : w1.ownsRow base e sz v n xs := by
  refine ho.kept (row := some g) ⟨hb.1, hb.2.1, hb.2.2.1, hb.2.2.2.1, fun k hk hn => hb.2.2.2.2 k hk (fun e => hn (by rw [e]))⟩ ?_
  cases hv : v.ownBlock with
  | none => exact Or.inl rfl
  | some k => exact Or.inr fun e => by cases e; have := ho.lt g hv; omega
theorem but_grown {w w1 w2 : World} {g : Nat} {row : Option Nat} (h : But g w w1) (hs : w1.grownBy w2 row) (hr : ∀ k, row = some k → w.heap.size ≤ k) : But g w w2 :=
  ⟨hs.os.trans h.1, hs.tape.trans h.2.1, hs.output.trans h.2.2.1, Nat.le_trans h.2.2.2.1 hs.size, fun k hk hn => (hs.block k (Nat.lt_of_lt_of_le hk h.2.2.2.1) (fun e => by have := hr k e.symm; omega)).trans (h.2.2.2.2 k hk hn)⟩
theorem any_form {w : World} {b n : Nat} {e : TypeId} {sz : Nat} {v : Value} {xs : List Value} (h : w.ownsRow b e sz v n xs) : ∃ A n c, v = .slice A n c := by
  rcases h.2 with ⟨rfl, _⟩ | ⟨g, cap, cur, rfl, _⟩
  · exact ⟨_, _, _, rfl⟩
  · exact ⟨_, _, _, rfl⟩

/-- A new block reads as it was made. -/
theorem new_cells (w : World) (l : List Value) (T : TypeId) (h : l.length ≤ 1048576) : ∀ j u, l[j]? = some u → (w.alloc (.cells l.toArray T)).cell? ((⟨w.heap.size, 0, none⟩ : Addr).add j) = some u := by
  have hr : (w.alloc (.cells l.toArray T)).ownsRow w.heap.size T 1 (.slice (some ⟨w.heap.size, 0, none⟩) l.length l.length) l.length l := by
    refine ⟨by omega, Or.inr ⟨w.heap.size, l.length, l.toArray, rfl, Nat.le_refl _, heap_alloc_new _ _, Nat.le_refl _, by unfold maxLen; omega, by simp, ?_⟩⟩
    simp only [Nat.mul_one]
    exact List.take_length
  exact hr.cells rfl
/-- Items as cells. -/
def iVals (K : IntKind) (zs : List Int) : List Value := zs.map (Value.int K)
theorem iVals_snoc (K : IntKind) (zs : List Int) (x : Int) : iVals K (zs ++ [x]) = iVals K zs ++ [.int K x] := by simp [iVals]
theorem add0 (j i : Nat) : (⟨j, 0, none⟩ : Addr).add i = ⟨j, i, none⟩ := by
  unfold Addr.add
  split <;> simp_all
theorem but_setB {w w1 : World} {g : Nat} (h : But g w w1) {B : Nat} (hB : w.heap.size ≤ B) (i : Nat) (v : Value) : But g w (w1.setCell ⟨B, i, none⟩ v) :=
  ⟨h.1, h.2.1, h.2.2.1, by simpa [go_sem] using h.2.2.2.1, fun k hk hn => (Below.heap_setCell _ _ _ _ (by show k ≠ B; omega)).trans (h.2.2.2.2 k hk hn)⟩
theorem but_box {w w1 : World} {g : Nat} (h : But g w w1) {B : Nat} {cs : Array Value} {t : TypeId} (hb : w.heap[B]? = some (.cells cs t (0, 0))) (hB : B ≠ g) : w1.heap[B]? = some (.cells cs t (0, 0)) := by
  rw [h.2.2.2.2 B (Array.getElem?_eq_some_iff.1 hb).1 hB]; exact hb
theorem box_set {w : World} {B : Nat} {cs : Array Value} {t : TypeId} (h : w.heap[B]? = some (.cells cs t (0, 0))) (i : Nat) (v : Value) : (w.setCell ⟨B, i, none⟩ v).heap[B]? = some (.cells (cs.setIfInBounds i v) t (0, 0)) := by
  simp [World.setCell, Array.getElem?_modify, h]
theorem box_fro {w : World} {B : Nat} {cs : Array Value} {t : TypeId} (h : w.heap[B]? = some (.cells cs t (0, 0))) (i : Nat) : w.frozen? ⟨B, i, none⟩ = false := by
  simp [World.frozen?, h]
theorem all_stick {α : Type} {b : List Int} {m : Int} {f : Tk → α × Tk} {t : Tk} (h : ¬ t.bad = 0) : (tAll b m f t).2 = t := by
  unfold tAll
  rw [count_stick h]
  rfl
theorem count_stick2 {b : List Int} {m : Int} {t : Tk} (h : ¬ t.bad = 0) : (tCount b m t).2 = t := by rw [count_stick h]
theorem end_stick {b : List Int} {t : Tk} (h : ¬ t.bad = 0) : tEnd b t = t := by
  unfold tEnd
  rw [four_stick h, if_neg h]
theorem own_form {w : World} {b n : Nat} {e : TypeId} {sz : Nat} {v : Value} {xs : List Value} (h : w.ownsRow b e sz v n xs) : ∃ A c, v = .slice A n c := by
  rcases h.2 with ⟨rfl, rfl⟩ | ⟨g, cap, cur, rfl, _⟩
  · exact ⟨_, _, rfl⟩
  · exact ⟨_, _, rfl⟩
theorem end_a {b : List Int} {p : Nat} (h : ¬ p + 4 ≤ b.length) : tEnd b ⟨p, 0, 0⟩ = ⟨p, 27, b.length⟩ := by
  unfold tEnd
  rw [four_no h, if_neg (by simp)]
theorem end_b {b : List Int} {p : Nat} (h : p + 4 < b.length) : tEnd b ⟨p, 0, 0⟩ = ⟨p + 4, 27, p + 4⟩ := by
  unfold tEnd
  rw [four_yes (by omega), if_pos rfl, if_pos h]
theorem end_c {b : List Int} {p : Nat} (h : p + 4 = b.length) (hs : ¬ v4 (b.drop p) = sumB (b.take p)) : tEnd b ⟨p, 0, 0⟩ = ⟨p + 4, 28, p⟩ := by
  unfold tEnd
  rw [four_yes (by omega), if_pos rfl, if_neg (by simp; omega), if_neg hs]
theorem end_d {b : List Int} {p : Nat} (h : p + 4 = b.length) (hs : v4 (b.drop p) = sumB (b.take p)) : tEnd b ⟨p, 0, 0⟩ = ⟨p + 4, 0, 0⟩ := by
  unfold tEnd
  rw [four_yes (by omega), if_pos rfl, if_neg (by simp; omega), if_pos hs]
theorem end_good {b : List Int} {p : Nat} (h : (tEnd b ⟨p, 0, 0⟩).bad = 0) : tEnd b ⟨p, 0, 0⟩ = ⟨(tEnd b ⟨p, 0, 0⟩).pos, 0, 0⟩ := by
  by_cases h1 : p + 4 ≤ b.length
  · by_cases h2 : p + 4 < b.length
    · rw [end_b h2] at h; cases h
    · by_cases h3 : v4 (b.drop p) = sumB (b.take p)
      · rw [end_d (by omega) h3]
      · rw [end_c (by omega) h3] at h; cases h
  · rw [end_a h1] at h; cases h
theorem all_len {α : Type} {b : List Int} {m : Nat} {f : Tk → α × Tk} {p : Nat} (hb : AreB b) (h : (tAll b (m : Int) f ⟨p, 0, 0⟩).2.bad = 0) : (tAll b (m : Int) f ⟨p, 0, 0⟩).1.length ≤ m := by
  by_cases hg : (tCount b m ⟨p, 0, 0⟩).2.bad = 0
  · have := (count_range hb hg).2
    have hl : ∀ (n : Nat) (t : Tk), (tList f n t).1.length ≤ n := by
      intro n
      induction n with
      | zero => intro t; simp [tList]
      | succ n ih =>
        intro t
        rw [tList]
        split
        · have := ih (f t).2
          simp
          omega
        · simp
    have h2 := hl (tCount b m ⟨p, 0, 0⟩).1.toNat (tCount b m ⟨p, 0, 0⟩).2
    unfold tAll
    omega
  · rw [all_bad hg] at h
    exact absurd h hg
theorem ownsRow_mono {w : World} {b b' : Nat} {e : TypeId} {k n : Nat} {v : Value} {xs : List Value} (h : w.ownsRow b e k v n xs) (hb : b' ≤ b) : w.ownsRow b' e k v n xs := by
  refine ⟨h.1, ?_⟩
  rcases h.2 with h0 | ⟨g, cap, cur, hv, hg, r⟩
  · exact Or.inl h0
  · exact Or.inr ⟨g, cap, cur, hv, Nat.le_trans hb hg, r⟩
theorem iVals_get {K : IntKind} {l : List Int} {i : Nat} (h : i < l.length) : (iVals K l)[i]? = some (.int K (nth l i)) := by simp [iVals, nth, List.getD, h]
theorem add_add (j k i : Nat) : ((⟨j, 0, none⟩ : Addr).add k).add i = (⟨j, 0, none⟩ : Addr).add (k + i) := by
  rw [add0, add0]
  unfold Addr.add
  split
  · next h => subst h; rfl
  · rfl
theorem row_ints {w : World} {base c n : Nat} {e : TypeId} {A : Option Addr} {K : IntKind} {l : List Int} (h : w.ownsRow base e 1 (.slice A n c) l.length (iVals K l)) : IntsAt w A K l := fun i hi => by
  rcases h.2 with ⟨_, h0⟩ | ⟨j, cap, cur, hv, hb, hg, hc, _⟩
  · omega
  · cases hv
    exact ⟨_, rfl, h.cells rfl i _ (iVals_get hi)⟩
theorem row_keep {w w1 : World} {base n : Nat} {e : TypeId} {sz : Nat} {v : Value} {xs : List Value} (h : w.ownsRow base e sz v n xs) (hb : Below w.heap.size w w1) : w1.ownsRow base e sz v n xs := by
  refine h.kept (row := none) ⟨hb.os, hb.tape, hb.output, hb.size, fun k hk _ => hb.block k hk⟩ ?_
  cases hv : v.ownBlock <;> simp
theorem lb_box {w w1 : World} {B : Nat} {cs : Array Value} {t : TypeId} (h : w.heap[B]? = some (.cells cs t (0, 0))) (hb : Below w.heap.size w w1) : w1.heap[B]? = some (.cells cs t (0, 0)) := by
  rw [hb.block B (Array.getElem?_eq_some_iff.1 h).1]; exact h

/-- The two lists of an image, each a row of its own behind base. -/
structure RowsI (w : World) (base : Nat) (A1 A2 : Option Addr) (c1 c2 : Nat) (text mem : List Int) : Prop where
  r1 : w.ownsRow base 45 1 (.slice A1 text.length c1) text.length (iVals .u32 text)
  r2 : w.ownsRow base 2 1 (.slice A2 mem.length c2) mem.length (iVals .i64 mem)
theorem RowsI.keep {w w1 : World} {base : Nat} {A1 A2 : Option Addr} {c1 c2 : Nat} {text mem : List Int} (h : RowsI w base A1 A2 c1 c2 text mem) (hb : Below w.heap.size w w1) : RowsI w1 base A1 A2 c1 c2 text mem := ⟨row_keep h.r1 hb, row_keep h.r2 hb⟩
theorem RowsI.mono {w : World} {base base' : Nat} {A1 A2 : Option Addr} {c1 c2 : Nat} {text mem : List Int} (h : RowsI w base A1 A2 c1 c2 text mem) (hb : base' ≤ base) : RowsI w base' A1 A2 c1 c2 text mem := ⟨ownsRow_mono h.r1 hb, ownsRow_mono h.r2 hb⟩
theorem RowsI.but {w w1 : World} {g base : Nat} {A1 A2 : Option Addr} {c1 c2 : Nat} {text mem : List Int} (h : RowsI w base A1 A2 c1 c2 text mem) (hb : But g w w1) (hg : g < base) : RowsI w1 base A1 A2 c1 c2 text mem := ⟨row_but h.r1 hg hb, row_but h.r2 hg hb⟩
theorem row_setB {w1 : World} {B base n : Nat} {e : TypeId} {sz : Nat} {v : Value} {xs : List Value} (h : w1.ownsRow base e sz v n xs) (hB : B < base) (i : Nat) (x : Value) : (w1.setCell ⟨B, i, none⟩ x).ownsRow base e sz v n xs := ownsRow_setCell_below h hB x
theorem RowsI.set {w : World} {B base : Nat} {A1 A2 : Option Addr} {c1 c2 : Nat} {text mem : List Int} (h : RowsI w base A1 A2 c1 c2 text mem) (hB : B < base) (i : Nat) (x : Value) : RowsI (w.setCell ⟨B, i, none⟩ x) base A1 A2 c1 c2 text mem := ⟨row_setB h.r1 hB i x, row_setB h.r2 hB i x⟩
theorem no_ints (w : World) (K : IntKind) : IntsAt w none K [] := fun i hi => by simp at hi






end Go.Proofs.YtfnicgihpelhhaaGreat

namespace Go.Proofs.YtfnicgihpelhhaaGreat
open Go.RowKit

theorem old_at {w : World} {o o' : Obj} {n : Nat} (h : w.heap[n]? = some o) : (w.alloc o').heap[n]? = some o := by
  rw [Below.heap_alloc w o' n (Array.getElem?_eq_some_iff.1 h).1]; exact h
theorem new_at {w : World} {o : Obj} {n : Nat} (h : n = w.heap.size) : (w.alloc o).heap[n]? = some o := by subst h; exact heap_alloc_new w o
theorem box_other {w : World} {B P : Nat} {o : Obj} (h : w.heap[B]? = some o) (hB : B ≠ P) (i : Nat) (v : Value) : (w.setCell ⟨P, i, none⟩ v).heap[B]? = some o := (Below.heap_setCell _ _ _ _ hB).trans h
theorem zbox3_cell {w : World} {B : Nat} {x y z : Value} {t : TypeId} (h : w.heap[B]? = some (.cells #[x, y, z] t (0, 0))) : w.cell? ⟨B, 0, none⟩ = some x ∧ w.cell? ⟨B, 1, none⟩ = some y ∧ w.cell? ⟨B, 2, none⟩ = some z := by
  refine ⟨?_, ?_, ?_⟩ <;> simp [World.cell?, h]
theorem zNews_vals (K : IntKind) (zs : List Int) : iNews K zs = iVals K zs := by
  apply List.ext_getElem?
  intro i
  unfold iNews iVals
  by_cases h : i < zs.length
  · simp [h, wInt, nth, List.getD]
  · simp [h]


/-- What CopyImage answers. -/
def CopyI (text mem : List Int) (ent : Int) (w : World) (e : Ending) (w' : World) : Prop := ∃ (A1 A2 : Option Addr) (k1 k2 : Nat), e = .returned (.agg #[.slice A1 text.length k1, .int .i64 ent, .slice A2 mem.length k2]) ∧ RowsI w' w.heap.size A1 A2 k1 k2 text mem ∧ Below w.heap.size w w'
set_option maxRecDepth 100000 in
theorem copyimg_any (A1 A2 : Option Addr) (c1 c2 : Nat) (text mem : List Int) (ent : Int) (w : World) (hT : IntsAt w A1 .u32 text) (hM : IntsAt w A2 .i64 mem) (h01 : A1 = none → c1 = 0) (h02 : A2 = none → c2 = 0) (hl : text.length ≤ 1048576) (hm : mem.length ≤ 1048576) :
    Calls Tryz.prog 9 #[.agg #[.slice A1 text.length c1, .int .i64 ent, .slice A2 mem.length c2]] w (CopyI text mem ent w) := by
  have hB0 : Below w.heap.size w ((w.alloc (.cells #[.slice A1 text.length c1, .int .i64 ent, .slice A2 mem.length c2] 25)).alloc (.cells #[.slice none 0 0, .int .i64 0, .slice none 0 0] 25)) := lb_alloc (lb_alloc (Below.refl _ _) _) _
  have HX0 : Hid (((w.alloc (.cells #[.slice A1 text.length c1, .int .i64 ent, .slice A2 mem.length c2] 25)).alloc (.cells #[.slice none 0 0, .int .i64 0, .slice none 0 0] 25)).heap[w.heap.size]? = some (.cells #[.slice A1 text.length c1, .int .i64 ent, .slice A2 mem.length c2] 25 (0, 0))) := old_at (new_at rfl)
  have HY0 : Hid (((w.alloc (.cells #[.slice A1 text.length c1, .int .i64 ent, .slice A2 mem.length c2] 25)).alloc (.cells #[.slice none 0 0, .int .i64 0, .slice none 0 0] 25)).heap[w.heap.size + 1]? = some (.cells #[.slice none 0 0, .int .i64 0, .slice none 0 0] 25 (0, 0))) := new_at (by simp)
  have HB0 : Hid _ := hB0
  clear hB0
  go_enter Tryz.func9, Tryz.ntmps9
  go_wp2_with fail
  refine (copywords_any A1 c1 text _ (hT.keep HB0.out) h01 hl).mono ?_
  rintro e w1 ⟨O1, k1, rfl, hown, hg, hn⟩
  have hb : Below _ _ w1 := ⟨hg.os, hg.tape, hg.output, hg.size, fun k hk => hg.block k hk (by simp)⟩
  have HX1 : Hid _ := lb_box HX0.out hb
  have HY1 : Hid _ := lb_box HY0.out hb
  have HB1 : Hid (Below w.heap.size w w1) := lb_trans HB0.out hb
  rw [zNews_vals] at hown
  have HO1 : Hid (w1.ownsRow (w.heap.size + 2) 45 1 (.slice O1 text.length k1) text.length (iVals .u32 text)) := ownsRow_mono hown (by simp)
  have hs1 : w.heap.size + 2 ≤ w1.heap.size := by have := hb.size; simp at this; exact this
  have HS1 : Hid _ := hs1
  obtain ⟨x0, x1, x2⟩ := zbox3_cell HX1.out
  have f0 := box_fro HX1.out 0
  have HX2 : Hid _ := box_set HX1.out 0 (.slice O1 text.length k1)
  have HY2 : Hid _ := box_other HY1.out (show w.heap.size + 1 ≠ w.heap.size by omega) 0 (.slice O1 text.length k1)
  have HB2 : Hid (Below w.heap.size w (w1.setCell ⟨w.heap.size, 0, none⟩ (.slice O1 text.length k1))) := HB1.out.setCell (Nat.le_refl _) _
  have HO2 : Hid _ := row_setB HO1.out (show w.heap.size < w.heap.size + 2 by omega) 0 (.slice O1 text.length k1)
  clear hown hg hn hb hs1 HX0 HY0
  go_wp2_with fail
  refine (copylongs_any A2 c2 mem _ (hM.keep HB2.out) h02 hm).mono ?_
  rintro e w3 ⟨O2, k2, rfl, hown, hg, hn⟩
  have hb : Below _ _ w3 := ⟨hg.os, hg.tape, hg.output, hg.size, fun k hk => hg.block k hk (by simp)⟩
  have HX3 : Hid (w3.heap[w.heap.size]? = some (.cells #[.slice O1 text.length k1, .int .i64 ent, .slice A2 mem.length c2] 25 (0, 0))) := lb_box HX2.out hb
  have HY3 : Hid _ := lb_box HY2.out hb
  have HB3 : Hid (Below w.heap.size w w3) := lb_trans HB2.out hb
  rw [zNews_vals] at hown
  have HQ3 : Hid (RowsI w3 (w.heap.size + 2) O1 O2 k1 k2 text mem) := ⟨row_keep HO2.out hb, ownsRow_mono hown (by have := HS1.out; simpa using this)⟩
  clear hown hg hn hb x0 x1 x2 f0 HX1 HY1 HB1 HO1
  obtain ⟨x0, x1, x2⟩ := zbox3_cell HX3.out
  obtain ⟨y0, y1, y2⟩ := zbox3_cell HY3.out
  have f0 := box_fro HX3.out 0
  have f2 := box_fro HX3.out 2
  have g0 := box_fro HY3.out 0
  have g1 := box_fro HY3.out 1
  have g2 := box_fro HY3.out 2
  go_wp2
  refine bodyPost_ret (v := .agg #[.slice O1 text.length k1, .int .i64 ent, .slice O2 mem.length k2]) (by simp [results, Tryz.results9, go_sem, y0, y1, y2]) rfl ⟨O1, O2, k1, k2, rfl, ?_, ?_⟩
  · have h1 : w.heap.size < w.heap.size + 2 := by omega
    have h2 : w.heap.size + 1 < w.heap.size + 2 := by omega
    exact ((((HQ3.out.set h1 2 _).set h2 0 _).set h2 1 _).set h2 2 _).mono (by omega)
  · exact (((HB3.out.setCell (Nat.le_refl _) _).setCell (Nat.le_succ _) _).setCell (Nat.le_succ _) _).setCell (Nat.le_succ _) _






end Go.Proofs.YtfnicgihpelhhaaGreat

namespace Go.Proofs.YtfnicgihpelhhaaGreat
open Go.RowKit

/-- Which fields an op has: D, A, B, N; whether its N is a place. -/
def hD (op : Int) : Bool := decide (op = 1 ∨ op = 2 ∨ (3 ≤ op ∧ op ≤ 11) ∨ op = 13 ∨ op = 20)
def hA (op : Int) : Bool := decide ((2 ≤ op ∧ op ≤ 12) ∨ op = 14 ∨ op = 16 ∨ op = 18 ∨ op = 19)
def hB (op : Int) : Bool := decide ((3 ≤ op ∧ op ≤ 10) ∨ op = 12)
def hN (op : Int) : Bool := decide (op = 1 ∨ op = 11 ∨ op = 12 ∨ (14 ≤ op ∧ op ≤ 17) ∨ op = 20)
def hP (op : Int) : Bool := decide ((15 ≤ op ∧ op ≤ 17) ∨ op = 20)
/-- May a register's field be r? -/
def regOK (h : Bool) (r : Int) : Bool := if h then decide (0 ≤ r ∧ r < 16) else decide (r = 0)
/-- May N be x? -/
def numOK (n p : Bool) (x : Int) : Bool := if n then (if p then decide (0 ≤ x ∧ x < 16384) else decide (-16384 ≤ x ∧ x ≤ 16383)) else decide (x = 0)
def insOK (op d a b n : Int) : Bool := regOK (hD op) d && regOK (hA op) a && regOK (hB op) b && numOK (hN op) (hP op) n
/-- The word. -/
def encW (op d a b n : Int) : Int := op * 134217728 + d * 8388608 + a * 524288 + b * 32768 + n % 32768
/-- Encode's word and error. -/
def encV (op d a b n : Int) : Int := if op < 0 ∨ 21 < op then 0 else if insOK op d a b n then encW op d a b n else 0
def encE (op d a b n : Int) : Int := if op < 0 ∨ 21 < op then 10 else if insOK op d a b n then 0 else 11
/-- The fields of a word. -/
def wOp (w : Int) : Int := w / 134217728
def wD (w : Int) : Int := w / 8388608 % 16
def wA (w : Int) : Int := w / 524288 % 16
def wB (w : Int) : Int := w / 32768 % 16
def wN (w : Int) : Int := if hN (wOp w) && !hP (wOp w) && decide (16384 ≤ w % 32768) then w % 32768 - 32768 else w % 32768
/-- Is a word an instruction? -/
def isIns (w : Int) : Bool := decide (wOp w ≤ 21) && insOK (wOp w) (wD w) (wA w) (wB w) (wN w)





end Go.Proofs.YtfnicgihpelhhaaGreat

namespace Go.Proofs.YtfnicgihpelhhaaGreat
open Go.RowKit

/-- What Decode tells. -/
def dOp (w : Int) : Int := if isIns w then wOp w else -1
def dD (w : Int) : Int := if isIns w then wD w else 0
def dA (w : Int) : Int := if isIns w then wA w else 0
def dB (w : Int) : Int := if isIns w then wB w else 0
def dN (w : Int) : Int := if isIns w then wN w else w
/-- Is N's number below nought? -/
def nNeg (w : Int) : Bool := hN (w / 134217728) && !hP (w / 134217728) && decide (16384 ≤ w % 32768)

theorem wN_neg {w : Int} (h : nNeg w = true) : wN w = w % 32768 - 32768 := by
  unfold nNeg at h; unfold wN wOp; rw [h]; rfl
theorem wN_pos {w : Int} (h : nNeg w = false) : wN w = w % 32768 := by
  unfold nNeg at h; unfold wN wOp; rw [h]; rfl
theorem encW_fields (w : Int) : encW (wOp w) (wD w) (wA w) (wB w) (wN w) = w := by
  unfold encW
  have e : wN w % 32768 = w % 32768 := by
    cases h : nNeg w
    · rw [wN_pos h]; omega
    · rw [wN_neg h]; omega
  rw [e]
  unfold wOp wD wA wB
  omega
theorem enc_yes {w : Int} (h0 : 0 ≤ w) (h1 : w < 4294967296) (h : isIns w = true) : encV (wOp w) (wD w) (wA w) (wB w) (wN w) = w ∧ encE (wOp w) (wD w) (wA w) (wB w) (wN w) = 0 := by
  have hw := encW_fields w
  unfold isIns at h
  rw [Bool.and_eq_true, decide_eq_true_eq] at h
  have hop : 0 ≤ wOp w := by unfold wOp; omega
  have hneg : ¬ (wOp w < 0 ∨ 21 < wOp w) := by omega
  unfold encV encE
  rw [if_neg hneg, if_neg hneg, if_pos h.2, if_pos h.2, hw]
  exact ⟨rfl, rfl⟩
theorem enc_no {w : Int} (h0 : 0 ≤ w) (h : isIns w = false) : encV (wOp w) (wD w) (wA w) (wB w) (wN w) = 0 ∧ (encE (wOp w) (wD w) (wA w) (wB w) (wN w) = 10 ∨ encE (wOp w) (wD w) (wA w) (wB w) (wN w) = 11) := by
  unfold isIns at h
  have hop : 0 ≤ wOp w := by unfold wOp; omega
  unfold encV encE
  by_cases hb : wOp w < 0 ∨ 21 < wOp w
  · rw [if_pos hb, if_pos hb]; exact ⟨rfl, Or.inl rfl⟩
  · rw [if_neg hb, if_neg hb]
    have hle : wOp w ≤ 21 := by omega
    rw [decide_eq_true hle, Bool.true_and] at h
    rw [h]; exact ⟨rfl, Or.inr rfl⟩





end Go.Proofs.YtfnicgihpelhhaaGreat
