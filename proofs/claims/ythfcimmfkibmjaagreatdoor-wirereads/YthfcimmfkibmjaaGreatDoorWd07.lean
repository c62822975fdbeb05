/-
  The program takes texts, symbols and relocations of an input. The program takes lists of symbols and relocations of an input. The program writes lists of numbers into an output; what is written is at most 2^20 bytes. The program writes lists of symbols and relocations into an output; what is written is at most 2^20 bytes.
-/
import Derived.Test.YthfcimmfkibmjaaGreatDoorProg
import Derived.WalkKit
import Derived.WalkSpells
import Derived.WalkLawsBesides
import Derived.RowKit3
import Derived.Below
import Derived.Deep.QuietTactic
import Derived.BigQuiet
import Derived.WalkSmall
import Derived.Laws.Rows
import Derived.Test.YthfcimmfkibmjaaGreatDoorWd06
import Derived.Laws.BytesArg
namespace Go.Proofs.YthfcimmfkibmjaaGreatDoor
open Go.RowKit


theorem add0 (j i : Nat) : (⟨j, 0, none⟩ : Addr).add i = ⟨j, i, none⟩ := by
  unfold Addr.add
  split <;> simp_all
theorem conv_own {w : World} {base n : Nat} {v : Value} {l : List Int} (h : w.ownsRow base 5 1 v n (iVals .u8 l)) : (convert 31 9 v).run Tryz.prog w = .ok (.string (strOf l)) w := by
  have hn : l.length = n := by have := h.1; simp [iVals] at this; omega
  rcases h.2 with ⟨rfl, h0⟩ | ⟨j, cap, cur, rfl, hb, hg, hc, _⟩
  · have : l = [] := List.eq_nil_of_length_eq_zero (by omega)
    subst this
    exact run_convert_bytes_nil (w := w) 31 5 Tryz.underlying31 Tryz.underlying5 0 0 9 Tryz.underlying9
  · refine run_convert_bytes_arg (w := w) 31 5 Tryz.underlying31 Tryz.underlying5 j 0 n cap l hn (fun i hi => ?_) 9 Tryz.underlying9
    have := h.cells rfl i (.int .u8 (l.getD i 0)) (by simp [iVals, List.getD, show i < l.length by omega])
    rw [add0] at this
    rw [Nat.zero_add]
    exact this
theorem conv_nil (w : World) : (convert 31 9 (.slice none 0 0)).run Tryz.prog w = .ok (.string ⟨#[]⟩) w := run_convert_bytes_nil (w := w) 31 5 Tryz.underlying31 Tryz.underlying5 0 0 9 Tryz.underlying9
def IsE (u : Value) : Prop := u = .string ⟨#[]⟩
theorem rtext_any (w0 : World) (g : Nat) (A : Option Addr) (c : Nat) (b : List Int) (p : Nat) (w : World) (h : InBy w0 g A c b p w) :
    Calls Tryz.prog 98 #[.pointer (some ⟨g, 0, none⟩)] w (Takes w0 g A c b (tName b ⟨p, 0, 0⟩) (.string) IsE w) := by
  have C := takeBytes 24 (by omega) (by omega) w0 g A c b p w h
  obtain ⟨n1, n2, n3⟩ := name_all b h.areB p
  by_cases hg : (tAll b 24 (tByte b) ⟨p, 0, 0⟩).2.bad = 0
  · obtain ⟨n3, n4⟩ := n3 hg
    have HN : Hid _ := n3
    have HN4 : Hid _ := n4
    have HN1 : Hid _ := n1
    have HG : Hid _ := hg
    clear n1 n2 n3 n4
    go_enter Tryz.func98, Tryz.ntmps98
    go_wp2_with fail
    refine C.mono ?_
    intro r w1 hr
    obtain ⟨v, rfl, ho, hi, hb⟩ := hr.ok hg
    have hcv := conv_own ho
    clear hr hg C
    obtain ⟨As, ns, cs, rfl⟩ := any_form ho
    generalize strOf (tAll b 24 (tByte b) ⟨p, 0, 0⟩).1 = S at *
    go_wp2
    go_ret2
    exact takes_yes hb (HN1.out.trans HG.out) (by rw [HN.out]; rfl) (by rw [HN4.out]; exact hi)
  · have HN1 : Hid _ := n1
    have HN2 : Hid _ := n2
    have HG : Hid _ := hg
    clear n1 n2 n3
    have hcv := conv_nil
    go_enter Tryz.func98, Tryz.ntmps98
    go_wp2_with fail
    refine C.mono ?_
    intro r w1 hr
    obtain ⟨p2, rfl, hi, hb⟩ := hr.err hg
    clear hr hg C
    go_wp2
    go_ret2
    exact takes_no hb (fun e => HG.out (HN1.out.symm.trans e)) rfl HN1.out HN2.out hi
theorem sym_a {b : List Int} {t : Tk} (h : ¬ (tName b t).2.bad = 0) : (tSym b t).2 = (tName b t).2 := by
  unfold tSym
  rw [count_stick h]
  simp only
  rw [count_stick h]
theorem sym_b {b : List Int} {t : Tk} (h : ¬ (tCount b 3 (tName b t).2).2.bad = 0) : (tSym b t).2 = (tCount b 3 (tName b t).2).2 := by
  unfold tSym
  simp only
  rw [count_stick h]
theorem rel_a {b : List Int} {t : Tk} (h : ¬ (tCount b great t).2.bad = 0) : (tRel b t).2 = (tCount b great t).2 := by
  unfold tRel
  simp only
  rw [count_stick h]
theorem plain_sym (b : List Int) (hb : AreB b) : Plain (tSym b) := fun p h => by
  by_cases h1 : (tName b ⟨p, 0, 0⟩).2.bad = 0
  · by_cases h2 : (tCount b 3 (tName b ⟨p, 0, 0⟩).2).2.bad = 0
    · unfold tSym at h ⊢
      simp only at h ⊢
      rw [plain_tk (plain_name b hb) h1] at h2 h ⊢
      rw [plain_tk (plain_count b 3) h2] at h ⊢
      exact plain_count b great _ h
    · rw [sym_b h2] at h; exact absurd h h2
  · rw [sym_a h1] at h; exact absurd h h1
theorem plain_rel (b : List Int) : Plain (tRel b) := fun p h => by
  by_cases h1 : (tCount b great ⟨p, 0, 0⟩).2.bad = 0
  · unfold tRel at h ⊢
    simp only at h ⊢
    rw [plain_tk (plain_count b great) h1] at h ⊢
    exact plain_count b great _ h
  · rw [rel_a h1] at h; exact absurd h h1
theorem InBy.setB {w0 w : World} {g c p : Nat} {A : Option Addr} {b : List Int} (h : InBy w0 g A c b p w) {B : Nat} (hB : B ≠ g) (hB0 : w0.heap.size ≤ B) (i : Nat) (v : Value) : InBy w0 g A c b p (w.setCell ⟨B, i, none⟩ v) :=
  ⟨by rw [Below.heap_setCell _ _ _ _ (by simpa using Ne.symm hB)]; exact h.box, h.ints, h.below.setCell hB0 _, h.le, h.areB, h.len, h.cap, h.pos⟩
theorem but_setB {w w1 : World} {g : Nat} (h : But g w w1) {B : Nat} (hB : w.heap.size ≤ B) (i : Nat) (v : Value) : But g w (w1.setCell ⟨B, i, none⟩ v) :=
  ⟨h.1, h.2.1, h.2.2.1, by simpa [go_sem] using h.2.2.2.1, fun k hk hn => (Below.heap_setCell _ _ _ _ (by show k ≠ B; omega)).trans (h.2.2.2.2 k hk hn)⟩
theorem but_box {w w1 : World} {g : Nat} (h : But g w w1) {B : Nat} {cs : Array Value} {t : TypeId} (hb : w.heap[B]? = some (.cells cs t (0, 0))) (hB : B ≠ g) : w1.heap[B]? = some (.cells cs t (0, 0)) := by
  rw [h.2.2.2.2 B (Array.getElem?_eq_some_iff.1 hb).1 hB]; exact hb
theorem box_set {w : World} {B : Nat} {cs : Array Value} {t : TypeId} (h : w.heap[B]? = some (.cells cs t (0, 0))) (i : Nat) (v : Value) : (w.setCell ⟨B, i, none⟩ v).heap[B]? = some (.cells (cs.setIfInBounds i v) t (0, 0)) := by
  simp [World.setCell, Array.getElem?_modify, h]
theorem box_fro {w : World} {B : Nat} {cs : Array Value} {t : TypeId} (h : w.heap[B]? = some (.cells cs t (0, 0))) (i : Nat) : w.frozen? ⟨B, i, none⟩ = false := by
  simp [World.frozen?, h]
def IsRel (u : Value) : Prop := ∃ x y : Int, u = .agg #[.int .i64 x, .int .i64 y]
def relV (x : Rel) : Value := .agg #[.int .i64 x.1, .int .i64 x.2]
set_option maxRecDepth 100000 in
set_option maxHeartbeats 1000000 in
theorem rreloc_any (w0 : World) (g : Nat) (A : Option Addr) (c : Nat) (b : List Int) (p : Nat) (w : World) (h : InBy w0 g A c b p w) :
    Calls Tryz.prog 107 #[.pointer (some ⟨g, 0, none⟩)] w (Takes w0 g A c b (tRel b ⟨p, 0, 0⟩) relV IsRel w) := by
  have hgw := h.lt
  have hle := h.below.size
  have hin1 := h.keep (lb_alloc (Below.refl _ _) (.cells #[.int .i64 0, .int .i64 0] 119))
  have hbx1 : Hid ((w.alloc (.cells #[.int .i64 0, .int .i64 0] 119)).heap[w.heap.size]? = some (.cells #[.int .i64 0, .int .i64 0] 119 (0, 0))) := heap_alloc_new _ _
  have HB1 : Hid (But g w (w.alloc (.cells #[.int .i64 0, .int .i64 0] 119))) := But.of (lb_alloc (Below.refl _ _) _)
  have C : Calls Tryz.prog 101 #[.pointer (some ⟨g, 0, none⟩), .int .i64 2147483647] (w.alloc (.cells #[.int .i64 0, .int .i64 0] 119)) (Takes w0 g A c b (tCount b great ⟨p, 0, 0⟩) (.int .i64) (IsZ .i64) _) := upto_any 2147483647 (by omega) (by omega) w0 g A c b p _ hin1
  clear h hin1
  by_cases hg : (tCount b great ⟨p, 0, 0⟩).2.bad = 0
  · have HE : Hid (tRel b ⟨p, 0, 0⟩ = (((tCount b great ⟨p, 0, 0⟩).1, (tCount b great ⟨(tCount b great ⟨p, 0, 0⟩).2.pos, 0, 0⟩).1), (tCount b great ⟨(tCount b great ⟨p, 0, 0⟩).2.pos, 0, 0⟩).2)) := by
      show _ = _
      unfold tRel
      rw [← plain_tk (plain_count b great) hg]
    go_enter Tryz.func107, Tryz.ntmps107
    go_wp2_with fail
    refine C.mono ?_
    intro r w2 hr
    obtain ⟨rfl, hin2, hb2⟩ := hr.ok hg
    clear hr hg C
    have hbx2 := but_box hb2 hbx1.out (by omega)
    have HB2 : Hid (But g w w2) := HB1.out.trans hb2
    obtain ⟨d0, d1⟩ := box2_cell hbx2
    have f0 := box_fro hbx2 0
    have f1 := box_fro hbx2 1
    generalize (tCount b great ⟨p, 0, 0⟩).1 = x1 at *
    generalize (tCount b great ⟨p, 0, 0⟩).2.pos = q1 at *
    have HX2 : Hid _ := box_set hbx2 0 (.int .i64 x1)
    have HB3 : Hid _ := but_setB HB2.out (Nat.le_refl _) 0 (.int .i64 x1)
    have C : Calls Tryz.prog 101 #[.pointer (some ⟨g, 0, none⟩), .int .i64 2147483647] (w2.setCell ⟨w.heap.size, 0, none⟩ (.int .i64 x1)) (Takes w0 g A c b (tCount b great ⟨q1, 0, 0⟩) (.int .i64) (IsZ .i64) _) := upto_any 2147483647 (by omega) (by omega) w0 g A c b q1 _ (hin2.setB (by omega) hle 0 (.int .i64 x1))
    have hz2 : w.heap.size < w2.heap.size := by have := hb2.2.2.2.1; simp at this; omega
    clear hb2 hbx2
    by_cases hg : (tCount b great ⟨q1, 0, 0⟩).2.bad = 0
    · go_wp2_with fail
      refine C.mono ?_
      intro r w3 hr
      obtain ⟨rfl, hin3, hb3⟩ := hr.ok hg
      have HG : Hid _ := hg
      clear hr hg C
      have hbx3 := but_box hb3 HX2.out (by omega)
      have HB4 : Hid (But g w w3) := But.trans HB3.out hb3
      obtain ⟨e0, e1⟩ := box2_cell hbx3
      have f0 := box_fro hbx3 0
      have f1 := box_fro hbx3 1
      have hz3 : w.heap.size < w3.heap.size := (Array.getElem?_eq_some_iff.1 hbx3).1
      clear hbx3 hb3
      go_wp2
      exact bodyPost_ret (v := .tuple #[.agg #[.int .i64 x1, .int .i64 (tCount b great ⟨q1, 0, 0⟩).1], .nilIface]) (by simp [results, Tryz.results107, go_sem, e0, e1]) rfl (takes_yes (but_setB (but_setB (but_setB HB4.out (Nat.le_refl _) _ _) (Nat.le_refl _) _ _) (Nat.le_refl _) _ _) (by rw [HE.out]; exact HG.out) (by rw [HE.out]; rfl) (by rw [HE.out]; exact (((hin3.setB (by omega) hle _ _).setB (by omega) hle _ _).setB (by omega) hle _ _)))
    · go_wp2_with fail
      refine C.mono ?_
      intro r w3 hr
      obtain ⟨_, q3, rfl, rfl, hin3, hb3⟩ := hr.err hg
      have HG : Hid _ := hg
      clear hr hg C
      have hbx3 := but_box hb3 HX2.out (by omega)
      have HB4 : Hid (But g w w3) := But.trans HB3.out hb3
      obtain ⟨e0, e1⟩ := box2_cell hbx3
      have f0 := box_fro hbx3 0
      have f1 := box_fro hbx3 1
      have hz3 : w.heap.size < w3.heap.size := (Array.getElem?_eq_some_iff.1 hbx3).1
      clear hbx3 hb3
      generalize (tCount b great ⟨q1, 0, 0⟩).2 = T at *
      go_wp2
      exact bodyPost_ret (v := .tuple #[.agg #[.int .i64 x1, .int .i64 0], .iface 97 (.agg #[.int .i64 T.bad, .int .i64 T.place])]) (by simp [results, Tryz.results107, go_sem, e0, e1]) rfl (takes_no (but_setB (but_setB (but_setB HB4.out (Nat.le_refl _) _ _) (Nat.le_refl _) _ _) (Nat.le_refl _) _ _) (by rw [HE.out]; exact HG.out) ⟨_, _, rfl⟩ (by rw [HE.out]) (by rw [HE.out]) (((hin3.setB (by omega) hle _ _).setB (by omega) hle _ _).setB (by omega) hle _ _))
  · have HE : Hid _ := rel_a hg
    go_enter Tryz.func107, Tryz.ntmps107
    go_wp2_with fail
    refine C.mono ?_
    intro r w2 hr
    obtain ⟨_, q2, rfl, rfl, hin2, hb2⟩ := hr.err hg
    have HG : Hid _ := hg
    clear hr hg C
    have hbx2 := but_box hb2 hbx1.out (by omega)
    have HB2 : Hid (But g w w2) := HB1.out.trans hb2
    obtain ⟨d0, d1⟩ := box2_cell hbx2
    have f0 := box_fro hbx2 0
    have f1 := box_fro hbx2 1
    have hz2 : w.heap.size < w2.heap.size := (Array.getElem?_eq_some_iff.1 hbx2).1
    generalize (tCount b great ⟨p, 0, 0⟩).2 = T at *
    clear hbx2 hb2
    go_wp2
    exact bodyPost_ret (v := .tuple #[.agg #[.int .i64 0, .int .i64 0], .iface 97 (.agg #[.int .i64 T.bad, .int .i64 T.place])]) (by simp [results, Tryz.results107, go_sem, d0, d1]) rfl (takes_no (but_setB (but_setB (but_setB HB2.out (Nat.le_refl _) _ _) (Nat.le_refl _) _ _) (Nat.le_refl _) _ _) (by rw [HE.out]; exact HG.out) ⟨_, _, rfl⟩ (by rw [HE.out]) (by rw [HE.out]) (((hin2.setB (by omega) hle _ _).setB (by omega) hle _ _).setB (by omega) hle _ _))
def IsSym (u : Value) : Prop := ∃ (x : ByteArray) (y z : Int), u = .agg #[.string x, .int .i8 y, .int .i64 z]
def symV (x : Sym) : Value := .agg #[.string x.1, .int .i8 x.2.1, .int .i64 x.2.2]
set_option maxRecDepth 100000 in
set_option maxHeartbeats 1000000 in
theorem rsymbol_any (w0 : World) (g : Nat) (A : Option Addr) (c : Nat) (b : List Int) (p : Nat) (w : World) (h : InBy w0 g A c b p w) :
    Calls Tryz.prog 105 #[.pointer (some ⟨g, 0, none⟩)] w (Takes w0 g A c b (tSym b ⟨p, 0, 0⟩) symV IsSym w) := by
  have hgw := h.lt
  have hle := h.below.size
  have hab := h.areB
  have hin1 := h.keep (lb_alloc (Below.refl _ _) (.cells #[.string ⟨#[]⟩, .int .i8 0, .int .i64 0] 68))
  have hbx1 : Hid ((w.alloc (.cells #[.string ⟨#[]⟩, .int .i8 0, .int .i64 0] 68)).heap[w.heap.size]? = some (.cells #[.string ⟨#[]⟩, .int .i8 0, .int .i64 0] 68 (0, 0))) := heap_alloc_new _ _
  have HB1 : Hid (But g w (w.alloc (.cells #[.string ⟨#[]⟩, .int .i8 0, .int .i64 0] 68))) := But.of (lb_alloc (Below.refl _ _) _)
  have C := rtext_any w0 g A c b p _ hin1
  clear h hin1
  by_cases hg : (tName b ⟨p, 0, 0⟩).2.bad = 0
  · have e1 := plain_tk (plain_name b hab) hg
    have HA2 : Hid (¬ (tCount b 3 ⟨(tName b ⟨p, 0, 0⟩).2.pos, 0, 0⟩).2.bad = 0 → (tSym b ⟨p, 0, 0⟩).2 = (tCount b 3 ⟨(tName b ⟨p, 0, 0⟩).2.pos, 0, 0⟩).2) := fun h => by
      rw [← e1] at h ⊢
      exact sym_b h
    have HE : Hid ((tCount b 3 ⟨(tName b ⟨p, 0, 0⟩).2.pos, 0, 0⟩).2.bad = 0 → tSym b ⟨p, 0, 0⟩ = (((tName b ⟨p, 0, 0⟩).1, (tCount b 3 ⟨(tName b ⟨p, 0, 0⟩).2.pos, 0, 0⟩).1, (tCount b great ⟨(tCount b 3 ⟨(tName b ⟨p, 0, 0⟩).2.pos, 0, 0⟩).2.pos, 0, 0⟩).1), (tCount b great ⟨(tCount b 3 ⟨(tName b ⟨p, 0, 0⟩).2.pos, 0, 0⟩).2.pos, 0, 0⟩).2)) := fun h => by
      have e2 := plain_tk (plain_count b 3) h
      rw [← e2, ← e1]
      rfl
    clear e1
    go_enter Tryz.func105, Tryz.ntmps105
    go_wp2_with fail
    refine C.mono ?_
    intro r w2 hr
    obtain ⟨rfl, hin2, hb2⟩ := hr.ok hg
    clear hr hg C
    have hbx2 := but_box hb2 hbx1.out (by omega)
    have HB2 : Hid (But g w w2) := HB1.out.trans hb2
    obtain ⟨d0, d1, d2⟩ := box3_cell hbx2
    have f0 := box_fro hbx2 0
    have f1 := box_fro hbx2 1
    have f2 := box_fro hbx2 2
    generalize (tName b ⟨p, 0, 0⟩).1 = x1 at *
    generalize (tName b ⟨p, 0, 0⟩).2.pos = q1 at *
    have HX2 : Hid ((w2.setCell ⟨w.heap.size, 0, none⟩ (.string x1)).heap[w.heap.size]? = some (.cells #[.string x1, .int .i8 0, .int .i64 0] 68 (0, 0))) := box_set hbx2 0 (.string x1)
    have HB3 : Hid _ := but_setB HB2.out (Nat.le_refl _) 0 (.string x1)
    have C := upto_any 3 (by omega) (by omega) w0 g A c b q1 _ (hin2.setB (by omega) hle 0 (.string x1))
    have hz2 : w.heap.size < w2.heap.size := (Array.getElem?_eq_some_iff.1 hbx2).1
    clear hb2 hbx2
    by_cases hg : (tCount b 3 ⟨q1, 0, 0⟩).2.bad = 0
    · have HE2 : Hid _ := HE.out hg
      obtain ⟨r1, r2⟩ := count_range hab hg
      clear HE HA2
      go_wp2_with fail
      refine C.mono ?_
      intro r w3 hr
      obtain ⟨rfl, hin3, hb3⟩ := hr.ok hg
      clear hr hg C
      have hbx3 := but_box hb3 HX2.out (by omega)
      have HB4 : Hid (But g w w3) := But.trans HB3.out hb3
      obtain ⟨e0, e1, e2⟩ := box3_cell hbx3
      have f0 := box_fro hbx3 0
      have f1 := box_fro hbx3 1
      have f2 := box_fro hbx3 2
      have hz3 : w.heap.size < w3.heap.size := (Array.getElem?_eq_some_iff.1 hbx3).1
      generalize (tCount b 3 ⟨q1, 0, 0⟩).1 = x2 at *
      generalize (tCount b 3 ⟨q1, 0, 0⟩).2.pos = q2 at *
      have HX3 : Hid ((w3.setCell ⟨w.heap.size, 1, none⟩ (.int .i8 x2)).heap[w.heap.size]? = some (.cells #[.string x1, .int .i8 x2, .int .i64 0] 68 (0, 0))) := box_set hbx3 1 (.int .i8 x2)
      have HB5 : Hid _ := but_setB HB4.out (Nat.le_refl _) 1 (.int .i8 x2)
      have C : Calls Tryz.prog 101 #[.pointer (some ⟨g, 0, none⟩), .int .i64 2147483647] (w3.setCell ⟨w.heap.size, 1, none⟩ (.int .i8 x2)) (Takes w0 g A c b (tCount b great ⟨q2, 0, 0⟩) (.int .i64) (IsZ .i64) _) := upto_any 2147483647 (by omega) (by omega) w0 g A c b q2 _ (hin3.setB (by omega) hle 1 (.int .i8 x2))
      clear hb3 hbx3
      by_cases hg : (tCount b great ⟨q2, 0, 0⟩).2.bad = 0
      · go_wp2_with fail
        refine C.mono ?_
        intro r w4 hr
        obtain ⟨rfl, hin4, hb4⟩ := hr.ok hg
        have HG : Hid _ := hg
        clear hr hg C
        have hbx4 := but_box hb4 HX3.out (by omega)
        have HB6 : Hid (But g w w4) := But.trans HB5.out hb4
        obtain ⟨g0, g1, g2⟩ := box3_cell hbx4
        have f0 := box_fro hbx4 0
        have f1 := box_fro hbx4 1
        have f2 := box_fro hbx4 2
        have hz4 : w.heap.size < w4.heap.size := (Array.getElem?_eq_some_iff.1 hbx4).1
        clear hbx4 hb4
        go_wp2
        exact bodyPost_ret (v := .tuple #[.agg #[.string x1, .int .i8 x2, .int .i64 (tCount b great ⟨q2, 0, 0⟩).1], .nilIface]) (by simp [results, Tryz.results105, go_sem, g0, g1, g2]) rfl (takes_yes (but_setB (but_setB (but_setB (but_setB HB6.out (Nat.le_refl _) _ _) (Nat.le_refl _) _ _) (Nat.le_refl _) _ _) (Nat.le_refl _) _ _) (by rw [HE2.out]; exact HG.out) (by rw [HE2.out]; rfl) (by rw [HE2.out]; exact ((((hin4.setB (by omega) hle _ _).setB (by omega) hle _ _).setB (by omega) hle _ _).setB (by omega) hle _ _)))
      · go_wp2_with fail
        refine C.mono ?_
        intro r w4 hr
        obtain ⟨_, q4, rfl, rfl, hin4, hb4⟩ := hr.err hg
        have HG : Hid _ := hg
        clear hr hg C
        have hbx4 := but_box hb4 HX3.out (by omega)
        have HB6 : Hid (But g w w4) := But.trans HB5.out hb4
        obtain ⟨g0, g1, g2⟩ := box3_cell hbx4
        have f0 := box_fro hbx4 0
        have f1 := box_fro hbx4 1
        have f2 := box_fro hbx4 2
        have hz4 : w.heap.size < w4.heap.size := (Array.getElem?_eq_some_iff.1 hbx4).1
        clear hbx4 hb4
        generalize (tCount b great ⟨q2, 0, 0⟩).2 = T at *
        go_wp2
        exact bodyPost_ret (v := .tuple #[.agg #[.string x1, .int .i8 x2, .int .i64 0], .iface 97 (.agg #[.int .i64 T.bad, .int .i64 T.place])]) (by simp [results, Tryz.results105, go_sem, g0, g1, g2]) rfl (takes_no (but_setB (but_setB (but_setB (but_setB HB6.out (Nat.le_refl _) _ _) (Nat.le_refl _) _ _) (Nat.le_refl _) _ _) (Nat.le_refl _) _ _) (by rw [HE2.out]; exact HG.out) ⟨_, _, _, rfl⟩ (by rw [HE2.out]) (by rw [HE2.out]) ((((hin4.setB (by omega) hle _ _).setB (by omega) hle _ _).setB (by omega) hle _ _).setB (by omega) hle _ _))
    · have HE2 : Hid _ := HA2.out hg
      clear HE HA2
      go_wp2_with fail
      refine C.mono ?_
      intro r w3 hr
      obtain ⟨_, q3, rfl, rfl, hin3, hb3⟩ := hr.err hg
      have HG : Hid _ := hg
      clear hr hg C
      have hbx3 := but_box hb3 HX2.out (by omega)
      have HB4 : Hid (But g w w3) := But.trans HB3.out hb3
      obtain ⟨e0, e1, e2⟩ := box3_cell hbx3
      have f0 := box_fro hbx3 0
      have f1 := box_fro hbx3 1
      have f2 := box_fro hbx3 2
      have hz3 : w.heap.size < w3.heap.size := (Array.getElem?_eq_some_iff.1 hbx3).1
      clear hb3 hbx3
      generalize (tCount b 3 ⟨q1, 0, 0⟩).2 = T at *
      go_wp2
      exact bodyPost_ret (v := .tuple #[.agg #[.string x1, .int .i8 0, .int .i64 0], .iface 97 (.agg #[.int .i64 T.bad, .int .i64 T.place])]) (by simp [results, Tryz.results105, go_sem, e0, e1, e2]) rfl (takes_no (but_setB (but_setB (but_setB HB4.out (Nat.le_refl _) _ _) (Nat.le_refl _) _ _) (Nat.le_refl _) _ _) (by rw [HE2.out]; exact HG.out) ⟨_, _, _, rfl⟩ (by rw [HE2.out]) (by rw [HE2.out]) (((hin3.setB (by omega) hle _ _).setB (by omega) hle _ _).setB (by omega) hle _ _))
  · have HE : Hid _ := sym_a hg
    go_enter Tryz.func105, Tryz.ntmps105
    go_wp2_with fail
    refine C.mono ?_
    intro r w2 hr
    obtain ⟨_, q2, rfl, rfl, hin2, hb2⟩ := hr.err hg
    have HG : Hid _ := hg
    clear hr hg C
    have hbx2 := but_box hb2 hbx1.out (by omega)
    have HB2 : Hid (But g w w2) := HB1.out.trans hb2
    obtain ⟨d0, d1, d2⟩ := box3_cell hbx2
    have f0 := box_fro hbx2 0
    have f1 := box_fro hbx2 1
    have f2 := box_fro hbx2 2
    have hz2 : w.heap.size < w2.heap.size := (Array.getElem?_eq_some_iff.1 hbx2).1
    generalize (tName b ⟨p, 0, 0⟩).2 = T at *
    clear hbx2 hb2
    go_wp2
    exact bodyPost_ret (v := .tuple #[.agg #[.string ⟨#[]⟩, .int .i8 0, .int .i64 0], .iface 97 (.agg #[.int .i64 T.bad, .int .i64 T.place])]) (by simp [results, Tryz.results105, go_sem, d0, d1, d2]) rfl (takes_no (but_setB (but_setB (but_setB (but_setB HB2.out (Nat.le_refl _) _ _) (Nat.le_refl _) _ _) (Nat.le_refl _) _ _) (Nat.le_refl _) _ _) (by rw [HE.out]; exact HG.out) ⟨_, _, _, rfl⟩ (by rw [HE.out]) (by rw [HE.out]) ((((hin2.setB (by omega) hle _ _).setB (by omega) hle _ _).setB (by omega) hle _ _).setB (by omega) hle _ _))

end Go.Proofs.YthfcimmfkibmjaaGreatDoor

namespace Go.Proofs.YthfcimmfkibmjaaGreatDoor
open Go.RowKit


def sVals (zs : List Sym) : List Value := zs.flatMap fun x => [.string x.1, .int .i8 x.2.1, .int .i64 x.2.2]
theorem sVals_snoc (zs : List Sym) (x : ByteArray) (y z : Int) : sVals (zs ++ [(x, y, z)]) = sVals zs ++ [.string x, .int .i8 y, .int .i64 z] := by simp [sVals]
def rVals (zs : List Rel) : List Value := zs.flatMap fun x => [.int .i64 x.1, .int .i64 x.2]
theorem rVals_snoc (zs : List Rel) (x y : Int) : rVals (zs ++ [(x, y)]) = rVals zs ++ [.int .i64 x, .int .i64 y] := by simp [rVals]

theorem info_takeSyms : ∃ i, Tryz.prog.info? 68 = some i ∧ i.zero = some (.agg #[.string ⟨#[]⟩, .int .i8 0, .int .i64 0]) ∧ i.size = 3 ∧ i.bytes = 32 :=
  ⟨(Tryz.prog.info? 68).get (by kernel_rfl), by kernel_rfl, by kernel_rfl, by kernel_rfl, by kernel_rfl⟩
set_option maxRecDepth 100000 in
set_option maxHeartbeats 2000000 in
theorem takeSyms (m : Int) (hm0 : 0 ≤ m) (hm1 : m ≤ 1048576) (w0 : World) (g : Nat) (A : Option Addr) (c : Nat) (b : List Int) (p : Nat) (w : World) (h : InBy w0 g A c b p w) :
    Calls Tryz.prog 104 #[.pointer (some ⟨g, 0, none⟩), .int .i64 m, .func (.func 105) #[.pointer (some ⟨g, 0, none⟩)] #[]] w (TakesL 68 3 sVals w0 g A c b (tAll b m (tSym b) ⟨p, 0, 0⟩) w) := by
  obtain ⟨i0, hi, hz0, hz1, hz2⟩ := info_takeSyms
  have C := upto_any m hm0 (by omega) w0 g A c b p w h
  have hgw := h.lt
  have hab := h.areB
  by_cases hg : (tCount b m ⟨p, 0, 0⟩).2.bad = 0
  · obtain ⟨r0, r1⟩ := count_range hab hg
    have HA : Hid (tAll b m (tSym b) ⟨p, 0, 0⟩ = tList (tSym b) (tCount b m ⟨p, 0, 0⟩).1.toNat ⟨(tCount b m ⟨p, 0, 0⟩).2.pos, 0, 0⟩) := by
      show _ = _
      unfold tAll
      rw [← plain_tk (plain_count b m) hg]
    have HG : Hid _ := hg
    obtain ⟨n, hn⟩ := Int.eq_ofNat_of_zero_le r0
    go_enter Tryz.func104, Tryz.ntmps104
    go_wp2_with fail
    refine C.mono ?_
    intro r w1 hr
    obtain ⟨rfl, hi1, hb1⟩ := hr.ok hg
    rw [hn]
    rw [hn] at r1
    have hn2 : (tCount b m ⟨p, 0, 0⟩).1.toNat = n := by rw [hn]; rfl
    have HA2 : Hid _ := HA.out
    rw [hn2] at HA2
    have H1 : Hid _ := hi1
    have B1 : Hid (But g w w1) := hb1
    generalize (tCount b m ⟨p, 0, 0⟩).2.pos = q0 at *
    clear hr hi1 hb1 hg HG HA hn hn2 C r0 h
    go_wp2
    go_loopw [23, 10] (fun i s wr => ∃ (k q : Nat) (done : List Sym), i = .int .i64 k ∧ Far (tSym b) n ⟨q0, 0, 0⟩ k done q ∧ wr.ownsRow w.heap.size 68 3 s k (sVals done) ∧ InBy w0 g A c b q wr ∧ But g w wr) (fun i _ _ => n - (intOf i).toNat)
    case atStart => exact ⟨0, q0, [], rfl, far_start _ _ _, World.ownsRow_nil _ _ _ _, H1.out, B1.out⟩
    case round =>
      obtain ⟨k, q, done, rfl, hfar, hown, hin, hbut⟩ := hrel
      have hdl := hfar.1
      have hkn := hfar.2.1
      have HF : Hid (Far (tSym b) n ⟨q0, 0, 0⟩ k done q) := hfar
      have B2 : Hid (But g w wr) := hbut
      have hsz := hbut.2.2.2.1
      obtain ⟨As, ns, cs, rfl⟩ := any_form hown
      clear hfar hbut
      by_cases hlt : k < n
      · have C := rsymbol_any w0 g A c b q wr hin
        by_cases hg : (tSym b ⟨q, 0, 0⟩).2.bad = 0
        · go_wp2_with fail
          refine C.mono ?_
          intro r w2 hr
          obtain ⟨rfl, hin2, hb2⟩ := hr.ok hg
          have HX : Hid _ := far_next (plain_sym b hab) HF.out hlt hg
          have hown2 := row_but hown hgw hb2
          have hsz2 := hb2.2.2.2.1
          clear hr C hown hin
          have HB2 : Hid (But g w w2) := B2.out.trans hb2
          clear hb2 hg
          generalize tSym b ⟨q, 0, 0⟩ = F at *
          obtain ⟨⟨x1, x2, x3⟩, t⟩ := F
          simp only at hin2 HX ⊢
          unfold symV
          have hin3 := hin2.keep (lb_alloc (Below.refl _ _) (.cells #[.string x1, .int .i8 x2, .int .i64 x3] 68))
          have hown3 := hown2.alloc (.cells #[.string x1, .int .i8 x2, .int .i64 x3] 68)
          have HB3 : Hid (But g w (w2.alloc (.cells #[.string x1, .int .i8 x2, .int .i64 x3] 68))) := HB2.out.on (lb_alloc (Below.refl _ _) _)
          have hin4' := hin3.keep (lb_alloc (Below.refl _ _) (.cells #[.string x1, .int .i8 x2, .int .i64 x3] 68))
          have hown4' := hown3.alloc (.cells #[.string x1, .int .i8 x2, .int .i64 x3] 68)
          have HB4 : Hid (But g w ((w2.alloc (.cells #[.string x1, .int .i8 x2, .int .i64 x3] 68)).alloc (.cells #[.string x1, .int .i8 x2, .int .i64 x3] 68))) := HB3.out.on (lb_alloc (Below.refl _ _) _)
          have hc : ∀ j u, ([.string x1, .int .i8 x2, .int .i64 x3] : List Value)[j]? = some u → ((w2.alloc (.cells #[.string x1, .int .i8 x2, .int .i64 x3] 68)).alloc (.cells #[.string x1, .int .i8 x2, .int .i64 x3] 68)).cell? ((⟨w2.heap.size + 1, 0, none⟩ : Addr).add j) = some u := by
            have := new_cells (w2.alloc (.cells #[.string x1, .int .i8 x2, .int .i64 x3] 68)) [.string x1, .int .i8 x2, .int .i64 x3] 68 (by simp)
            rw [show (w2.alloc (.cells #[.string x1, .int .i8 x2, .int .i64 x3] 68)).heap.size = w2.heap.size + 1 by simp] at this
            exact this
          have hone : ∀ u ∈ ([.string x1, .int .i8 x2, .int .i64 x3] : List Value), u.oneCell' = true := by simp [Value.oneCell']
          go_wp2_with (at_builtin; refine wpList_append_own _ rfl (.tmp 33) (.tmp 35) 24 rfl w.heap.size 68 i0 (.agg #[.string ⟨#[]⟩, .int .i8 0, .int .i64 0]) 3 32 Tryz.underlying24 hi hz0 hz1 hz2 rfl (by decide) (.slice As ns cs) k (sVals done) rfl hown4' ⟨w2.heap.size + 1, 0, none⟩ 1 1 [.string x1, .int .i8 x2, .int .i64 x3] rfl rfl hc hone (by unfold maxLen; omega) (by omega) (by simp; omega) ?_; intro v' w' hown' hgrow hnil)
          have hr4 : ∀ j, (Value.slice As ns cs).ownBlock = some j → w.heap.size ≤ j := fun j hj => (hown4'.lt j hj).1
          have hin4 := in_grown hin4' hgrow hr4 hgw
          have hb4 := but_grown HB4.out hgrow hr4
          go_roundw
          case rel => exact ⟨k + 1, _, _, by go_num, HX.out, by rw [show sVals (done ++ [_]) = sVals done ++ [.string x1, .int .i8 x2, .int .i64 x3] from sVals_snoc _ _ _ _]; exact hown', hin4, hb4⟩
          case measure => simp [intOf]; omega
        · go_wp2_with fail
          refine C.mono ?_
          intro r w2 hr
          obtain ⟨_, p2, ⟨y1, y2, y3, rfl⟩, rfl, hin2, hb2⟩ := hr.err hg
          have HX : Hid _ := far_bad HF.out hlt hg
          have HG : Hid _ := hg
          clear hr hg C
          generalize tSym b ⟨q, 0, 0⟩ = F at *
          go_wp2
          go_ret2
          exact takesL_no ((B2.out.trans hb2).on (lb_alloc (Below.refl _ _) _)) (by rw [HA2.out]; exact HX.out) HG.out (hin2.keep (lb_alloc (Below.refl _ _) _))
      · obtain rfl : k = n := by omega
        go_wp2
        go_ret2
        exact takesL_yes B2.out (by rw [HA2.out]; exact far_end HF.out) (by rw [hdl]; exact hown) hin
  · have HA : Hid _ := all_bad (f := tSym b) hg
    have HG : Hid _ := hg
    go_enter Tryz.func104, Tryz.ntmps104
    go_wp2_with fail
    refine C.mono ?_
    intro r w1 hr
    obtain ⟨_, p2, rfl, rfl, hi1, hb1⟩ := hr.err hg
    clear hr hg
    generalize (tCount b m ⟨p, 0, 0⟩).2 = T at *
    go_wp2
    go_ret2
    exact takesL_no hb1 HA.out HG.out hi1

theorem info_takeRels : ∃ i, Tryz.prog.info? 119 = some i ∧ i.zero = some (.agg #[.int .i64 0, .int .i64 0]) ∧ i.size = 2 ∧ i.bytes = 16 :=
  ⟨(Tryz.prog.info? 119).get (by kernel_rfl), by kernel_rfl, by kernel_rfl, by kernel_rfl, by kernel_rfl⟩
set_option maxRecDepth 100000 in
set_option maxHeartbeats 2000000 in
theorem takeRels (m : Int) (hm0 : 0 ≤ m) (hm1 : m ≤ 1048576) (w0 : World) (g : Nat) (A : Option Addr) (c : Nat) (b : List Int) (p : Nat) (w : World) (h : InBy w0 g A c b p w) :
    Calls Tryz.prog 106 #[.pointer (some ⟨g, 0, none⟩), .int .i64 m, .func (.func 107) #[.pointer (some ⟨g, 0, none⟩)] #[]] w (TakesL 119 2 rVals w0 g A c b (tAll b m (tRel b) ⟨p, 0, 0⟩) w) := by
  obtain ⟨i0, hi, hz0, hz1, hz2⟩ := info_takeRels
  have C := upto_any m hm0 (by omega) w0 g A c b p w h
  have hgw := h.lt
  have hab := h.areB
  by_cases hg : (tCount b m ⟨p, 0, 0⟩).2.bad = 0
  · obtain ⟨r0, r1⟩ := count_range hab hg
    have HA : Hid (tAll b m (tRel b) ⟨p, 0, 0⟩ = tList (tRel b) (tCount b m ⟨p, 0, 0⟩).1.toNat ⟨(tCount b m ⟨p, 0, 0⟩).2.pos, 0, 0⟩) := by
      show _ = _
      unfold tAll
      rw [← plain_tk (plain_count b m) hg]
    have HG : Hid _ := hg
    obtain ⟨n, hn⟩ := Int.eq_ofNat_of_zero_le r0
    go_enter Tryz.func106, Tryz.ntmps106
    go_wp2_with fail
    refine C.mono ?_
    intro r w1 hr
    obtain ⟨rfl, hi1, hb1⟩ := hr.ok hg
    rw [hn]
    rw [hn] at r1
    have hn2 : (tCount b m ⟨p, 0, 0⟩).1.toNat = n := by rw [hn]; rfl
    have HA2 : Hid _ := HA.out
    rw [hn2] at HA2
    have H1 : Hid _ := hi1
    have B1 : Hid (But g w w1) := hb1
    generalize (tCount b m ⟨p, 0, 0⟩).2.pos = q0 at *
    clear hr hi1 hb1 hg HG HA hn hn2 C r0 h
    go_wp2
    go_loopw [23, 10] (fun i s wr => ∃ (k q : Nat) (done : List Rel), i = .int .i64 k ∧ Far (tRel b) n ⟨q0, 0, 0⟩ k done q ∧ wr.ownsRow w.heap.size 119 2 s k (rVals done) ∧ InBy w0 g A c b q wr ∧ But g w wr) (fun i _ _ => n - (intOf i).toNat)
    case atStart => exact ⟨0, q0, [], rfl, far_start _ _ _, World.ownsRow_nil _ _ _ _, H1.out, B1.out⟩
    case round =>
      obtain ⟨k, q, done, rfl, hfar, hown, hin, hbut⟩ := hrel
      have hdl := hfar.1
      have hkn := hfar.2.1
      have HF : Hid (Far (tRel b) n ⟨q0, 0, 0⟩ k done q) := hfar
      have B2 : Hid (But g w wr) := hbut
      have hsz := hbut.2.2.2.1
      obtain ⟨As, ns, cs, rfl⟩ := any_form hown
      clear hfar hbut
      by_cases hlt : k < n
      · have C := rreloc_any w0 g A c b q wr hin
        by_cases hg : (tRel b ⟨q, 0, 0⟩).2.bad = 0
        · go_wp2_with fail
          refine C.mono ?_
          intro r w2 hr
          obtain ⟨rfl, hin2, hb2⟩ := hr.ok hg
          have HX : Hid _ := far_next (plain_rel b) HF.out hlt hg
          have hown2 := row_but hown hgw hb2
          have hsz2 := hb2.2.2.2.1
          clear hr C hown hin
          have HB2 : Hid (But g w w2) := B2.out.trans hb2
          clear hb2 hg
          generalize tRel b ⟨q, 0, 0⟩ = F at *
          obtain ⟨⟨x1, x2⟩, t⟩ := F
          simp only at hin2 HX ⊢
          unfold relV
          have hin3 := hin2.keep (lb_alloc (Below.refl _ _) (.cells #[.int .i64 x1, .int .i64 x2] 119))
          have hown3 := hown2.alloc (.cells #[.int .i64 x1, .int .i64 x2] 119)
          have HB3 : Hid (But g w (w2.alloc (.cells #[.int .i64 x1, .int .i64 x2] 119))) := HB2.out.on (lb_alloc (Below.refl _ _) _)
          have hin4' := hin3.keep (lb_alloc (Below.refl _ _) (.cells #[.int .i64 x1, .int .i64 x2] 119))
          have hown4' := hown3.alloc (.cells #[.int .i64 x1, .int .i64 x2] 119)
          have HB4 : Hid (But g w ((w2.alloc (.cells #[.int .i64 x1, .int .i64 x2] 119)).alloc (.cells #[.int .i64 x1, .int .i64 x2] 119))) := HB3.out.on (lb_alloc (Below.refl _ _) _)
          have hc : ∀ j u, ([.int .i64 x1, .int .i64 x2] : List Value)[j]? = some u → ((w2.alloc (.cells #[.int .i64 x1, .int .i64 x2] 119)).alloc (.cells #[.int .i64 x1, .int .i64 x2] 119)).cell? ((⟨w2.heap.size + 1, 0, none⟩ : Addr).add j) = some u := by
            have := new_cells (w2.alloc (.cells #[.int .i64 x1, .int .i64 x2] 119)) [.int .i64 x1, .int .i64 x2] 119 (by simp)
            rw [show (w2.alloc (.cells #[.int .i64 x1, .int .i64 x2] 119)).heap.size = w2.heap.size + 1 by simp] at this
            exact this
          have hone : ∀ u ∈ ([.int .i64 x1, .int .i64 x2] : List Value), u.oneCell' = true := by simp [Value.oneCell']
          go_wp2_with (at_builtin; refine wpList_append_own _ rfl (.tmp 33) (.tmp 35) 25 rfl w.heap.size 119 i0 (.agg #[.int .i64 0, .int .i64 0]) 2 16 Tryz.underlying25 hi hz0 hz1 hz2 rfl (by decide) (.slice As ns cs) k (rVals done) rfl hown4' ⟨w2.heap.size + 1, 0, none⟩ 1 1 [.int .i64 x1, .int .i64 x2] rfl rfl hc hone (by unfold maxLen; omega) (by omega) (by simp; omega) ?_; intro v' w' hown' hgrow hnil)
          have hr4 : ∀ j, (Value.slice As ns cs).ownBlock = some j → w.heap.size ≤ j := fun j hj => (hown4'.lt j hj).1
          have hin4 := in_grown hin4' hgrow hr4 hgw
          have hb4 := but_grown HB4.out hgrow hr4
          go_roundw
          case rel => exact ⟨k + 1, _, _, by go_num, HX.out, by rw [show rVals (done ++ [_]) = rVals done ++ [.int .i64 x1, .int .i64 x2] from rVals_snoc _ _ _]; exact hown', hin4, hb4⟩
          case measure => simp [intOf]; omega
        · go_wp2_with fail
          refine C.mono ?_
          intro r w2 hr
          obtain ⟨_, p2, ⟨y1, y2, rfl⟩, rfl, hin2, hb2⟩ := hr.err hg
          have HX : Hid _ := far_bad HF.out hlt hg
          have HG : Hid _ := hg
          clear hr hg C
          generalize tRel b ⟨q, 0, 0⟩ = F at *
          go_wp2
          go_ret2
          exact takesL_no ((B2.out.trans hb2).on (lb_alloc (Below.refl _ _) _)) (by rw [HA2.out]; exact HX.out) HG.out (hin2.keep (lb_alloc (Below.refl _ _) _))
      · obtain rfl : k = n := by omega
        go_wp2
        go_ret2
        exact takesL_yes B2.out (by rw [HA2.out]; exact far_end HF.out) (by rw [hdl]; exact hown) hin
  · have HA : Hid _ := all_bad (f := tRel b) hg
    have HG : Hid _ := hg
    go_enter Tryz.func106, Tryz.ntmps106
    go_wp2_with fail
    refine C.mono ?_
    intro r w1 hr
    obtain ⟨_, p2, rfl, rfl, hi1, hb1⟩ := hr.err hg
    clear hr hg
    generalize (tCount b m ⟨p, 0, 0⟩).2 = T at *
    go_wp2
    go_ret2
    exact takesL_no hb1 HA.out HG.out hi1

end Go.Proofs.YthfcimmfkibmjaaGreatDoor

namespace Go.Proofs.YthfcimmfkibmjaaGreatDoor
open Go.RowKit


theorem IntsAt.under {g : Nat} {w0 w w1 : World} {A : Option Addr} {K : IntKind} {zs : List Int} (h : IntsAt w0 A K zs) (hb : Below w0.heap.size w0 w) (hg : w0.heap.size ≤ g) (hb1 : Below g w w1) : IntsAt w1 A K zs := h.keep (hb.trans (hb1.mono hg))
theorem SymsAt.under {g : Nat} {w0 w w1 : World} {A : Option Addr} {zs : List Sym} (h : SymsAt w0 A zs) (hb : Below w0.heap.size w0 w) (hg : w0.heap.size ≤ g) (hb1 : Below g w w1) : SymsAt w1 A zs := h.keep (hb.trans (hb1.mono hg))
theorem RelsAt.under {g : Nat} {w0 w w1 : World} {A : Option Addr} {zs : List Rel} (h : RelsAt w0 A zs) (hb : Below w0.heap.size w0 w) (hg : w0.heap.size ≤ g) (hb1 : Below g w w1) : RelsAt w1 A zs := h.keep (hb.trans (hb1.mono hg))
theorem flat_snoc {α : Type} (f : α → List Int) (zs : List α) (z : α) (k : Nat) (h : k < zs.length) : (zs.take (k + 1)).flatMap f = (zs.take k).flatMap f ++ f (zs.getD k z) := by
  rw [List.take_succ_eq_append_getElem h, List.flatMap_append]
  simp [List.getD, h]
theorem flat_len {α : Type} (f : α → List Int) (m : Nat) (hf : ∀ x, (f x).length = m) (zs : List α) : (zs.flatMap f).length = zs.length * m := by
  induction zs with
  | nil => simp
  | cons z zs ih => simp [hf, ih, Nat.succ_mul, Nat.add_comm]

set_option maxRecDepth 100000 in
set_option maxHeartbeats 1000000 in
theorem wWords (g : Nat) (l : List Int) (A : Option Addr) (c : Nat) (zs : List Int) (w0 w : World) (hC : IntsAt w0 A .u32 zs) (hb0 : Below w0.heap.size w0 w) (hg0 : w0.heap.size ≤ g) (hR0 : ∀ i, i < zs.length → 0 ≤ nth zs i ∧ nth zs i < 4294967296) (hl : l.length + 4 + zs.length * 4 ≤ 1048576) (ho : OutAt w g l) :
    Calls Tryz.prog 79 #[.pointer (some ⟨g, 0, none⟩), .slice A zs.length c, .func (.func 30) #[.pointer (some ⟨g, 0, none⟩)] #[]] w (Puts g l (be4 zs.length ++ zs.flatMap be4) w) := by
  have hg := ho.lt
  go_enter Tryz.func79, Tryz.ntmps79
  go_wp2_with fail
  refine (wCount g l (zs.length : Int) (by omega) _ ho).mono ?_
  rintro r w1 ⟨rfl, h1, h2⟩
  have H2 : Hid _ := h2
  have H1 : Hid _ := h1
  clear h1 h2 ho
  go_wp2
  go_loopw [14] (fun i wr => ∃ k : Nat, i = .int .i64 k ∧ k ≤ zs.length ∧ OutAt wr g (l ++ be4 zs.length ++ (zs.take k).flatMap be4) ∧ OutTo g w wr) (fun i _ => zs.length - (intOf i).toNat)
  case atStart => exact ⟨0, rfl, Nat.zero_le _, by show OutAt _ _ (_ ++ []); rw [List.append_nil]; exact H1.out, H2.out⟩
  case round =>
    obtain ⟨k, rfl, hk, ho, ht⟩ := hrel
    by_cases hlt : k < zs.length
    · obtain ⟨a, rfl, hc⟩ := (hC.under hb0 hg0 (ht.below hg)) k hlt
      have hlen : (l ++ be4 zs.length ++ (zs.take k).flatMap be4).length + 4 ≤ 1048576 := by
        rw [List.length_append, len_app4, flat_len be4 4 (fun _ => rfl), List.length_take]
        have : min k zs.length * 4 + 4 ≤ zs.length * 4 := by
          rw [Nat.min_eq_left hk]; omega
        omega
      have HF : Hid _ := flat_snoc be4 zs 0 k hlt
      have hR := hR0 k hlt
      have HT : Hid _ := ht
      clear ht
      go_wp2_with fail
      refine (wNumber g _ (nth zs k) hR.1 hR.2 hlen _ ho).mono ?_
      rintro r w2 ⟨rfl, h3, h4⟩
      have H3 : Hid _ := h3
      have H4 : Hid _ := h4
      clear h3 h4 ho
      go_wp2
      go_roundw
      case rel => exact ⟨k + 1, by go_num, by omega, by rw [HF.out, ← List.append_assoc]; exact H3.out, HT.out.trans H4.out⟩
      case measure => simp [intOf]; omega
    · go_wp2
      go_end0
      rw [List.take_of_length_le (by omega)] at ho
      exact ⟨rfl, by rw [← List.append_assoc]; exact ho, ht⟩

set_option maxRecDepth 100000 in
set_option maxHeartbeats 1000000 in
theorem wLongs (g : Nat) (l : List Int) (A : Option Addr) (c : Nat) (zs : List Int) (w0 w : World) (hC : IntsAt w0 A .i64 zs) (hb0 : Below w0.heap.size w0 w) (hg0 : w0.heap.size ≤ g) (hl : l.length + 4 + zs.length * 8 ≤ 1048576) (ho : OutAt w g l) :
    Calls Tryz.prog 81 #[.pointer (some ⟨g, 0, none⟩), .slice A zs.length c, .func (.func 82) #[.pointer (some ⟨g, 0, none⟩)] #[]] w (Puts g l (be4 zs.length ++ zs.flatMap be8) w) := by
  have hg := ho.lt
  go_enter Tryz.func81, Tryz.ntmps81
  go_wp2_with fail
  refine (wCount g l (zs.length : Int) (by omega) _ ho).mono ?_
  rintro r w1 ⟨rfl, h1, h2⟩
  have H2 : Hid _ := h2
  have H1 : Hid _ := h1
  clear h1 h2 ho
  go_wp2
  go_loopw [14] (fun i wr => ∃ k : Nat, i = .int .i64 k ∧ k ≤ zs.length ∧ OutAt wr g (l ++ be4 zs.length ++ (zs.take k).flatMap be8) ∧ OutTo g w wr) (fun i _ => zs.length - (intOf i).toNat)
  case atStart => exact ⟨0, rfl, Nat.zero_le _, by show OutAt _ _ (_ ++ []); rw [List.append_nil]; exact H1.out, H2.out⟩
  case round =>
    obtain ⟨k, rfl, hk, ho, ht⟩ := hrel
    by_cases hlt : k < zs.length
    · obtain ⟨a, rfl, hc⟩ := (hC.under hb0 hg0 (ht.below hg)) k hlt
      have hlen : (l ++ be4 zs.length ++ (zs.take k).flatMap be8).length + 8 ≤ 1048576 := by
        rw [List.length_append, len_app4, flat_len be8 8 (fun _ => rfl), List.length_take]
        have : min k zs.length * 8 + 8 ≤ zs.length * 8 := by
          rw [Nat.min_eq_left hk]; omega
        omega
      have HF : Hid _ := flat_snoc be8 zs 0 k hlt
      have HT : Hid _ := ht
      clear ht
      go_wp2_with fail
      refine (wLong g _ (nth zs k)  hlen _ ho).mono ?_
      rintro r w2 ⟨rfl, h3, h4⟩
      have H3 : Hid _ := h3
      have H4 : Hid _ := h4
      clear h3 h4 ho
      go_wp2
      go_roundw
      case rel => exact ⟨k + 1, by go_num, by omega, by rw [HF.out, ← List.append_assoc]; exact H3.out, HT.out.trans H4.out⟩
      case measure => simp [intOf]; omega
    · go_wp2
      go_end0
      rw [List.take_of_length_le (by omega)] at ho
      exact ⟨rfl, by rw [← List.append_assoc]; exact ho, ht⟩

end Go.Proofs.YthfcimmfkibmjaaGreatDoor

namespace Go.Proofs.YthfcimmfkibmjaaGreatDoor
open Go.RowKit


theorem flat_take_le {α : Type} (f : α → List Int) (zs : List α) (k : Nat) : ((zs.take k).flatMap f).length ≤ (zs.flatMap f).length := by
  conv => rhs; rw [← List.take_append_drop k zs, List.flatMap_append, List.length_append]
  omega

set_option maxRecDepth 100000 in
set_option maxHeartbeats 1000000 in
theorem wSyms (g : Nat) (l : List Int) (A : Option Addr) (c : Nat) (zs : List Sym) (w0 w : World) (hC : SymsAt w0 A zs) (hb0 : Below w0.heap.size w0 w) (hg0 : w0.heap.size ≤ g) (hK : ∀ i, i < zs.length → 0 ≤ sKind zs i ∧ sKind zs i < 128) (hn : zs.length ≤ 1048576) (hl : l.length + 4 + (zs.flatMap symB).length ≤ 1048576) (ho : OutAt w g l) :
    Calls Tryz.prog 83 #[.pointer (some ⟨g, 0, none⟩), .slice A zs.length c, .func (.func 84) #[.pointer (some ⟨g, 0, none⟩)] #[]] w (Puts g l (be4 zs.length ++ zs.flatMap symB) w) := by
  have hg := ho.lt
  go_enter Tryz.func83, Tryz.ntmps83
  go_wp2_with fail
  refine (wCount g l (zs.length : Int) (by omega) _ ho).mono ?_
  rintro r w1 ⟨rfl, h1, h2⟩
  have H2 : Hid _ := h2
  have H1 : Hid _ := h1
  clear h1 h2 ho
  go_wp2
  go_loopw [14] (fun i wr => ∃ k : Nat, i = .int .i64 k ∧ k ≤ zs.length ∧ OutAt wr g (l ++ be4 zs.length ++ (zs.take k).flatMap symB) ∧ OutTo g w wr) (fun i _ => zs.length - (intOf i).toNat)
  case atStart => exact ⟨0, rfl, Nat.zero_le _, by show OutAt _ _ (_ ++ []); rw [List.append_nil]; exact H1.out, H2.out⟩
  case round =>
    obtain ⟨k, rfl, hk, ho, ht⟩ := hrel
    by_cases hlt : k < zs.length
    · obtain ⟨a, rfl, c0, c1, c2⟩ := (hC.under hb0 hg0 (ht.below hg)) k hlt
      have d1 : _ = some (Value.int .i8 (sKind zs k)) := show World.cell? _ ⟨(a.add (k * 3)).block, (a.add (k * 3)).off + 1, none⟩ = _ from c1
      have d2 : _ = some (Value.int .i64 (sAt zs k)) := show World.cell? _ ⟨(a.add (k * 3)).block, (a.add (k * 3)).off + 2, none⟩ = _ from c2
      have HF : Hid ((zs.take (k + 1)).flatMap symB = (zs.take k).flatMap symB ++ symB ((sName zs k, sKind zs k, sAt zs k))) := flat_snoc symB zs symD k hlt
      have hlen : (l ++ be4 zs.length ++ (zs.take k).flatMap symB).length + (symB ((sName zs k, sKind zs k, sAt zs k))).length ≤ 1048576 := by
        have h5 := congrArg List.length HF.out
        have h6 := flat_take_le symB zs (k + 1)
        rw [List.length_append] at h5
        rw [List.length_append, len_app4]
        omega
      have hl2 : (symB (sName zs k, sKind zs k, sAt zs k)).length = (sName zs k).size + 12 := by unfold symB textB; simp [be4_len, strB_size]; omega
      have hk2 := hK k hlt
      have HT : Hid _ := ht
      have HO : Hid (OutAt wr g (l ++ be4 zs.length ++ (zs.take k).flatMap symB)) := ho
      clear ht ho
      go_wp2_with fail
      refine (wSymbol g (l ++ be4 zs.length ++ (zs.take k).flatMap symB) (sName zs k) (sKind zs k) (sAt zs k) (by omega) hk2 _ ?ho).mono ?_
      case ho => exact OutAt.keep HO.out (lb_alloc (Below.refl _ _) _)
      rintro r w2 ⟨rfl, h3, h4⟩
      have H3 : Hid _ := h3
      have H4 : Hid _ := h4
      clear h3 h4
      go_wp2
      go_roundw
      case rel => exact ⟨k + 1, by go_num, by omega, by rw [HF.out, ← List.append_assoc]; exact H3.out, HT.out.trans ((OutTo.of (lb_alloc (Below.refl _ _) _)).trans H4.out)⟩
      case measure => simp [intOf]; omega
    · go_wp2
      go_end0
      rw [List.take_of_length_le (by omega)] at ho
      exact ⟨rfl, by rw [← List.append_assoc]; exact ho, ht⟩

set_option maxRecDepth 100000 in
set_option maxHeartbeats 1000000 in
theorem wRels (g : Nat) (l : List Int) (A : Option Addr) (c : Nat) (zs : List Rel) (w0 w : World) (hC : RelsAt w0 A zs) (hb0 : Below w0.heap.size w0 w) (hg0 : w0.heap.size ≤ g) (hn : zs.length ≤ 1048576) (hl : l.length + 4 + (zs.flatMap relB).length ≤ 1048576) (ho : OutAt w g l) :
    Calls Tryz.prog 85 #[.pointer (some ⟨g, 0, none⟩), .slice A zs.length c, .func (.func 86) #[.pointer (some ⟨g, 0, none⟩)] #[]] w (Puts g l (be4 zs.length ++ zs.flatMap relB) w) := by
  have hg := ho.lt
  go_enter Tryz.func85, Tryz.ntmps85
  go_wp2_with fail
  refine (wCount g l (zs.length : Int) (by omega) _ ho).mono ?_
  rintro r w1 ⟨rfl, h1, h2⟩
  have H2 : Hid _ := h2
  have H1 : Hid _ := h1
  clear h1 h2 ho
  go_wp2
  go_loopw [14] (fun i wr => ∃ k : Nat, i = .int .i64 k ∧ k ≤ zs.length ∧ OutAt wr g (l ++ be4 zs.length ++ (zs.take k).flatMap relB) ∧ OutTo g w wr) (fun i _ => zs.length - (intOf i).toNat)
  case atStart => exact ⟨0, rfl, Nat.zero_le _, by show OutAt _ _ (_ ++ []); rw [List.append_nil]; exact H1.out, H2.out⟩
  case round =>
    obtain ⟨k, rfl, hk, ho, ht⟩ := hrel
    by_cases hlt : k < zs.length
    · obtain ⟨a, rfl, c0, c1⟩ := (hC.under hb0 hg0 (ht.below hg)) k hlt
      have d1 : _ = some (Value.int .i64 (rSym zs k)) := show World.cell? _ ⟨(a.add (k * 2)).block, (a.add (k * 2)).off + 1, none⟩ = _ from c1
      have HF : Hid ((zs.take (k + 1)).flatMap relB = (zs.take k).flatMap relB ++ relB ((rAt zs k, rSym zs k))) := flat_snoc relB zs (0, 0) k hlt
      have hlen : (l ++ be4 zs.length ++ (zs.take k).flatMap relB).length + (relB ((rAt zs k, rSym zs k))).length ≤ 1048576 := by
        have h5 := congrArg List.length HF.out
        have h6 := flat_take_le relB zs (k + 1)
        rw [List.length_append] at h5
        rw [List.length_append, len_app4]
        omega
      have hl2 : (relB (rAt zs k, rSym zs k)).length = 8 := rfl
      have HT : Hid _ := ht
      have HO : Hid (OutAt wr g (l ++ be4 zs.length ++ (zs.take k).flatMap relB)) := ho
      clear ht ho
      go_wp2_with fail
      refine (wReloc g (l ++ be4 zs.length ++ (zs.take k).flatMap relB) (rAt zs k) (rSym zs k) (by omega) _ ?ho).mono ?_
      case ho => exact OutAt.keep HO.out (lb_alloc (Below.refl _ _) _)
      rintro r w2 ⟨rfl, h3, h4⟩
      have H3 : Hid _ := h3
      have H4 : Hid _ := h4
      clear h3 h4
      go_wp2
      go_roundw
      case rel => exact ⟨k + 1, by go_num, by omega, by rw [HF.out, ← List.append_assoc]; exact H3.out, HT.out.trans ((OutTo.of (lb_alloc (Below.refl _ _) _)).trans H4.out)⟩
      case measure => simp [intOf]; omega
    · go_wp2
      go_end0
      rw [List.take_of_length_le (by omega)] at ho
      exact ⟨rfl, by rw [← List.append_assoc]; exact ho, ht⟩

end Go.Proofs.YthfcimmfkibmjaaGreatDoor
