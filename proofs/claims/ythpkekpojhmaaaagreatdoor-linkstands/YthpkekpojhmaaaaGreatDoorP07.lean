/-
  An output in memory: its box and its own row of bytes; no Go in sight. The program writes numbers and texts into an output; what is written is at most 2^20 bytes. The program writes symbols, relocations and lists into an output; what is written is at most 2^20 bytes. The program takes texts, symbols and relocations of an input.
-/
import Derived.Test.YthpkekpojhmaaaaGreatDoorProg
import Derived.WalkKit
import Derived.WalkSpells
import Derived.WalkLawsBesides
import Derived.RowKit3
import Derived.Below
import Derived.Deep.QuietTactic
import Derived.BigQuiet
import Derived.WalkSmall
import Derived.Laws.Rows
import Derived.Test.YthpkekpojhmaaaaGreatDoorP05
import Derived.Lib.AppendStr
import Derived.Laws.BytesArg
import Derived.Test.YthpkekpojhmaaaaGreatDoorP06
namespace Go.Proofs.YthpkekpojhmaaaaGreatDoor
open Go.RowKit


/-- Bytes as cells. -/
def bNews (l : List Int) : List Value := l.map (Value.int .u8)
theorem bNews_len (l : List Int) : (bNews l).length = l.length := by simp [bNews]
theorem bNews_one (l : List Int) : ∀ u ∈ bNews l, u.oneCell' = true := fun u hu => by
  unfold bNews at hu
  obtain ⟨x, _, rfl⟩ := List.mem_map.1 hu
  rfl
theorem bNews_app (l r : List Int) : bNews l ++ bNews r = bNews (l ++ r) := by simp [bNews]
theorem be4_mod (x : Int) : be4 (x % 4294967296) = be4 x := by
  simp only [be4, List.cons.injEq, and_true]
  omega
/-- An output's box at g holds a row of its own that reads l. -/
def OutAt (w : World) (g : Nat) (l : List Int) : Prop :=
  ∃ v, w.heap[g]? = some (.cells #[v] 149 (0, 0)) ∧ w.ownsRow (g + 1) 5 1 v l.length (bNews l)
/-- No row of bytes. -/
def NoB (w : World) (k : Nat) : Prop := ∀ cur, w.heap[k]? ≠ some (.cells cur 5 (0, 0))
/-- Nothing is other but the box g and rows of bytes behind it. -/
structure OutTo (g : Nat) (w w' : World) : Prop where
  os : w'.os = w.os
  tape : w'.tape = w.tape
  output : w'.output = w.output
  size : w.heap.size ≤ w'.heap.size
  block : ∀ k, k < w.heap.size → k ≠ g → (k < g ∨ NoB w k) → w'.heap[k]? = w.heap[k]?
theorem OutTo.refl (g : Nat) (w : World) : OutTo g w w := ⟨rfl, rfl, rfl, Nat.le_refl _, fun _ _ _ _ => rfl⟩
theorem OutTo.trans {g : Nat} {w w1 w2 : World} (h : OutTo g w w1) (k : OutTo g w1 w2) : OutTo g w w2 := by
  refine ⟨k.os.trans h.os, k.tape.trans h.tape, k.output.trans h.output, Nat.le_trans h.size k.size, fun i hi hg hr => ?_⟩
  have e := h.block i hi hg hr
  refine (k.block i (Nat.lt_of_lt_of_le hi h.size) hg ?_).trans e
  rcases hr with hr | hr
  · exact Or.inl hr
  · exact Or.inr fun cur => by rw [e]; exact hr cur
theorem OutTo.of {g : Nat} {w w1 : World} (hb : Below w.heap.size w w1) : OutTo g w w1 := ⟨hb.os, hb.tape, hb.output, hb.size, fun i hi _ _ => hb.block i hi⟩
theorem OutAt.lt {w : World} {g : Nat} {l : List Int} (h : OutAt w g l) : g < w.heap.size := by
  obtain ⟨v, hv, _⟩ := h
  exact (Array.getElem?_eq_some_iff.1 hv).1
theorem OutAt.keep {w w1 : World} {g : Nat} {l : List Int} (h : OutAt w g l) (hb : Below w.heap.size w w1) : OutAt w1 g l := by
  have hg := h.lt
  obtain ⟨v, hv, ho⟩ := h
  refine ⟨v, by rw [hb.block g hg]; exact hv, ho.kept (row := none) ⟨hb.os, hb.tape, hb.output, hb.size, fun k hk _ => hb.block k hk⟩ ?_⟩
  cases hv : v.ownBlock <;> simp
theorem OutTo.below {g : Nat} {w w1 : World} (hg : g < w.heap.size) (k : OutTo g w w1) : Below g w w1 :=
  ⟨k.os, k.tape, k.output, k.size, fun i hi => k.block i (by omega) (by omega) (Or.inl hi)⟩
/-- A block that is no row of bytes and not the box stays. -/
theorem OutTo.box {g : Nat} {w w1 : World} (k : OutTo g w w1) {B : Nat} {cur : Array Value} {t : TypeId} (hb : w.heap[B]? = some (.cells cur t (0, 0))) (ht : t ≠ 5) (hg : B ≠ g) : w1.heap[B]? = some (.cells cur t (0, 0)) := by
  rw [k.block B (Array.getElem?_eq_some_iff.1 hb).1 hg (Or.inr fun c => by rw [hb]; intro e; cases e; exact ht rfl)]; exact hb
theorem OutTo.cell {g : Nat} {w w1 : World} (k : OutTo g w w1) (hgw : g < w.heap.size) {p : Addr} {v : Value} (hc : w.cell? p = some v) (hg : p.block < g) : w1.cell? p = some v := by
  rw [World.cell?_of_block (w := w) ((k.below hgw).block p.block hg)]; exact hc
theorem own_noB {w : World} {g n k : Nat} {v : Value} {xs : List Value} (h : w.ownsRow (g + 1) 5 1 v n xs) (hk : k < g ∨ NoB w k) : some k ≠ v.ownBlock := fun e => by
  have hl := h.lt k e.symm
  rcases hk with hk | hk
  · omega
  · rcases h.2 with ⟨rfl, _⟩ | ⟨j, cap, cur, rfl, _, hj, _⟩
    · cases e
    · cases e
      exact hk cur hj
/-- A row grown, and put into the box. -/
theorem out_grown {g : Nat} {w w1 : World} {v v' A : Value} {n m : Nat} {xs : List Value} {l : List Int} (hbox : w.heap[g]? = some (.cells #[A] 149 (0, 0))) (ho : w.ownsRow (g + 1) 5 1 v n xs) (hs : w.grownBy w1 v.ownBlock) (ho' : w1.ownsRow (g + 1) 5 1 v' m (bNews l)) (hm : m = l.length) :
    OutAt (w1.setCell ⟨g, 0, none⟩ v') g l ∧ OutTo g w (w1.setCell ⟨g, 0, none⟩ v') := by
  have hg := (Array.getElem?_eq_some_iff.1 hbox).1
  have h1 : w1.heap[g]? = some (.cells #[A] 149 (0, 0)) := by
    rw [hs.block g hg (fun e => by have := ho.lt g e.symm; omega)]; exact hbox
  subst hm
  refine ⟨⟨v', ?_, ?_⟩, ⟨hs.os, hs.tape, hs.output, by simpa [go_sem] using hs.size, fun k hk hg hr => (Below.heap_setCell _ _ _ _ hg).trans (hs.block k hk (own_noB ho hr))⟩⟩
  · simp [World.setCell, Array.getElem?_modify, h1]
  · exact ownsRow_setCell_below ho' (by show g < g + 1; omega) v'
theorem box_cell {w : World} {g : Nat} {A : Value} (h : w.heap[g]? = some (.cells #[A] 149 (0, 0))) : w.cell? ⟨g, 0, none⟩ = some A ∧ w.frozen? ⟨g, 0, none⟩ = false := by
  constructor
  · simp [World.cell?, h]
  · simp [World.frozen?, h]


end Go.Proofs.YthpkekpojhmaaaaGreatDoor

namespace Go.Proofs.YthpkekpojhmaaaaGreatDoor
open Go.RowKit


theorem info5 : ∃ i, Tryz.prog.info? 5 = some i ∧ i.zero = some (.int .u8 0) ∧ i.size = 1 ∧ i.bytes = 1 :=
  ⟨(Tryz.prog.info? 5).get (by kernel_rfl), by kernel_rfl, by kernel_rfl, by kernel_rfl, by kernel_rfl⟩
/-- What a writer of bytes e does. -/
def Puts (g : Nat) (l e : List Int) (w : World) (r : Ending) (w' : World) : Prop := r = .returned (.tuple #[]) ∧ OutAt w' g (l ++ e) ∧ OutTo g w w'
theorem new_lit (w : World) (l : List Int) (h : l.length ≤ 1048576) : (w.alloc (.cells (bNews l).toArray 5)).ownsRow w.heap.size 5 1 (.slice (some ⟨w.heap.size, 0, none⟩) l.length l.length) l.length (bNews l) := by
  refine ⟨by rw [bNews_len]; omega, Or.inr ⟨w.heap.size, l.length, (bNews l).toArray, rfl, Nat.le_refl _, heap_alloc_new _ _, Nat.le_refl _, by unfold maxLen; omega, by simp [bNews], ?_⟩⟩
  simp only [Nat.mul_one]
  rw [← bNews_len l]
  exact List.take_length
theorem lit_cells (w : World) (l : List Int) (h : l.length ≤ 1048576) : ∀ j u, (bNews l)[j]? = some u → (w.alloc (.cells (bNews l).toArray 5)).cell? ((⟨w.heap.size, 0, none⟩ : Addr).add j) = some u := (new_lit w l h).cells rfl
/-- The box behind a growth. -/
theorem box_grown {w w1 : World} {g n : Nat} {v A : Value} {xs : List Value} (hv : w.heap[g]? = some (.cells #[A] 149 (0, 0))) (ho : w.ownsRow (g + 1) 5 1 v n xs) (hs : w.grownBy w1 v.ownBlock) : w1.cell? ⟨g, 0, none⟩ = some A ∧ w1.frozen? ⟨g, 0, none⟩ = false :=
  box_cell (by rw [hs.block g (Array.getElem?_eq_some_iff.1 hv).1 (fun e => by have := ho.lt g e.symm; omega)]; exact hv)
theorem slice_form {w : World} {b n : Nat} {v : Value} {xs : List Value} (h : w.ownsRow b 5 1 v n xs) : ∃ A n c, v = .slice A n c := by
  rcases h.2 with ⟨rfl, _⟩ | ⟨g, cap, cur, rfl, _⟩
  · exact ⟨_, _, _, rfl⟩
  · exact ⟨_, _, _, rfl⟩
set_option maxRecDepth 100000 in
set_option maxHeartbeats 1000000 in
theorem wNumber (g : Nat) (l : List Int) (n : Int) (h0 : 0 ≤ n) (h1 : n < 4294967296) (hl : l.length + 4 ≤ 1048576) (w : World) (ho : OutAt w g l) : Calls Tryz.prog 84 #[.pointer (some ⟨g, 0, none⟩), .int .u32 n] w (Puts g l (be4 n) w) := by
  obtain ⟨i0, hi, hz0, hz1, hz2⟩ := info5
  have hg := ho.lt
  obtain ⟨v, hv, hr⟩ := ho
  have hcell := (box_cell hv).1
  have hfro := (box_cell hv).2
  have e1 : n / 16777216 < 256 := by omega
  have HE : Hid (be4 n = [n / 16777216, n / 65536 % 256, n / 256 % 256, n % 256]) := by
    unfold Hid be4
    congr 1
    omega
  have hc := lit_cells w [n / 16777216, n / 65536 % 256, n / 256 % 256, n % 256] (by simp)
  have hr1 := hr.alloc (.cells (bNews [n / 16777216, n / 65536 % 256, n / 256 % 256, n % 256]).toArray 5)
  have hv1 : Hid ((w.alloc (.cells (bNews [n / 16777216, n / 65536 % 256, n / 256 % 256, n % 256]).toArray 5)).heap[g]? = some (.cells #[v] 149 (0, 0))) := by
    show _ = _
    rw [(lb_alloc (Below.refl _ w) _).block g hg]; exact hv
  have HV : Hid _ := hv
  clear hv
  go_enter Tryz.func84, Tryz.ntmps84
  go_wp2_with (at_builtin; refine wpList_append_own _ rfl (.tmp 8) (.tmp 20) 86 rfl (g + 1) 5 i0 (.int .u8 0) 1 1 Tryz.underlying86 hi hz0 hz1 hz2 rfl (by decide) v l.length (bNews l) rfl hr1 ⟨w.heap.size, 0, none⟩ 4 4 (bNews [n / 16777216, n / 65536 % 256, n / 256 % 256, n % 256]) rfl rfl hc (bNews_one _) (by unfold maxLen; omega) (by omega) (by simp; omega) ?_; intro v' w' hown hgrow hnil; obtain ⟨hcell', hfro'⟩ := box_grown hv1.out hr1 hgrow; have HO : Hid _ := hown; have HG : Hid _ := hgrow; obtain ⟨A', n', c', rfl⟩ := slice_form hown; clear hown hgrow hnil)
  go_end0
  have hq : w'.ownsRow (g + 1) 5 1 (.slice A' n' c') (l.length + 4) (bNews (l ++ be4 n)) := by rw [HE.out, ← bNews_app]; exact HO.out
  obtain ⟨p1, p2⟩ := out_grown hv1.out hr1 HG.out hq (by simp [be4_len])
  exact ⟨rfl, p1, (OutTo.of (lb_alloc (Below.refl _ _) _)).trans p2⟩
theorem wCount (g : Nat) (l : List Int) (n : Int) (hl : l.length + 4 ≤ 1048576) (w : World) (ho : OutAt w g l) : Calls Tryz.prog 119 #[.pointer (some ⟨g, 0, none⟩), .int .i64 n] w (Puts g l (be4 n) w) := by
  have C := wNumber g l (n % 4294967296) (by omega) (by omega) hl w ho
  rw [be4_mod] at C
  go_enter Tryz.func119, Tryz.ntmps119
  go_wp2_with fail
  refine C.mono ?_
  rintro r w1 ⟨rfl, h1, h2⟩
  go_wp2
  go_end0
  exact ⟨rfl, h1, h2⟩
theorem len_app4 (l : List Int) (n : Int) : (l ++ be4 n).length = l.length + 4 := by simp [be4_len]
theorem wLong (g : Nat) (l : List Int) (n : Int) (hl : l.length + 8 ≤ 1048576) (w : World) (ho : OutAt w g l) : Calls Tryz.prog 121 #[.pointer (some ⟨g, 0, none⟩), .int .i64 n] w (Puts g l (be8 n) w) := by
  have hwv : IntKind.u64.wrap n = n % 18446744073709551616 := by simp [IntKind.wrap, IntKind.signed, IntKind.bits]
  have E1 : Hid (be4 (IntKind.u64.wrap n / 4294967296 % 4294967296) = be4 (n / 4294967296)) := by
    show _ = _
    rw [hwv, be4_mod, ← be4_mod (n % 18446744073709551616 / 4294967296), ← be4_mod (n / 4294967296)]
    congr 1
    omega
  have hlen := len_app4 l (n / 4294967296)
  clear hwv
  go_enter Tryz.func121, Tryz.ntmps121
  go_wp2_with fail
  refine (wNumber g l _ ?a1 ?a2 (by omega) _ ho).mono ?_
  case a1 => omega
  case a2 => omega
  rintro r w1 ⟨rfl, h1, h2⟩
  rw [E1.out] at h1
  go_wp2_with fail
  refine (wNumber g _ (n % 4294967296) (by omega) (by omega) (by omega) _ h1).mono ?_
  rintro r w2 ⟨rfl, h3, h4⟩
  rw [be4_mod, List.append_assoc] at h3
  go_wp2
  go_end0
  exact ⟨rfl, h3, h2.trans h4⟩
theorem str_news (s : ByteArray) : Lib.strCells s = bNews (strB s) := by
  unfold Lib.strCells bNews strB
  rw [List.map_map]; rfl
theorem strB_size (s : ByteArray) : (strB s).length = s.size := by
  unfold strB
  rw [List.length_map, Array.length_toList]
  rfl
set_option maxRecDepth 100000 in
set_option maxHeartbeats 1000000 in
theorem wText (g : Nat) (l : List Int) (s : ByteArray) (hl : l.length + 4 + s.size ≤ 1048576) (w : World) (ho : OutAt w g l) : Calls Tryz.prog 117 #[.pointer (some ⟨g, 0, none⟩), .string s] w (Puts g l (textB s) w) := by
  obtain ⟨i0, hi, hz0, hz1, hz2⟩ := info5
  have hlen := len_app4 l s.size
  have HL : Hid (bNews (l ++ be4 s.size) ++ Lib.strCells s = bNews (l ++ textB s) ∧ (l ++ be4 s.size).length + s.size = (l ++ textB s).length) := by
    refine ⟨?_, ?_⟩
    · rw [str_news, bNews_app]; unfold textB; rw [List.append_assoc]
    · unfold textB; simp [be4_len, strB_size]; omega
  go_enter Tryz.func117, Tryz.ntmps117
  go_wp2_with fail
  refine (wCount g l (s.size : Int) (by omega) _ ho).mono ?_
  rintro r w1 ⟨rfl, h1, h2⟩
  have hg := h1.lt
  obtain ⟨v, hv, hr⟩ := h1
  have hcell := (box_cell hv).1
  have hfro := (box_cell hv).2
  have HV : Hid _ := hv
  have H2 : Hid _ := h2
  clear hv h2
  go_wp2_with (at_builtin; refine Lib.wpList_append_own_string _ rfl (.tmp 12) (.tmp 13) 86 9 rfl (g + 1) 5 i0 Tryz.underlying86 Tryz.underlying9 hi hz0 hz1 hz2 v _ _ rfl hr s rfl (by unfold maxLen; omega) (by omega) (by omega) ?_; intro v' w' hown hgrow hnil; obtain ⟨hcell', hfro'⟩ := box_grown HV.out hr hgrow; have HO : Hid _ := hown; have HG : Hid _ := hgrow; obtain ⟨A', n', c', rfl⟩ := slice_form hown; clear hown hgrow hnil)
  go_end0
  have hq : w'.ownsRow (g + 1) 5 1 (.slice A' n' c') ((l ++ be4 s.size).length + s.size) (bNews (l ++ textB s)) := by rw [← HL.out.1]; exact HO.out
  obtain ⟨p1, p2⟩ := out_grown HV.out hr HG.out hq HL.out.2
  exact ⟨rfl, p1, H2.out.trans p2⟩


end Go.Proofs.YthpkekpojhmaaaaGreatDoor

namespace Go.Proofs.YthpkekpojhmaaaaGreatDoor
open Go.RowKit


theorem box3_cell {w : World} {B : Nat} {x y z : Value} {t : TypeId} (h : w.heap[B]? = some (.cells #[x, y, z] t (0, 0))) : w.cell? ⟨B, 0, none⟩ = some x ∧ w.cell? ⟨B, 1, none⟩ = some y ∧ w.cell? ⟨B, 2, none⟩ = some z := by
  refine ⟨?_, ?_, ?_⟩ <;> simp [World.cell?, h]
theorem box2_cell {w : World} {B : Nat} {x y : Value} {t : TypeId} (h : w.heap[B]? = some (.cells #[x, y] t (0, 0))) : w.cell? ⟨B, 0, none⟩ = some x ∧ w.cell? ⟨B, 1, none⟩ = some y := by
  refine ⟨?_, ?_⟩ <;> simp [World.cell?, h]
theorem wSymbol (g : Nat) (l : List Int) (nm : ByteArray) (kd at_ : Int) (hl : l.length + nm.size + 12 ≤ 1048576) (hk : 0 ≤ kd ∧ kd < 128) (w : World) (ho : OutAt w g l) : Calls Tryz.prog 123 #[.pointer (some ⟨g, 0, none⟩), .agg #[.string nm, .int .i8 kd, .int .i64 at_]] w (Puts g l (symB (nm, kd, at_)) w) := by
  have hg := ho.lt
  have ho1 := ho.keep (lb_alloc (Below.refl _ _) (.cells #[.string nm, .int .i8 kd, .int .i64 at_] 131))
  have hb0 : Hid ((w.alloc (.cells #[.string nm, .int .i8 kd, .int .i64 at_] 131)).heap[w.heap.size]? = some (.cells #[.string nm, .int .i8 kd, .int .i64 at_] 131 (0, 0))) := heap_alloc_new _ _
  have HL : Hid ((l ++ textB nm).length = l.length + 4 + nm.size ∧ (l ++ textB nm ++ be4 kd).length = l.length + 8 + nm.size ∧ l ++ textB nm ++ be4 kd ++ be4 at_ = l ++ symB (nm, kd, at_)) := by
    refine ⟨?_, ?_, ?_⟩
    · unfold textB; simp [be4_len, strB_size]; omega
    · unfold textB; simp [be4_len, strB_size]; omega
    · unfold symB; simp
  go_enter Tryz.func123, Tryz.ntmps123
  go_wp2_with fail
  refine (wText g l nm (by omega) _ ho1).mono ?_
  rintro r w1 ⟨rfl, h1, h2⟩
  have hb1 := h2.box hb0.out (by decide) (by omega)
  obtain ⟨a0, a1, a2⟩ := box3_cell hb1
  have HB1 : Hid _ := hb1
  have H2 : Hid _ := h2
  have hL := HL.out.1
  clear hb1 h2
  go_wp2_with fail
  refine (wCount g _ kd (by omega) _ h1).mono ?_
  rintro r w2 ⟨rfl, h3, h4⟩
  have hb2 := h4.box HB1.out (by decide) (by omega)
  obtain ⟨b0, b1, b2⟩ := box3_cell hb2
  have H4 : Hid _ := h4
  have hL2 := HL.out.2.1
  clear hb2 h4
  go_wp2_with fail
  refine (wCount g _ at_ (by omega) _ h3).mono ?_
  rintro r w3 ⟨rfl, h5, h6⟩
  go_wp2
  go_end0
  rw [HL.out.2.2] at h5
  exact ⟨rfl, h5, (OutTo.of (lb_alloc (Below.refl _ _) _)).trans (H2.out.trans (H4.out.trans h6))⟩
theorem wReloc (g : Nat) (l : List Int) (at_ sym : Int) (hl : l.length + 8 ≤ 1048576) (w : World) (ho : OutAt w g l) : Calls Tryz.prog 125 #[.pointer (some ⟨g, 0, none⟩), .agg #[.int .i64 at_, .int .i64 sym]] w (Puts g l (relB (at_, sym)) w) := by
  have hg := ho.lt
  have ho1 := ho.keep (lb_alloc (Below.refl _ _) (.cells #[.int .i64 at_, .int .i64 sym] 83))
  have hb0 : Hid ((w.alloc (.cells #[.int .i64 at_, .int .i64 sym] 83)).heap[w.heap.size]? = some (.cells #[.int .i64 at_, .int .i64 sym] 83 (0, 0))) := heap_alloc_new _ _
  have hL := len_app4 l at_
  have HL : Hid (l ++ be4 at_ ++ be4 sym = l ++ relB (at_, sym)) := by
    show _ = _
    unfold relB; simp
  go_enter Tryz.func125, Tryz.ntmps125
  go_wp2_with fail
  refine (wCount g l at_ (by omega) _ ho1).mono ?_
  rintro r w1 ⟨rfl, h1, h2⟩
  have hb1 := h2.box hb0.out (by decide) (by omega)
  obtain ⟨a0, a1⟩ := box2_cell hb1
  have H2 : Hid _ := h2
  clear hb1 h2
  go_wp2_with fail
  refine (wCount g _ sym (by omega) _ h1).mono ?_
  rintro r w2 ⟨rfl, h3, h4⟩
  go_wp2
  go_end0
  rw [HL.out] at h3
  exact ⟨rfl, h3, (OutTo.of (lb_alloc (Below.refl _ _) _)).trans (H2.out.trans h4)⟩


end Go.Proofs.YthpkekpojhmaaaaGreatDoor

namespace Go.Proofs.YthpkekpojhmaaaaGreatDoor
open Go.RowKit


theorem add0 (j i : Nat) : (⟨j, 0, none⟩ : Addr).add i = ⟨j, i, none⟩ := by
  unfold Addr.add
  split <;> simp_all
theorem conv_own {w : World} {base n : Nat} {v : Value} {l : List Int} (h : w.ownsRow base 5 1 v n (iVals .u8 l)) : (convert 86 9 v).run Tryz.prog w = .ok (.string (strOf l)) w := by
  have hn : l.length = n := by have := h.1; simp [iVals] at this; omega
  rcases h.2 with ⟨rfl, h0⟩ | ⟨j, cap, cur, rfl, hb, hg, hc, _⟩
  · have : l = [] := List.eq_nil_of_length_eq_zero (by omega)
    subst this
    exact run_convert_bytes_nil (w := w) 86 5 Tryz.underlying86 Tryz.underlying5 0 0 9 Tryz.underlying9
  · refine run_convert_bytes_arg (w := w) 86 5 Tryz.underlying86 Tryz.underlying5 j 0 n cap l hn (fun i hi => ?_) 9 Tryz.underlying9
    have := h.cells rfl i (.int .u8 (l.getD i 0)) (by simp [iVals, List.getD, show i < l.length by omega])
    rw [add0] at this
    rw [Nat.zero_add]
    exact this
theorem conv_nil (w : World) : (convert 86 9 (.slice none 0 0)).run Tryz.prog w = .ok (.string ⟨#[]⟩) w := run_convert_bytes_nil (w := w) 86 5 Tryz.underlying86 Tryz.underlying5 0 0 9 Tryz.underlying9
def IsE (u : Value) : Prop := u = .string ⟨#[]⟩
theorem rtext_any (w0 : World) (g : Nat) (A : Option Addr) (c : Nat) (b : List Int) (p : Nat) (w : World) (h : InBy w0 g A c b p w) :
    Calls Tryz.prog 127 #[.pointer (some ⟨g, 0, none⟩)] w (Takes w0 g A c b (tName b ⟨p, 0, 0⟩) (.string) IsE w) := by
  have C := takeBytes 24 (by omega) (by omega) w0 g A c b p w h
  obtain ⟨n1, n2, n3⟩ := name_all b h.areB p
  by_cases hg : (tAll b 24 (tByte b) ⟨p, 0, 0⟩).2.bad = 0
  · obtain ⟨n3, n4⟩ := n3 hg
    have HN : Hid _ := n3
    have HN4 : Hid _ := n4
    have HN1 : Hid _ := n1
    have HG : Hid _ := hg
    clear n1 n2 n3 n4
    go_enter Tryz.func127, Tryz.ntmps127
    go_wp2_with fail
    refine C.mono ?_
    intro r w1 hr
    obtain ⟨v, rfl, ho, hi, hb⟩ := hr.ok hg
    have hcv := conv_own ho
    clear hr hg C
    obtain ⟨As, ns, cs, rfl⟩ := any_form ho
    generalize strOf (tAll b 24 (tByte b) ⟨p, 0, 0⟩).1 = S at *
    go_wp2
    go_ret2
    exact takes_yes hb (HN1.out.trans HG.out) (by rw [HN.out]; rfl) (by rw [HN4.out]; exact hi)
  · have HN1 : Hid _ := n1
    have HN2 : Hid _ := n2
    have HG : Hid _ := hg
    clear n1 n2 n3
    have hcv := conv_nil
    go_enter Tryz.func127, Tryz.ntmps127
    go_wp2_with fail
    refine C.mono ?_
    intro r w1 hr
    obtain ⟨p2, rfl, hi, hb⟩ := hr.err hg
    clear hr hg C
    go_wp2
    go_ret2
    exact takes_no hb (fun e => HG.out (HN1.out.symm.trans e)) rfl HN1.out HN2.out hi
theorem sym_a {b : List Int} {t : Tk} (h : ¬ (tName b t).2.bad = 0) : (tSym b t).2 = (tName b t).2 := by
  unfold tSym
  rw [count_stick h]
  simp only
  rw [count_stick h]
theorem sym_b {b : List Int} {t : Tk} (h : ¬ (tCount b 3 (tName b t).2).2.bad = 0) : (tSym b t).2 = (tCount b 3 (tName b t).2).2 := by
  unfold tSym
  simp only
  rw [count_stick h]
theorem rel_a {b : List Int} {t : Tk} (h : ¬ (tCount b great t).2.bad = 0) : (tRel b t).2 = (tCount b great t).2 := by
  unfold tRel
  simp only
  rw [count_stick h]
theorem plain_sym (b : List Int) (hb : AreB b) : Plain (tSym b) := fun p h => by
  by_cases h1 : (tName b ⟨p, 0, 0⟩).2.bad = 0
  · by_cases h2 : (tCount b 3 (tName b ⟨p, 0, 0⟩).2).2.bad = 0
    · unfold tSym at h ⊢
      simp only at h ⊢
      rw [plain_tk (plain_name b hb) h1] at h2 h ⊢
      rw [plain_tk (plain_count b 3) h2] at h ⊢
      exact plain_count b great _ h
    · rw [sym_b h2] at h; exact absurd h h2
  · rw [sym_a h1] at h; exact absurd h h1
theorem plain_rel (b : List Int) : Plain (tRel b) := fun p h => by
  by_cases h1 : (tCount b great ⟨p, 0, 0⟩).2.bad = 0
  · unfold tRel at h ⊢
    simp only at h ⊢
    rw [plain_tk (plain_count b great) h1] at h ⊢
    exact plain_count b great _ h
  · rw [rel_a h1] at h; exact absurd h h1
theorem InBy.setB {w0 w : World} {g c p : Nat} {A : Option Addr} {b : List Int} (h : InBy w0 g A c b p w) {B : Nat} (hB : B ≠ g) (hB0 : w0.heap.size ≤ B) (i : Nat) (v : Value) : InBy w0 g A c b p (w.setCell ⟨B, i, none⟩ v) :=
  ⟨by rw [Below.heap_setCell _ _ _ _ (by simpa using Ne.symm hB)]; exact h.box, h.ints, h.below.setCell hB0 _, h.le, h.areB, h.len, h.cap, h.pos⟩
theorem but_setB {w w1 : World} {g : Nat} (h : But g w w1) {B : Nat} (hB : w.heap.size ≤ B) (i : Nat) (v : Value) : But g w (w1.setCell ⟨B, i, none⟩ v) :=
  ⟨h.1, h.2.1, h.2.2.1, by simpa [go_sem] using h.2.2.2.1, fun k hk hn => (Below.heap_setCell _ _ _ _ (by show k ≠ B; omega)).trans (h.2.2.2.2 k hk hn)⟩
theorem but_box {w w1 : World} {g : Nat} (h : But g w w1) {B : Nat} {cs : Array Value} {t : TypeId} (hb : w.heap[B]? = some (.cells cs t (0, 0))) (hB : B ≠ g) : w1.heap[B]? = some (.cells cs t (0, 0)) := by
  rw [h.2.2.2.2 B (Array.getElem?_eq_some_iff.1 hb).1 hB]; exact hb
theorem box_set {w : World} {B : Nat} {cs : Array Value} {t : TypeId} (h : w.heap[B]? = some (.cells cs t (0, 0))) (i : Nat) (v : Value) : (w.setCell ⟨B, i, none⟩ v).heap[B]? = some (.cells (cs.setIfInBounds i v) t (0, 0)) := by
  simp [World.setCell, Array.getElem?_modify, h]
theorem box_fro {w : World} {B : Nat} {cs : Array Value} {t : TypeId} (h : w.heap[B]? = some (.cells cs t (0, 0))) (i : Nat) : w.frozen? ⟨B, i, none⟩ = false := by
  simp [World.frozen?, h]
def IsRel (u : Value) : Prop := ∃ x y : Int, u = .agg #[.int .i64 x, .int .i64 y]
def relV (x : Rel) : Value := .agg #[.int .i64 x.1, .int .i64 x.2]
set_option maxRecDepth 100000 in
set_option maxHeartbeats 1000000 in
theorem rreloc_any (w0 : World) (g : Nat) (A : Option Addr) (c : Nat) (b : List Int) (p : Nat) (w : World) (h : InBy w0 g A c b p w) :
    Calls Tryz.prog 136 #[.pointer (some ⟨g, 0, none⟩)] w (Takes w0 g A c b (tRel b ⟨p, 0, 0⟩) relV IsRel w) := by
  have hgw := h.lt
  have hle := h.below.size
  have hin1 := h.keep (lb_alloc (Below.refl _ _) (.cells #[.int .i64 0, .int .i64 0] 83))
  have hbx1 : Hid ((w.alloc (.cells #[.int .i64 0, .int .i64 0] 83)).heap[w.heap.size]? = some (.cells #[.int .i64 0, .int .i64 0] 83 (0, 0))) := heap_alloc_new _ _
  have HB1 : Hid (But g w (w.alloc (.cells #[.int .i64 0, .int .i64 0] 83))) := But.of (lb_alloc (Below.refl _ _) _)
  have C : Calls Tryz.prog 130 #[.pointer (some ⟨g, 0, none⟩), .int .i64 2147483647] (w.alloc (.cells #[.int .i64 0, .int .i64 0] 83)) (Takes w0 g A c b (tCount b great ⟨p, 0, 0⟩) (.int .i64) (IsZ .i64) _) := upto_any 2147483647 (by omega) (by omega) w0 g A c b p _ hin1
  clear h hin1
  by_cases hg : (tCount b great ⟨p, 0, 0⟩).2.bad = 0
  · have HE : Hid (tRel b ⟨p, 0, 0⟩ = (((tCount b great ⟨p, 0, 0⟩).1, (tCount b great ⟨(tCount b great ⟨p, 0, 0⟩).2.pos, 0, 0⟩).1), (tCount b great ⟨(tCount b great ⟨p, 0, 0⟩).2.pos, 0, 0⟩).2)) := by
      show _ = _
      unfold tRel
      rw [← plain_tk (plain_count b great) hg]
    go_enter Tryz.func136, Tryz.ntmps136
    go_wp2_with fail
    refine C.mono ?_
    intro r w2 hr
    obtain ⟨rfl, hin2, hb2⟩ := hr.ok hg
    clear hr hg C
    have hbx2 := but_box hb2 hbx1.out (by omega)
    have HB2 : Hid (But g w w2) := HB1.out.trans hb2
    obtain ⟨d0, d1⟩ := box2_cell hbx2
    have f0 := box_fro hbx2 0
    have f1 := box_fro hbx2 1
    generalize (tCount b great ⟨p, 0, 0⟩).1 = x1 at *
    generalize (tCount b great ⟨p, 0, 0⟩).2.pos = q1 at *
    have HX2 : Hid _ := box_set hbx2 0 (.int .i64 x1)
    have HB3 : Hid _ := but_setB HB2.out (Nat.le_refl _) 0 (.int .i64 x1)
    have C : Calls Tryz.prog 130 #[.pointer (some ⟨g, 0, none⟩), .int .i64 2147483647] (w2.setCell ⟨w.heap.size, 0, none⟩ (.int .i64 x1)) (Takes w0 g A c b (tCount b great ⟨q1, 0, 0⟩) (.int .i64) (IsZ .i64) _) := upto_any 2147483647 (by omega) (by omega) w0 g A c b q1 _ (hin2.setB (by omega) hle 0 (.int .i64 x1))
    have hz2 : w.heap.size < w2.heap.size := by have := hb2.2.2.2.1; simp at this; omega
    clear hb2 hbx2
    by_cases hg : (tCount b great ⟨q1, 0, 0⟩).2.bad = 0
    · go_wp2_with fail
      refine C.mono ?_
      intro r w3 hr
      obtain ⟨rfl, hin3, hb3⟩ := hr.ok hg
      have HG : Hid _ := hg
      clear hr hg C
      have hbx3 := but_box hb3 HX2.out (by omega)
      have HB4 : Hid (But g w w3) := But.trans HB3.out hb3
      obtain ⟨e0, e1⟩ := box2_cell hbx3
      have f0 := box_fro hbx3 0
      have f1 := box_fro hbx3 1
      have hz3 : w.heap.size < w3.heap.size := (Array.getElem?_eq_some_iff.1 hbx3).1
      clear hbx3 hb3
      go_wp2
      exact bodyPost_ret (v := .tuple #[.agg #[.int .i64 x1, .int .i64 (tCount b great ⟨q1, 0, 0⟩).1], .nilIface]) (by simp [results, Tryz.results136, go_sem, e0, e1]) rfl (takes_yes (but_setB (but_setB (but_setB HB4.out (Nat.le_refl _) _ _) (Nat.le_refl _) _ _) (Nat.le_refl _) _ _) (by rw [HE.out]; exact HG.out) (by rw [HE.out]; rfl) (by rw [HE.out]; exact (((hin3.setB (by omega) hle _ _).setB (by omega) hle _ _).setB (by omega) hle _ _)))
    · go_wp2_with fail
      refine C.mono ?_
      intro r w3 hr
      obtain ⟨_, q3, rfl, rfl, hin3, hb3⟩ := hr.err hg
      have HG : Hid _ := hg
      clear hr hg C
      have hbx3 := but_box hb3 HX2.out (by omega)
      have HB4 : Hid (But g w w3) := But.trans HB3.out hb3
      obtain ⟨e0, e1⟩ := box2_cell hbx3
      have f0 := box_fro hbx3 0
      have f1 := box_fro hbx3 1
      have hz3 : w.heap.size < w3.heap.size := (Array.getElem?_eq_some_iff.1 hbx3).1
      clear hbx3 hb3
      generalize (tCount b great ⟨q1, 0, 0⟩).2 = T at *
      go_wp2
      exact bodyPost_ret (v := .tuple #[.agg #[.int .i64 x1, .int .i64 0], .iface 161 (.agg #[.int .i64 T.bad, .int .i64 T.place])]) (by simp [results, Tryz.results136, go_sem, e0, e1]) rfl (takes_no (but_setB (but_setB (but_setB HB4.out (Nat.le_refl _) _ _) (Nat.le_refl _) _ _) (Nat.le_refl _) _ _) (by rw [HE.out]; exact HG.out) ⟨_, _, rfl⟩ (by rw [HE.out]) (by rw [HE.out]) (((hin3.setB (by omega) hle _ _).setB (by omega) hle _ _).setB (by omega) hle _ _))
  · have HE : Hid _ := rel_a hg
    go_enter Tryz.func136, Tryz.ntmps136
    go_wp2_with fail
    refine C.mono ?_
    intro r w2 hr
    obtain ⟨_, q2, rfl, rfl, hin2, hb2⟩ := hr.err hg
    have HG : Hid _ := hg
    clear hr hg C
    have hbx2 := but_box hb2 hbx1.out (by omega)
    have HB2 : Hid (But g w w2) := HB1.out.trans hb2
    obtain ⟨d0, d1⟩ := box2_cell hbx2
    have f0 := box_fro hbx2 0
    have f1 := box_fro hbx2 1
    have hz2 : w.heap.size < w2.heap.size := (Array.getElem?_eq_some_iff.1 hbx2).1
    generalize (tCount b great ⟨p, 0, 0⟩).2 = T at *
    clear hbx2 hb2
    go_wp2
    exact bodyPost_ret (v := .tuple #[.agg #[.int .i64 0, .int .i64 0], .iface 161 (.agg #[.int .i64 T.bad, .int .i64 T.place])]) (by simp [results, Tryz.results136, go_sem, d0, d1]) rfl (takes_no (but_setB (but_setB (but_setB HB2.out (Nat.le_refl _) _ _) (Nat.le_refl _) _ _) (Nat.le_refl _) _ _) (by rw [HE.out]; exact HG.out) ⟨_, _, rfl⟩ (by rw [HE.out]) (by rw [HE.out]) (((hin2.setB (by omega) hle _ _).setB (by omega) hle _ _).setB (by omega) hle _ _))
def IsSym (u : Value) : Prop := ∃ (x : ByteArray) (y z : Int), u = .agg #[.string x, .int .i8 y, .int .i64 z]
def symV (x : Sym) : Value := .agg #[.string x.1, .int .i8 x.2.1, .int .i64 x.2.2]
set_option maxRecDepth 100000 in
set_option maxHeartbeats 1000000 in
theorem rsymbol_any (w0 : World) (g : Nat) (A : Option Addr) (c : Nat) (b : List Int) (p : Nat) (w : World) (h : InBy w0 g A c b p w) :
    Calls Tryz.prog 134 #[.pointer (some ⟨g, 0, none⟩)] w (Takes w0 g A c b (tSym b ⟨p, 0, 0⟩) symV IsSym w) := by
  have hgw := h.lt
  have hle := h.below.size
  have hab := h.areB
  have hin1 := h.keep (lb_alloc (Below.refl _ _) (.cells #[.string ⟨#[]⟩, .int .i8 0, .int .i64 0] 131))
  have hbx1 : Hid ((w.alloc (.cells #[.string ⟨#[]⟩, .int .i8 0, .int .i64 0] 131)).heap[w.heap.size]? = some (.cells #[.string ⟨#[]⟩, .int .i8 0, .int .i64 0] 131 (0, 0))) := heap_alloc_new _ _
  have HB1 : Hid (But g w (w.alloc (.cells #[.string ⟨#[]⟩, .int .i8 0, .int .i64 0] 131))) := But.of (lb_alloc (Below.refl _ _) _)
  have C := rtext_any w0 g A c b p _ hin1
  clear h hin1
  by_cases hg : (tName b ⟨p, 0, 0⟩).2.bad = 0
  · have e1 := plain_tk (plain_name b hab) hg
    have HA2 : Hid (¬ (tCount b 3 ⟨(tName b ⟨p, 0, 0⟩).2.pos, 0, 0⟩).2.bad = 0 → (tSym b ⟨p, 0, 0⟩).2 = (tCount b 3 ⟨(tName b ⟨p, 0, 0⟩).2.pos, 0, 0⟩).2) := fun h => by
      rw [← e1] at h ⊢
      exact sym_b h
    have HE : Hid ((tCount b 3 ⟨(tName b ⟨p, 0, 0⟩).2.pos, 0, 0⟩).2.bad = 0 → tSym b ⟨p, 0, 0⟩ = (((tName b ⟨p, 0, 0⟩).1, (tCount b 3 ⟨(tName b ⟨p, 0, 0⟩).2.pos, 0, 0⟩).1, (tCount b great ⟨(tCount b 3 ⟨(tName b ⟨p, 0, 0⟩).2.pos, 0, 0⟩).2.pos, 0, 0⟩).1), (tCount b great ⟨(tCount b 3 ⟨(tName b ⟨p, 0, 0⟩).2.pos, 0, 0⟩).2.pos, 0, 0⟩).2)) := fun h => by
      have e2 := plain_tk (plain_count b 3) h
      rw [← e2, ← e1]
      rfl
    clear e1
    go_enter Tryz.func134, Tryz.ntmps134
    go_wp2_with fail
    refine C.mono ?_
    intro r w2 hr
    obtain ⟨rfl, hin2, hb2⟩ := hr.ok hg
    clear hr hg C
    have hbx2 := but_box hb2 hbx1.out (by omega)
    have HB2 : Hid (But g w w2) := HB1.out.trans hb2
    obtain ⟨d0, d1, d2⟩ := box3_cell hbx2
    have f0 := box_fro hbx2 0
    have f1 := box_fro hbx2 1
    have f2 := box_fro hbx2 2
    generalize (tName b ⟨p, 0, 0⟩).1 = x1 at *
    generalize (tName b ⟨p, 0, 0⟩).2.pos = q1 at *
    have HX2 : Hid ((w2.setCell ⟨w.heap.size, 0, none⟩ (.string x1)).heap[w.heap.size]? = some (.cells #[.string x1, .int .i8 0, .int .i64 0] 131 (0, 0))) := box_set hbx2 0 (.string x1)
    have HB3 : Hid _ := but_setB HB2.out (Nat.le_refl _) 0 (.string x1)
    have C := upto_any 3 (by omega) (by omega) w0 g A c b q1 _ (hin2.setB (by omega) hle 0 (.string x1))
    have hz2 : w.heap.size < w2.heap.size := (Array.getElem?_eq_some_iff.1 hbx2).1
    clear hb2 hbx2
    by_cases hg : (tCount b 3 ⟨q1, 0, 0⟩).2.bad = 0
    · have HE2 : Hid _ := HE.out hg
      obtain ⟨r1, r2⟩ := count_range hab hg
      clear HE HA2
      go_wp2_with fail
      refine C.mono ?_
      intro r w3 hr
      obtain ⟨rfl, hin3, hb3⟩ := hr.ok hg
      clear hr hg C
      have hbx3 := but_box hb3 HX2.out (by omega)
      have HB4 : Hid (But g w w3) := But.trans HB3.out hb3
      obtain ⟨e0, e1, e2⟩ := box3_cell hbx3
      have f0 := box_fro hbx3 0
      have f1 := box_fro hbx3 1
      have f2 := box_fro hbx3 2
      have hz3 : w.heap.size < w3.heap.size := (Array.getElem?_eq_some_iff.1 hbx3).1
      generalize (tCount b 3 ⟨q1, 0, 0⟩).1 = x2 at *
      generalize (tCount b 3 ⟨q1, 0, 0⟩).2.pos = q2 at *
      have HX3 : Hid ((w3.setCell ⟨w.heap.size, 1, none⟩ (.int .i8 x2)).heap[w.heap.size]? = some (.cells #[.string x1, .int .i8 x2, .int .i64 0] 131 (0, 0))) := box_set hbx3 1 (.int .i8 x2)
      have HB5 : Hid _ := but_setB HB4.out (Nat.le_refl _) 1 (.int .i8 x2)
      have C : Calls Tryz.prog 130 #[.pointer (some ⟨g, 0, none⟩), .int .i64 2147483647] (w3.setCell ⟨w.heap.size, 1, none⟩ (.int .i8 x2)) (Takes w0 g A c b (tCount b great ⟨q2, 0, 0⟩) (.int .i64) (IsZ .i64) _) := upto_any 2147483647 (by omega) (by omega) w0 g A c b q2 _ (hin3.setB (by omega) hle 1 (.int .i8 x2))
      clear hb3 hbx3
      by_cases hg : (tCount b great ⟨q2, 0, 0⟩).2.bad = 0
      · go_wp2_with fail
        refine C.mono ?_
        intro r w4 hr
        obtain ⟨rfl, hin4, hb4⟩ := hr.ok hg
        have HG : Hid _ := hg
        clear hr hg C
        have hbx4 := but_box hb4 HX3.out (by omega)
        have HB6 : Hid (But g w w4) := But.trans HB5.out hb4
        obtain ⟨g0, g1, g2⟩ := box3_cell hbx4
        have f0 := box_fro hbx4 0
        have f1 := box_fro hbx4 1
        have f2 := box_fro hbx4 2
        have hz4 : w.heap.size < w4.heap.size := (Array.getElem?_eq_some_iff.1 hbx4).1
        clear hbx4 hb4
        go_wp2
        exact bodyPost_ret (v := .tuple #[.agg #[.string x1, .int .i8 x2, .int .i64 (tCount b great ⟨q2, 0, 0⟩).1], .nilIface]) (by simp [results, Tryz.results134, go_sem, g0, g1, g2]) rfl (takes_yes (but_setB (but_setB (but_setB (but_setB HB6.out (Nat.le_refl _) _ _) (Nat.le_refl _) _ _) (Nat.le_refl _) _ _) (Nat.le_refl _) _ _) (by rw [HE2.out]; exact HG.out) (by rw [HE2.out]; rfl) (by rw [HE2.out]; exact ((((hin4.setB (by omega) hle _ _).setB (by omega) hle _ _).setB (by omega) hle _ _).setB (by omega) hle _ _)))
      · go_wp2_with fail
        refine C.mono ?_
        intro r w4 hr
        obtain ⟨_, q4, rfl, rfl, hin4, hb4⟩ := hr.err hg
        have HG : Hid _ := hg
        clear hr hg C
        have hbx4 := but_box hb4 HX3.out (by omega)
        have HB6 : Hid (But g w w4) := But.trans HB5.out hb4
        obtain ⟨g0, g1, g2⟩ := box3_cell hbx4
        have f0 := box_fro hbx4 0
        have f1 := box_fro hbx4 1
        have f2 := box_fro hbx4 2
        have hz4 : w.heap.size < w4.heap.size := (Array.getElem?_eq_some_iff.1 hbx4).1
        clear hbx4 hb4
        generalize (tCount b great ⟨q2, 0, 0⟩).2 = T at *
        go_wp2
        exact bodyPost_ret (v := .tuple #[.agg #[.string x1, .int .i8 x2, .int .i64 0], .iface 161 (.agg #[.int .i64 T.bad, .int .i64 T.place])]) (by simp [results, Tryz.results134, go_sem, g0, g1, g2]) rfl (takes_no (but_setB (but_setB (but_setB (but_setB HB6.out (Nat.le_refl _) _ _) (Nat.le_refl _) _ _) (Nat.le_refl _) _ _) (Nat.le_refl _) _ _) (by rw [HE2.out]; exact HG.out) ⟨_, _, _, rfl⟩ (by rw [HE2.out]) (by rw [HE2.out]) ((((hin4.setB (by omega) hle _ _).setB (by omega) hle _ _).setB (by omega) hle _ _).setB (by omega) hle _ _))
    · have HE2 : Hid _ := HA2.out hg
      clear HE HA2
      go_wp2_with fail
      refine C.mono ?_
      intro r w3 hr
      obtain ⟨_, q3, rfl, rfl, hin3, hb3⟩ := hr.err hg
      have HG : Hid _ := hg
      clear hr hg C
      have hbx3 := but_box hb3 HX2.out (by omega)
      have HB4 : Hid (But g w w3) := But.trans HB3.out hb3
      obtain ⟨e0, e1, e2⟩ := box3_cell hbx3
      have f0 := box_fro hbx3 0
      have f1 := box_fro hbx3 1
      have f2 := box_fro hbx3 2
      have hz3 : w.heap.size < w3.heap.size := (Array.getElem?_eq_some_iff.1 hbx3).1
      clear hb3 hbx3
      generalize (tCount b 3 ⟨q1, 0, 0⟩).2 = T at *
      go_wp2
      exact bodyPost_ret (v := .tuple #[.agg #[.string x1, .int .i8 0, .int .i64 0], .iface 161 (.agg #[.int .i64 T.bad, .int .i64 T.place])]) (by simp [results, Tryz.results134, go_sem, e0, e1, e2]) rfl (takes_no (but_setB (but_setB (but_setB HB4.out (Nat.le_refl _) _ _) (Nat.le_refl _) _ _) (Nat.le_refl _) _ _) (by rw [HE2.out]; exact HG.out) ⟨_, _, _, rfl⟩ (by rw [HE2.out]) (by rw [HE2.out]) (((hin3.setB (by omega) hle _ _).setB (by omega) hle _ _).setB (by omega) hle _ _))
  · have HE : Hid _ := sym_a hg
    go_enter Tryz.func134, Tryz.ntmps134
    go_wp2_with fail
    refine C.mono ?_
    intro r w2 hr
    obtain ⟨_, q2, rfl, rfl, hin2, hb2⟩ := hr.err hg
    have HG : Hid _ := hg
    clear hr hg C
    have hbx2 := but_box hb2 hbx1.out (by omega)
    have HB2 : Hid (But g w w2) := HB1.out.trans hb2
    obtain ⟨d0, d1, d2⟩ := box3_cell hbx2
    have f0 := box_fro hbx2 0
    have f1 := box_fro hbx2 1
    have f2 := box_fro hbx2 2
    have hz2 : w.heap.size < w2.heap.size := (Array.getElem?_eq_some_iff.1 hbx2).1
    generalize (tName b ⟨p, 0, 0⟩).2 = T at *
    clear hbx2 hb2
    go_wp2
    exact bodyPost_ret (v := .tuple #[.agg #[.string ⟨#[]⟩, .int .i8 0, .int .i64 0], .iface 161 (.agg #[.int .i64 T.bad, .int .i64 T.place])]) (by simp [results, Tryz.results134, go_sem, d0, d1, d2]) rfl (takes_no (but_setB (but_setB (but_setB (but_setB HB2.out (Nat.le_refl _) _ _) (Nat.le_refl _) _ _) (Nat.le_refl _) _ _) (Nat.le_refl _) _ _) (by rw [HE.out]; exact HG.out) ⟨_, _, _, rfl⟩ (by rw [HE.out]) (by rw [HE.out]) ((((hin2.setB (by omega) hle _ _).setB (by omega) hle _ _).setB (by omega) hle _ _).setB (by omega) hle _ _))


end Go.Proofs.YthpkekpojhmaaaaGreatDoor
