/-
  Where the listed table lies as the program's text lays it; a world that meets this; the arguments opened. Of of package block, by what it returns; the list has at most 2^20 items. Rows of sets of registers in memory. A text in memory: has, from, inOneBlock.
-/
import Derived.Test.YtmlhnnmelopleaaGreatDoorProg
import Derived.WalkKit
import Derived.WalkSpells
import Derived.WalkLawsBesides
import Derived.RowKit3
import Derived.Below
import Derived.Deep.QuietTactic
import Derived.BigQuiet
import Derived.WalkSmall
import Derived.Laws.Rows
import Derived.Test.YtmlhnnmelopleaaGreatDoorPs01
import Derived.Test.YtmlhnnmelopleaaGreatDoorPs12
import Derived.Stop.LaidErr
import Derived.LaidSub
import Derived.LaidMore
import Derived.LaidHandle
import Derived.MakeChecks
import Derived.Deep.Strs
import Derived.Test.YtmlhnnmelopleaaGreatDoorPs04
import Derived.Test.YtmlhnnmelopleaaGreatDoorPs10
import Derived.Deep.SlicePairs
namespace Go.Proofs.YtmlhnnmelopleaaGreatDoor
open Go.ChangeShapes Go.WideShapes Go.ChangeAt Go.RowKit Go.Joins

abbrev laid1 : List (String × DataW Unit) := Rows.classKindsRow.laid
theorem tz_same : (Rows.laid_math_bits_deBruijn32tab : DataW Unit) = Lib.tabData .u8 tzTab := by kernel_rfl
theorem tz_of_laid {W : World} (h : laidMetH Tryz.prog laid1 W) : Tz W := by
  rw [MakeChecks.laidMetH_plain _ _ _ (by kernel_rfl)] at h
  have h2 : laidMet Tryz.prog [("math/bits.deBruijn32tab", Rows.laid_math_bits_deBruijn32tab)] W := h
  rw [tz_same] at h2
  exact Lib.tabIs_of_head gTz (t := 151) (by kernel_rfl) Tryz.underlying151 Tryz.underlying5 (by kernel_rfl) (by kernel_rfl) h2
theorem door1_met (os : Os) (args : Array Value) : laidMetH Tryz.prog laid1 ((World.doorLaid Tryz.prog 14 os).forCall (fun _ _ => 0) ⟨#[], args, []⟩).memory :=
  laidMetH_of_parts3 (fuel := 8) (laidMet_of_run' 8 (by kernel_rfl) (by kernel_rfl)) (by kernel_rfl) (by kernel_rfl)
set_option maxRecDepth 100000 in
theorem openNums {H : Type} {enc : TypeId × Value → H} {W : World} {b0 base : Nat} {sp : Nat → Bool} {held : Bool} {v : Value} {d : DataW H} {p : List MemPlace} (hv : Value.okWide Tryz.prog W .any b0 32 v) (h : DataW.Trod enc Tryz.prog W base sp held 32 v d p) :
    ∃ (O : Option Addr) (cap : Nat) (zs : List Int), v = .slice O zs.length cap ∧ IntsAt W O .i64 zs ∧ (∀ i, i < zs.length → nth zs i ≤ 9223372036854775807) ∧ (O = none → cap = 0) := by
  obtain ⟨a, len, c, rfl⟩ := okWide_slice Tryz.underlying32 hv
  obtain ⟨fuel, hf⟩ := h
  obtain ⟨O, cap, zs, e, k, hl, hwf, u⟩ := open_i Tryz.underlying32 Tryz.underlying3 (by kernel_rfl) hf
  refine ⟨O, cap, zs, by simpa [Value.cells] using e, k, fun i hi => ?_, u⟩
  have := hwf i hi
  simp [Lit.wf, IntKind.min, IntKind.max, IntKind.signed, IntKind.bits] at this
  omega
set_option maxRecDepth 100000 in
theorem openWds {H : Type} {enc : TypeId × Value → H} {W : World} {b0 base : Nat} {sp : Nat → Bool} {held : Bool} {v : Value} {d : DataW H} {p : List MemPlace} (hv : Value.okWide Tryz.prog W .any b0 22 v) (h : DataW.Trod enc Tryz.prog W base sp held 22 v d p) :
    ∃ (O : Option Addr) (cap : Nat) (zs : List Int), v = .slice O zs.length cap ∧ IntsAt W O .u32 zs ∧ (∀ i, i < zs.length → 0 ≤ nth zs i ∧ nth zs i < 4294967296) ∧ (O = none → cap = 0) := by
  obtain ⟨a, len, c, rfl⟩ := okWide_slice Tryz.underlying22 hv
  obtain ⟨fuel, hf⟩ := h
  obtain ⟨O, cap, zs, e, k, hl, hwf, u⟩ := open_i Tryz.underlying22 Tryz.underlying63 (by kernel_rfl) hf
  refine ⟨O, cap, zs, by simpa [Value.cells] using e, k, fun i hi => ?_, u⟩
  have := hwf i hi
  simp [Lit.wf, IntKind.min, IntKind.max, IntKind.signed, IntKind.bits] at this
  omega

end Go.Proofs.YtmlhnnmelopleaaGreatDoor

namespace Go.Proofs.YtmlhnnmelopleaaGreatDoor
open Go.RowKit

set_option maxRecDepth 100000 in
set_option maxHeartbeats 2000000 in
theorem of_any (A : Option Addr) (ca : Nat) (zs : List Rel) (p : Int) (w : World) (hA : RelsAt w A zs) (hz : zs.length ≤ 1048576) :
    Calls Tryz.prog 80 #[.slice A zs.length ca, .int .i64 p] w fun e w' => e = .returned (.int .i64 (ofB zs p)) ∧ Below w.heap.size w w' := by
  have HA : Hid (RelsAt w A zs) := hA
  clear hA
  go_enter Tryz.func80, Tryz.ntmps80
  go_wp2
  go_loopw [9] (fun i wr => ∃ k : Nat, i = .int .i64 k ∧ k ≤ zs.length ∧ Hid (∀ j, j < k → hasB zs p j = false) ∧ Hid (Below w.heap.size w wr)) (fun i _ => zs.length - (intOf i).toNat)
  case atStart => exact ⟨0, rfl, Nat.zero_le _, fun j hj => absurd hj (Nat.not_lt_zero _), Below.refl _ _⟩
  case round =>
    obtain ⟨k, rfl, hk, HN, HB⟩ := hrel
    by_cases hlt : k < zs.length
    · obtain ⟨a, rfl, c0, c1⟩ := HA.out k hlt
      have p0 : wr.cell? (a.add (k * 2)) = some (.int .i64 (rAt zs k)) := lkeep HB.out c0
      have p1 : wr.cell? ⟨(a.add (k * 2)).block, (a.add (k * 2)).off + 1, none⟩ = some (.int .i64 (rSym zs k)) := lkeep HB.out c1
      clear c0 c1
      have HH : Hid (hasB zs p k = decide (rAt zs k ≤ p ∧ p < rSym zs k)) := rfl
      generalize rAt zs k = x at *
      generalize rSym zs k = y at *
      by_cases h0 : x ≤ p
      · by_cases h1 : p < y
        · have HV : Hid (ofB zs p = (k : Int)) := of_at hlt HN.out (by rw [HH.out, decide_eq_true_eq]; exact ⟨h0, h1⟩)
          go_wp2
          go_ret
          exact ⟨by rw [HV.out]; rfl, lb_alloc HB.out _⟩
        · have HV : Hid (hasB zs p k = false) := by rw [Hid, HH.out, decide_eq_false_iff_not]; exact fun h => h1 h.2
          go_wp2
          go_roundw
          case rel => exact ⟨k + 1, by go_num, by omega, fun j hj => by
            by_cases e : j = k
            · rw [e]; exact HV.out
            · exact HN.out j (by omega), lb_alloc HB.out _⟩
          case measure => simp [intOf]; omega
      · have hd : decide (x ≤ p) = false := by simpa using h0
        have HV : Hid (hasB zs p k = false) := by rw [Hid, HH.out, decide_eq_false_iff_not]; exact fun h => h0 h.1
        go_wp2
        go_roundw
        case rel => exact ⟨k + 1, by go_num, by omega, fun j hj => by
          by_cases e : j = k
          · rw [e]; exact HV.out
          · exact HN.out j (by omega), lb_alloc HB.out _⟩
        case measure => simp [intOf]; omega
    · obtain rfl : k = zs.length := by omega
      have HV : Hid (ofB zs p = -1) := of_no HN.out
      go_wp2
      go_ret
      exact ⟨by rw [HV.out]; rfl, HB.out⟩


end Go.Proofs.YtmlhnnmelopleaaGreatDoor

namespace Go.Proofs.YtmlhnnmelopleaaGreatDoor
open Go.RowKit

/-- A row of sets, each as a function tells. -/
def UsAt (w : World) (g n : Nat) (F : Int → Nat) : Prop := ∃ cs : Array Value, w.heap[g]? = some (.cells cs 85 (0, 0)) ∧ cs.size = n ∧ ∀ i : Nat, i < n → cs[i]? = some (.int .u16 ((F (i : Int) : Nat) : Int))
section
variable {w w1 : World} {g n : Nat} {F : Int → Nat}
theorem UsAt.lt (h : UsAt w g n F) : g < w.heap.size := by
  obtain ⟨cs, h1, _⟩ := h
  exact (Array.getElem?_eq_some_iff.1 h1).1
theorem UsAt.keep (h : UsAt w g n F) (hb : Below w.heap.size w w1) : UsAt w1 g n F := by
  obtain ⟨cs, h1, h2⟩ := h
  exact ⟨cs, by rw [hb.block g (Array.getElem?_eq_some_iff.1 h1).1]; exact h1, h2⟩
theorem UsAt.cell (h : UsAt w g n F) {x : Int} (h0 : 0 ≤ x) (h1 : x < n) : w.cell? ⟨g, x.toNat, none⟩ = some (.int .u16 ((F x : Nat) : Int)) := by
  obtain ⟨cs, hb, hs, hc⟩ := h
  have := hc x.toNat (by omega)
  rw [show ((x.toNat : Nat) : Int) = x by omega] at this
  simp [World.cell?, hb, this]
theorem UsAt.cellN (h : UsAt w g n F) {x : Nat} (h1 : x < n) : w.cell? ⟨g, x, none⟩ = some (.int .u16 ((F (x : Int) : Nat) : Int)) := by
  obtain ⟨cs, hb, hs, hc⟩ := h
  simp [World.cell?, hb, hc x h1]
theorem UsAt.fro (h : UsAt w g n F) (x : Nat) : w.frozen? ⟨g, x, none⟩ = false := by
  obtain ⟨cs, hb, _⟩ := h
  simp [World.frozen?, hb]
theorem UsAt.put (h : UsAt w g n F) {k : Nat} (_hk : k < n) (v : Nat) : UsAt (w.setCell ⟨g, k, none⟩ (.int .u16 (v : Int))) g n (putS F (k : Int) v) := by
  obtain ⟨cs, hb, hs, hc⟩ := h
  refine ⟨cs.setIfInBounds k (.int .u16 (v : Int)), box_set hb _ _, by simpa using hs, fun i hi => ?_⟩
  rw [Array.getElem?_setIfInBounds]
  by_cases e : k = i
  · rw [if_pos e, if_pos (by omega), ← e, putS_here]
  · rw [if_neg e, hc i hi, putS_else _ _ (by omega)]
theorem UsAt.other (h : UsAt w g n F) {g2 i : Nat} {v : Value} (hne : g ≠ g2) : UsAt (w.setCell ⟨g2, i, none⟩ v) g n F := by
  obtain ⟨cs, hb, hs⟩ := h
  exact ⟨cs, by rw [Below.heap_setCell _ _ _ _ hne]; exact hb, hs⟩
theorem UsAt.fit (h : UsAt w g n F) {G : Int → Nat} (e : ∀ i : Nat, i < n → F (i : Int) = G (i : Int)) : UsAt w g n G := by
  obtain ⟨cs, hb, hs, hc⟩ := h
  exact ⟨cs, hb, hs, fun i hi => by rw [← e i hi]; exact hc i hi⟩
end
theorem infoU16 : ∃ i, Tryz.prog.info? 85 = some i ∧ i.zero = some (.int .u16 0) ∧ i.size = 1 ∧ i.bytes = 2 :=
  ⟨(Tryz.prog.info? 85).get (by kernel_rfl), by kernel_rfl, by kernel_rfl, by kernel_rfl, by kernel_rfl⟩
theorem make_us (n : Nat) (hn : n ≤ 1048576) (w : World) : (Instr.makeSlice 45 (.int .i64 (n : Int)) (.int .i64 (n : Int))).run Tryz.prog w = .ok (.slice (some ⟨w.heap.size, 0, none⟩) n n) (w.alloc (.cells (madeCells #[.int .u16 0] n) 85)) := by
  obtain ⟨i, hi, hz, hs, hb⟩ := infoU16
  have h := run_makeSlice (P := Tryz.prog) w 45 85 i _ Tryz.underlying45 hi hz .i64 .i64 (n : Int) (n : Int) (by omega) (by omega) (by rw [hs]; omega) (by rw [hb]; omega) (by omega)
  rw [hs, show ((n : Int)).toNat = n by omega, Nat.mul_one] at h
  exact h
theorem UsAt.made (w : World) (n : Nat) : UsAt (w.alloc (.cells (madeCells #[.int .u16 0] n) 85)) w.heap.size n zeroS :=
  ⟨_, heap_alloc_new _ _, by simp [madeCells], fun i hi => by simp [madeCells, hi, zeroS, Nat.mod_one]⟩
/-- What a row of sets holds, read off the world. -/
def cellU (w : World) (g : Nat) (x : Int) : Nat := match w.cell? ⟨g, x.toNat, none⟩ with
  | some (.int _ v) => v.toNat
  | _ => 0
theorem UsAt.low {w : World} {g n : Nat} {F : Int → Nat} (h : UsAt w g n F) : lowS (cellU w g) n = lowS F n := lowS_same fun i hi => by
  unfold cellU
  rw [h.cell (x := (i : Int)) (by omega) (by omega)]
  simp
/-- The sets as a list. -/
def setL (F : Int → Nat) (n : Nat) : List Int := (List.range n).map fun (i : Nat) => ((F (i : Int) : Nat) : Int)
theorem setL_len (F : Int → Nat) (n : Nat) : (setL F n).length = n := by simp [setL]
theorem setL_nth {F : Int → Nat} {n i : Nat} (h : i < n) : nth (setL F n) i = ((F (i : Int) : Nat) : Int) := by simp [nth, setL, h]
theorem setL_same {F G : Int → Nat} {n : Nat} (h : ∀ i : Nat, i < n → F (i : Int) = G (i : Int)) : setL F n = setL G n := by
  unfold setL
  refine List.map_congr_left fun i hi => ?_
  rw [h i (by simpa using hi)]
theorem UsAt.ints {w : World} {g n : Nat} {F : Int → Nat} (h : UsAt w g n F) : IntsAt w (some ⟨g, 0, none⟩) .u16 (setL F n) := fun i hi => by
  rw [setL_len] at hi
  exact ⟨_, rfl, by rw [add0, setL_nth hi]; exact h.cellN hi⟩
/-- What Blocks answers. -/
def SetQ (L : List (List Int)) (R W : Nat → Nat) (n : Nat) (w : World) (e : Ending) (w' : World) : Prop := ∃ (g1 g2 : Nat) (F G : Int → Nat), e = .returned (.tuple #[.slice (some ⟨g1, 0, none⟩) n n, .slice (some ⟨g2, 0, none⟩) n n]) ∧ UsAt w' g1 n F ∧ UsAt w' g2 n G ∧ Lst L R W n F G ∧ (∀ x, G x < 65536) ∧ Below w.heap.size w w'
def SetP (text : List Int) (ent : Int) (w : World) (e : Ending) (w' : World) : Prop := SetQ (edgT text ent (blkL text ent).length) (blR text ent) (blW text ent) (blkL text ent).length w e w'
/-- What Behind answers. -/
def BhP (text : List Int) (ent : Int) (w : World) (e : Ending) (w' : World) : Prop := ∃ (g : Nat) (H : Int → Nat), e = .returned (.slice (some ⟨g, 0, none⟩) text.length text.length) ∧ UsAt w' g text.length H ∧ BhI text ent H ∧ Below w.heap.size w w'
theorem cut_run (A : Addr) (n c : Nat) {f t : Int} (h0 : 0 ≤ f) (h1 : f < t) (h2 : t ≤ (n : Int)) (h3 : n ≤ c) (w : World) : (Instr.slice 22 (.slice (some A) n c) (some (.int .i64 f)) (some (.int .i64 t)) none).run Tryz.prog w = .ok (.slice (some (A.add f.toNat)) (t - f).toNat (c - f.toNat)) w := by
  rw [run_slice_lh (P := Tryz.prog) w 22 (some A) n c (by kernel_rfl) .i64 .i64 f t h0 (by omega) (by omega)]
  rw [show (sizeOf (Tryz.prog.elem 22)).run Tryz.prog w = .ok 1 w by kernel_rfl]
  show Result.ok (sliced (some A) f.toNat t.toNat c 1) w = _
  unfold sliced
  simp
  omega



end Go.Proofs.YtmlhnnmelopleaaGreatDoor

namespace Go.Proofs.YtmlhnnmelopleaaGreatDoor
open Go.RowKit

/-- A text that was made. -/
structure TxAt (w : World) (B : Nat) (a1 : Addr) (A2 Ab : Option Addr) (c1 ml c2 cb : Nat) (ent : Int) (text : List Int) : Prop where
  c0 : w.cell? ⟨B, 0, none⟩ = some (.slice (some a1) text.length c1)
  c1 : w.cell? ⟨B, 1, none⟩ = some (.int .i64 ent)
  c2 : w.cell? ⟨B, 2, none⟩ = some (.slice A2 ml c2)
  c3 : w.cell? ⟨B, 3, none⟩ = some (.slice Ab (blkL text ent).length cb)
  txt : IntsAt w (some a1) .u32 text
  blk : RelsAt w Ab (blkL text ent)
theorem TxAt.keep {w w' : World} {B : Nat} {a1 : Addr} {A2 Ab : Option Addr} {c1 ml c2 cb : Nat} {ent : Int} {text : List Int} (h : TxAt w B a1 A2 Ab c1 ml c2 cb ent text) (hb : Below w.heap.size w w') : TxAt w' B a1 A2 Ab c1 ml c2 cb ent text :=
  ⟨lkeep hb h.c0, lkeep hb h.c1, lkeep hb h.c2, lkeep hb h.c3, h.txt.keep hb, h.blk.keep hb⟩
theorem ints_cut {w : World} {a : Addr} {text : List Int} {p n : Nat} (h : IntsAt w (some a) .u32 text) (hp : p + n ≤ text.length) : IntsAt w (some (a.add p)) .u32 (cutN text p n) := fun i hi => by
  rw [cutN_len hp] at hi
  obtain ⟨x, e, q⟩ := h (p + i) (by omega)
  obtain rfl := Option.some.inj e
  exact ⟨_, rfl, by rw [Deep.add_add, cutN_nth hi]; exact q⟩
theorem range_cut {text : List Int} {p n : Nat} (h : ∀ i, i < text.length → 0 ≤ nth text i ∧ nth text i < 4294967296) (hp : p + n ≤ text.length) : ∀ i, i < (cutN text p n).length → 0 ≤ nth (cutN text p n) i ∧ nth (cutN text p n) i < 4294967296 := fun i hi => by
  rw [cutN_len hp] at hi
  rw [cutN_nth hi]
  exact h _ (by omega)
theorem cutN_run (A : Addr) (N c p n : Nat) (h1 : 0 < n) (h2 : p + n ≤ N) (h3 : N ≤ c) (w : World) : (Instr.slice 22 (.slice (some A) N c) (some (.int .i64 (p : Int))) (some (.int .i64 ((p : Int) + (n : Int)))) none).run Tryz.prog w = .ok (.slice (some (A.add p)) n (c - p)) w := by
  have := cut_run A N c (f := (p : Int)) (t := (p : Int) + (n : Int)) (by omega) (by omega) (by omega) h3 w
  rw [show ((p : Int)).toNat = p by omega, show ((p : Int) + (n : Int) - (p : Int)).toNat = n by omega] at this
  exact this
theorem of_some {l : List Rel} {p : Int} (h : ∃ i, i < l.length ∧ hasB l p i = true) : ∃ k : Nat, k < l.length ∧ ofB l p = (k : Int) := by
  obtain ⟨i, hi, e⟩ := h
  induction i using Nat.strongRecOn with
  | _ i ih =>
    by_cases k : ∀ j, j < i → hasB l p j = false
    · exact ⟨i, hi, of_at hi k e⟩
    · have : ∃ j, j < i ∧ hasB l p j = true := by
        refine Classical.byContradiction fun hn => k fun j hj => ?_
        cases hb : hasB l p j with
        | false => rfl
        | true => exact absurd ⟨j, hj, hb⟩ hn
      obtain ⟨j, hj, e2⟩ := this
      exact ih j hj (by omega) e2
theorem blk_of_place {text : List Int} {ent : Int} {p : Nat} (hp : p < text.length) : ∃ k : Nat, k < (blkL text ent).length ∧ ofB (blkL text ent) (p : Int) = (k : Int) := by
  obtain ⟨i, hi, h1, h2⟩ := blk_all (ent := ent) (by omega : 0 < text.length) hp
  exact of_some ⟨i, hi, by rw [hasB, decide_eq_true_eq]; exact ⟨h1, h2⟩⟩
set_option maxHeartbeats 2000000 in
theorem has_any (B : Nat) (a1 : Addr) (A2 Ab : Option Addr) (c1 ml c2 cb : Nat) (ent : Int) (text : List Int) (n p : Int) (w : World) (hX : TxAt w B a1 A2 Ab c1 ml c2 cb ent text) (hl : text.length ≤ 1048576) (hp : p ≤ 9223372036854775807) :
    Calls Tryz.prog 41 #[.pointer (some ⟨B, 0, none⟩), .int .i64 n, .int .i64 p] w fun e w' => e = .returned (.bool (fitB text n p)) ∧ w' = w := by
  have q0 := hX.c0
  have HF : Hid (fitB text n p = decide (2 ≤ n ∧ 0 ≤ p ∧ p + n ≤ (text.length : Int))) := rfl
  clear hX
  by_cases h1 : 2 ≤ n
  · by_cases h2 : 0 ≤ p
    · by_cases h3 : n ≤ (text.length : Int) - p
      · have HV : Hid (fitB text n p = true) := by rw [Hid, HF.out, decide_eq_true_eq]; omega
        clear HF
        go_enter Tryz.func41, Tryz.ntmps41
        go_wp2
        go_ret
        exact ⟨by rw [HV.out]; rfl, rfl⟩
      · have HV : Hid (fitB text n p = false) := by rw [Hid, HF.out, decide_eq_false_iff_not]; omega
        clear HF
        go_enter Tryz.func41, Tryz.ntmps41
        go_wp2
        go_ret
        exact ⟨by rw [HV.out]; rfl, rfl⟩
    · have HV : Hid (fitB text n p = false) := by rw [Hid, HF.out, decide_eq_false_iff_not]; omega
      clear HF
      go_enter Tryz.func41, Tryz.ntmps41
      go_wp2
      go_ret
      exact ⟨by rw [HV.out]; rfl, rfl⟩
  · have HV : Hid (fitB text n p = false) := by rw [Hid, HF.out, decide_eq_false_iff_not]; omega
    clear HF
    go_enter Tryz.func41, Tryz.ntmps41
    go_wp2
    go_ret
    exact ⟨by rw [HV.out]; rfl, rfl⟩
set_option maxHeartbeats 2000000 in
theorem txfrom_any (B : Nat) (a1 : Addr) (A2 Ab : Option Addr) (c1 ml c2 cb : Nat) (ent : Int) (text : List Int) (n p : Nat) (w : World) (hX : TxAt w B a1 A2 Ab c1 ml c2 cb ent text) (hl : text.length ≤ 1048576) (hc : text.length ≤ c1) (hn : 0 < n) (hp : p + n ≤ text.length) :
    Calls Tryz.prog 55 #[.pointer (some ⟨B, 0, none⟩), .int .i64 (p : Int), .int .i64 (n : Int)] w fun e w' => e = .returned (.slice (some (a1.add p)) n (c1 - p)) ∧ w' = w := by
  have q0 := hX.c0
  have hr := cutN_run a1 text.length c1 p n hn hp hc
  clear hX
  go_enter Tryz.func55, Tryz.ntmps55
  go_wp2
  go_ret
  exact ⟨rfl, rfl⟩
set_option maxHeartbeats 2000000 in
theorem inone_any (B : Nat) (a1 : Addr) (A2 Ab : Option Addr) (c1 ml c2 cb : Nat) (ent : Int) (text : List Int) (n p : Nat) (w : World) (hX : TxAt w B a1 A2 Ab c1 ml c2 cb ent text) (hl : text.length ≤ 16384) (hn : 0 < n) (hp : p + n ≤ text.length) :
    Calls Tryz.prog 58 #[.pointer (some ⟨B, 0, none⟩), .int .i64 (n : Int), .int .i64 (p : Int)] w fun e w' => e = .returned (.bool (inB text ent n p)) ∧ Below w.heap.size w w' := by
  obtain ⟨k, hk, ek⟩ := blk_of_place (ent := ent) (p := p) (by omega : p < text.length)
  have hbl := blk_len_le text ent
  have C := of_any Ab cb (blkL text ent) (p : Int) w hX.blk (by omega)
  rw [ek] at C
  have HX : Hid (TxAt w B a1 A2 Ab c1 ml c2 cb ent text) := hX
  obtain ⟨b, eb, -, r1⟩ := hX.blk k hk
  subst eb
  have HI : Hid (inB text ent n p = decide ((p : Int) + n ≤ rSym (blkL text ent) k)) := by
    unfold Hid inB
    rw [ek]; rfl
  have hz0 : 0 ≤ rSym (blkL text ent) k := by have := blk_in (ent := ent) hk; omega
  have hz1 : rSym (blkL text ent) k ≤ 16384 := by have := blk_in (ent := ent) hk; omega
  have hk' : (k : Int) < ((blkL text ent).length : Int) := by omega
  have q3 := hX.c3
  have r1 : w.cell? ⟨(b.add (k * 2)).block, (b.add (k * 2)).off + 1, none⟩ = some (.int .i64 (rSym (blkL text ent) k)) := r1
  clear hX ek
  generalize rSym (blkL text ent) k = z at *
  generalize (blkL text ent).length = L at *
  by_cases h : (n : Int) ≤ z - (p : Int)
  · have HV : Hid (inB text ent n p = true) := by rw [Hid, HI.out, decide_eq_true_eq]; omega
    clear HI
    go_enter Tryz.func58, Tryz.ntmps58
    go_wp2_with (go_at_call 80; refine C.mono ?_; rintro e w1 ⟨rfl, hb1⟩; have q3' := lkeep hb1 q3; have r1' := lkeep hb1 r1)
    go_ret
    exact ⟨by rw [HV.out]; rfl, hb1⟩
  · have HV : Hid (inB text ent n p = false) := by rw [Hid, HI.out, decide_eq_false_iff_not]; omega
    have hd : decide ((n : Int) ≤ z - (p : Int)) = false := decide_eq_false h
    clear HI
    go_enter Tryz.func58, Tryz.ntmps58
    go_wp2_with (go_at_call 80; refine C.mono ?_; rintro e w1 ⟨rfl, hb1⟩; have q3' := lkeep hb1 q3; have r1' := lkeep hb1 r1)
    go_ret
    exact ⟨by rw [HV.out]; rfl, hb1⟩

end Go.Proofs.YtmlhnnmelopleaaGreatDoor
