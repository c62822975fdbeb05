/-
  Find: what a name stands for. learnAll: the names of all symbols. Package object: Of and At by what they return; the lists are at most 2^20 long.
-/
import Derived.Test.YtiihfkjgdhfmiaaProg
import Derived.WalkKit
import Derived.WalkSpells
import Derived.WalkLawsBesides
import Derived.RowKit3
import Derived.Below
import Derived.Deep.QuietTactic
import Derived.BigQuiet
import Derived.WalkSmall
import Derived.Laws.Rows
import Derived.Test.YtiihfkjgdhfmiaaSB17
import Derived.Test.YtiihfkjgdhfmiaaSB11
import Derived.WalkMore
import Derived.Test.YtiihfkjgdhfmiaaSB15
import Derived.Test.YtiihfkjgdhfmiaaSB01
namespace Go.Proofs.Ytiihfkjgdhfmiaa
open Go.RowKit

open Go.Maps Go.WideMaps
theorem grown_below {w w1 w2 : World} {B b : Nat} (h : Below B w w1) (hg : w1.grownBy w2 (some b)) (hb : B ≤ b) (hB : B ≤ w1.heap.size) : Below B w w2 := h.grown hg hB (fun j hj => by cases hj; exact hb)
theorem cell_grown {w w1 : World} {a : Addr} {b : Nat} {v : Value} (h : w.cell? a = some v) (hg : w.grownBy w1 (some b)) (hb : a.block ≠ b) : w1.cell? a = some v := by
  rw [World.cell?_of_block (hg.block a.block ?_ (by simpa using hb))]
  · exact h
  · by_cases hh : a.block < w.heap.size
    · exact hh
    · simp [World.cell?, Array.getElem?_eq_none (by omega : w.heap.size ≤ a.block)] at h
theorem two34 {w0 w1 : World} {g b : Nat} (h : w0.heap[g]? = some (.cells #[.int .i64 0, .int .i64 0] 34 (0, 0))) (hg : w0.grownBy w1 (some b)) (hb : g ≠ b) : w1.cell? ⟨g, 0, none⟩ = some (.int .i64 0) ∧ w1.cell? ⟨g, 1, none⟩ = some (.int .i64 0) ∧ w1.frozen? ⟨g, 0, none⟩ = false ∧ w1.frozen? ⟨g, 1, none⟩ = false := by
  have hl : g < w0.heap.size := by
    by_cases hl : g < w0.heap.size
    · exact hl
    · rw [Array.getElem?_eq_none (by omega)] at h; cases h
  have h1 : w1.heap[g]? = some (.cells #[.int .i64 0, .int .i64 0] 34 (0, 0)) := by rw [hg.block g hl (by simpa using hb)]; exact h
  refine ⟨?_, ?_, ?_, ?_⟩ <;> simp [World.cell?, World.frozen?, h1]
theorem mk62 (w : World) : (Instr.makeMap 62 none).run Try.prog w = .ok (.map (some w.heap.size)) (w.alloc (.map #[] 0)) := by
  simp [Instr.makeMap, Result.andThen]
set_option maxHeartbeats 4000000 in
set_option maxRecDepth 100000 in
theorem pfind_any (A : Option Addr) (ca : Nat) (q : Nat → Pl) (l : List Ob) (nm : ByteArray) (w : World) (hA : ObsIn w A q l) (hs : nm.size ≤ 140737488355328) :
    Calls Try.prog 10 #[.slice A l.length ca, .string nm] w (DefP (findF nm l) w) := by
  have hmm := mk62
  obtain ⟨w0, hw0⟩ : ∃ w0, w0 = (w.alloc (.cells #[.int .i64 0, .int .i64 0] 34)).alloc (.map #[] 0) := ⟨_, rfl⟩
  have hz : w0.heap[w.heap.size]? = some (.cells #[.int .i64 0, .int .i64 0] 34 (0, 0)) := by
    rw [hw0]
    show ((w.heap.push _).push _)[w.heap.size]? = _
    rw [Array.getElem?_push_lt (by simp), Array.getElem_push_eq]
  have hk0 : Knows w0 (w.heap.size + 1) 0 (fun _ => none) := by rw [hw0]; simpa using Knows.made (w.alloc (.cells #[.int .i64 0, .int .i64 0] 34))
  have hb0 : Below w.heap.size w w0 := by rw [hw0]; exact lb_alloc (lb_alloc (Below.refl _ _) _) _
  have HB0 : Hid (Below w.heap.size w w0) := hb0
  have HZ : Hid (w0.heap[w.heap.size]? = some (.cells #[.int .i64 0, .int .i64 0] 34 (0, 0))) := hz
  have HA : Hid (ObsIn w A q l) := hA
  have hf := hA.few
  clear hA hb0 hz
  go_enter Try.func10, Try.ntmps10
  go_wp2
  go_step3
  go_wp2
  go_step3
  go_wp2
  rw [← hw0]
  go_loopw [16] (fun i wr => ∃ (k n : Nat) (f : ByteArray → Option ((Nat × Int) × Int)), i = .int .i64 k ∧ k ≤ l.length ∧ n ≤ 1048576 * k ∧ Hid (Knows wr (w.heap.size + 1) n f) ∧ Hid (f nm = seenF nm l k 0) ∧ Hid (firstF nm 1 l k 0 = none) ∧ Hid (w0.grownBy wr (some (w.heap.size + 1)))) (fun i _ => l.length - (intOf i).toNat)
  case atStart => exact ⟨0, 0, _, rfl, Nat.zero_le _, Nat.zero_le _, hk0, (seen_zero nm l).symm, firstF_zero nm 1 l, ⟨rfl, rfl, rfl, Nat.le_refl _, fun _ _ _ => rfl⟩⟩
  case round =>
    obtain ⟨k, n, f, rfl, hk, hn, HK, HF, H1, HG⟩ := hrel
    by_cases hkl : k < l.length
    · have hkl' : (k : Int) < (l.length : Int) := by omega
      have HBw : Hid (Below w.heap.size w wr) := grown_below HB0.out HG.out (by omega) HB0.out.size
      obtain ⟨a, ea, x0, x1, x2, x3, x4, x5⟩ := HA.out.cells.six HBw.out k hkl
      subst ea
      have hss := (HA.out.each k hkl).hs
      go_wp2
      go_loopw [24] (fun i wr => ∃ (j n : Nat) (f : ByteArray → Option ((Nat × Int) × Int)), i = .int .i64 j ∧ j ≤ (ob l k).ss.length ∧ n ≤ 1048576 * k + j ∧ Hid (Knows wr (w.heap.size + 1) n f) ∧ Hid (f nm = seenF nm l k j) ∧ Hid (firstF nm 1 l k j = none) ∧ Hid (w0.grownBy wr (some (w.heap.size + 1)))) (fun i _ => (ob l k).ss.length - (intOf i).toNat)
      case atStart => exact ⟨0, n, f, rfl, Nat.zero_le _, by omega, HK.out.keep (lb_alloc (Below.refl _ _) _), HF, H1, grown_alloc HG.out _⟩
      case round =>
        clear HK HF H1 HG HBw x0 x1 x2 x3 x4 x5 hn
        clear n f
        obtain ⟨j, n, f, rfl, hj, hn, HK, HF, H1, HG⟩ := hrel
        have HBw : Hid (Below w.heap.size w wr) := grown_below HB0.out HG.out (by omega) HB0.out.size
        by_cases hjl : j < (ob l k).ss.length
        · have hjl' : (j : Int) < ((ob l k).ss.length : Int) := by omega
          obtain ⟨a3, e3, s0, s1, s2⟩ := (HA.out.each k hkl).sy j hjl
          have t0 := lkeep HBw.out s0
          have t1 : wr.cell? ⟨(a3.add (j * 3)).block, (a3.add (j * 3)).off + 1, none⟩ = some (.int .i8 (sKind (ob l k).ss j)) := lkeep HBw.out s1
          have t2 : wr.cell? ⟨(a3.add (j * 3)).block, (a3.add (j * 3)).off + 2, none⟩ = some (.int .i64 (sAt (ob l k).ss j)) := lkeep HBw.out s2
          rw [e3]
          clear s0 s1 s2
          cases hnm : ((sName (ob l k).ss j).toList == nm.toList)
          · have HF2 : Hid (f nm = seenF nm l k (j + 1)) := by rw [Hid, seen_other hkl hjl hnm]; exact HF.out
            have H12 : Hid (firstF nm 1 l k (j + 1) = none) := firstF_same hkl hjl (hitS_no (Or.inl hnm)) H1.out
            go_wp2
            go_roundw
            case rel => exact ⟨j + 1, n, f, by go_num, by omega, by omega, HK.out.keep (lb_alloc (Below.refl _ _) _), HF2, H12, grown_alloc HG.out _⟩
            case measure => simp [intOf]; omega
          · have CL := learn_any (w.heap.size + 1) n f (sName (ob l k).ss j) (sKind (ob l k).ss j) (sAt (ob l k).ss j) k (wr.alloc (.cells #[.string (sName (ob l k).ss j), .int .i8 (sKind (ob l k).ss j), .int .i64 (sAt (ob l k).ss j)] 52)) (HK.out.keep (lb_alloc (Below.refl _ _) _)) (by omega) ((HA.out.each k hkl).hN j)
            have hF2 := find_put hkl hjl hnm HF.out H1.out
            have hlt := HK.out.lt
            go_wp2_with fail
            refine CL.mono ?_
            rintro e w2 ⟨rfl, hk2, hg2⟩
            have u1 : w2.cell? ⟨wr.heap.size, 1, none⟩ = some (.int .i8 (sKind (ob l k).ss j)) := cell_grown (by simp [go_sem]) hg2 (by simp; omega)
            have HG2 : Hid (w0.grownBy w2 (some (w.heap.size + 1))) := (grown_alloc HG.out _).trans hg2
            generalize hf' : putF f (sName (ob l k).ss j) (learnV (f (sName (ob l k).ss j)) k (sAt (ob l k).ss j) (sKind (ob l k).ss j)) = f' at hk2 hF2
            have HF2 : Hid (f' nm = seenF nm l k (j + 1)) := hF2
            have HK2 : Hid (Knows w2 (w.heap.size + 1) (n + 1) f') := hk2
            clear CL hk2 hg2 hf' HK hF2
            cases hd : (sKind (ob l k).ss j == 1)
            · have H12 : Hid (firstF nm 1 l k (j + 1) = none) := firstF_same hkl hjl (hitS_no (Or.inr hd)) H1.out
              go_wp2
              go_roundw
              case rel => exact ⟨j + 1, n + 1, f', by go_num, by omega, by omega, HK2, HF2, H12, HG2⟩
              case measure => simp [intOf]; omega
            · have HT : Hid (Tells (f' nm) (findF nm l)) := by rw [HF2.out]; exact tells_hit hkl hjl hnm H1.out hd
              obtain ⟨z0, z1, y0, y1⟩ := two34 (w1 := w2.alloc (.cells #[.int .i64 (mI (f' nm)), .int .i64 (mA (f' nm)), .int .i8 (mK (f' nm))] 73)) HZ.out (grown_alloc HG2.out _) (by omega)
              have HBz : Hid (Below w.heap.size w (w2.alloc (.cells #[.int .i64 (mI (f' nm)), .int .i64 (mA (f' nm)), .int .i8 (mK (f' nm))] 73))) := grown_below HB0.out (grown_alloc HG2.out _) (by omega) HB0.out.size
              go_wp2_with (at_lookup; refine wpList_look_ok _ rfl _ _ rfl (w.heap.size + 1) _ f' HK2.out nm hs rfl rfl ?_; unfold mVal)
              try rw [Exit.noGoto_ret]
              refine bodyPost_ret (v := .tuple #[.agg #[.int .i64 (mI (f' nm)), .int .i64 (mA (f' nm))], .bool (f' nm).isSome]) (by simp [results, Try.results10, go_sem, z0, z1]) rfl ⟨?_, (HBz.out.setCell (Nat.le_refl _) _).setCell (Nat.le_refl _) _⟩
              rw [HT.out.1, HT.out.2.1, HT.out.2.2]
        · have hjl' : ¬ (j : Int) < ((ob l k).ss.length : Int) := by omega
          obtain rfl : j = (ob l k).ss.length := by omega
          have HF2 : Hid (f nm = seenF nm l (k + 1) 0) := by rw [Hid, seen_next nm l hkl]; exact HF.out
          have H12 : Hid (firstF nm 1 l (k + 1) 0 = none) := by rw [Hid, firstF_next nm 1 l hkl]; exact H1.out
          go_wp2
          go_roundw
          case rel => exact ⟨k + 1, n, f, by go_num, by omega, by omega, HK, HF2, H12, HG⟩
          case measure => simp [intOf]; omega
    · have hkl' : ¬ (k : Int) < (l.length : Int) := by omega
      obtain rfl : k = l.length := by omega
      have HT : Hid (Tells (f nm) (findF nm l)) := by rw [HF.out]; exact tells_full nm l
      obtain ⟨z0, z1, y0, y1⟩ := two34 (w1 := wr.alloc (.cells #[.int .i64 (mI (f nm)), .int .i64 (mA (f nm)), .int .i8 (mK (f nm))] 73)) HZ.out (grown_alloc HG.out _) (by omega)
      have HBz : Hid (Below w.heap.size w (wr.alloc (.cells #[.int .i64 (mI (f nm)), .int .i64 (mA (f nm)), .int .i8 (mK (f nm))] 73))) := grown_below HB0.out (grown_alloc HG.out _) (by omega) HB0.out.size
      go_wp2_with (at_lookup; refine wpList_look_ok _ rfl _ _ rfl (w.heap.size + 1) _ f HK.out nm hs rfl rfl ?_; unfold mVal)
      try rw [Exit.noGoto_ret]
      refine bodyPost_ret (v := .tuple #[.agg #[.int .i64 (mI (f nm)), .int .i64 (mA (f nm))], .bool (f nm).isSome]) (by simp [results, Try.results10, go_sem, z0, z1]) rfl ⟨?_, (HBz.out.setCell (Nat.le_refl _) _).setCell (Nat.le_refl _) _⟩
      rw [HT.out.1, HT.out.2.1, HT.out.2.2]

end Go.Proofs.Ytiihfkjgdhfmiaa

namespace Go.Proofs.Ytiihfkjgdhfmiaa
open Go.RowKit

open Go.Maps Go.WideMaps
def seenA (l : List Ob) (o s : Nat) (x : ByteArray) : Option ((Nat × Int) × Int) := seenF x l o s
/-- An answer of learnAll. -/
def LearnP (l : List Ob) (w : World) (e : Ending) (w' : World) : Prop :=
  (∃ x, fstN (twO l) l.length = some x ∧ e = .returned (.tuple #[.map none, .int .i64 x.1, .int .i64 x.2.1, .int .i64 x.2.2]) ∧ Below w.heap.size w w') ∨
  (fstN (twO l) l.length = none ∧ ∃ n, e = .returned (.tuple #[.map (some w.heap.size), .int .i64 0, .int .i64 0, .int .i64 0]) ∧ Knows w' w.heap.size n (seenA l l.length 0) ∧ Below w.heap.size w w')
theorem field73 (x y z : Value) (w : World) : (Instr.field 73 (.agg #[x, y, z]) 1).run Try.prog w = .ok z w := by kernel_rfl
set_option maxHeartbeats 4000000 in
set_option maxRecDepth 100000 in
theorem plearn_any (A : Option Addr) (ca : Nat) (q : Nat → Pl) (l : List Ob) (w : World) (hA : ObsIn w A q l) :
    Calls Try.prog 22 #[.slice A l.length ca] w (LearnP l w) := by
  have hmm := mk62
  have hfl := field73
  obtain ⟨w0, hw0⟩ : ∃ w0, w0 = w.alloc (.map #[] 0) := ⟨_, rfl⟩
  have hk0 : Knows w0 w.heap.size 0 (seenA l 0 0) := by rw [hw0]; exact (Knows.made w).fit fun x => (seen_zero x l).symm
  have HB0 : Hid (Below w.heap.size w w0) := by rw [Hid, hw0]; exact lb_alloc (Below.refl _ _) _
  have HA : Hid (ObsIn w A q l) := hA
  have hf := hA.few
  clear hA
  go_enter Try.func22, Try.ntmps22
  go_wp2
  rw [← hw0]
  go_loopw [14] (fun i wr => ∃ (k n : Nat), i = .int .i64 k ∧ k ≤ l.length ∧ n ≤ 1048576 * k ∧ Hid (Knows wr w.heap.size n (seenA l k 0)) ∧ Hid (∀ i, i < k → twO l i = none) ∧ Hid (w0.grownBy wr (some w.heap.size))) (fun i _ => l.length - (intOf i).toNat)
  case atStart => exact ⟨0, 0, rfl, Nat.zero_le _, Nat.zero_le _, hk0, fun i hi => absurd hi (Nat.not_lt_zero _), ⟨rfl, rfl, rfl, Nat.le_refl _, fun _ _ _ => rfl⟩⟩
  case round =>
    obtain ⟨k, n, rfl, hk, hn, HK, HN, HG⟩ := hrel
    by_cases hkl : k < l.length
    · have hkl' : (k : Int) < (l.length : Int) := by omega
      have HBw : Hid (Below w.heap.size w wr) := grown_below HB0.out HG.out (Nat.le_refl _) HB0.out.size
      obtain ⟨a, ea, x0, x1, x2, x3, x4, x5⟩ := HA.out.cells.six HBw.out k hkl
      subst ea
      have hss := (HA.out.each k hkl).hs
      go_wp2
      go_loopw [22] (fun i wr => ∃ (j n : Nat), i = .int .i64 j ∧ j ≤ (ob l k).ss.length ∧ n ≤ 1048576 * k + j ∧ Hid (Knows wr w.heap.size n (seenA l k j)) ∧ Hid (∀ m, m < j → twS l k m = none) ∧ Hid (w0.grownBy wr (some w.heap.size))) (fun i _ => (ob l k).ss.length - (intOf i).toNat)
      case atStart => exact ⟨0, n, rfl, Nat.zero_le _, by omega, HK.out.keep (lb_alloc (Below.refl _ _) _), fun i hi => absurd hi (Nat.not_lt_zero _), grown_alloc HG.out _⟩
      case round =>
        clear HK HG HBw x0 x1 x2 x3 x4 x5 hn
        clear n
        obtain ⟨j, n, rfl, hj, hn, HK, HS, HG⟩ := hrel
        have HBw : Hid (Below w.heap.size w wr) := grown_below HB0.out HG.out (Nat.le_refl _) HB0.out.size
        by_cases hjl : j < (ob l k).ss.length
        · have hjl' : (j : Int) < ((ob l k).ss.length : Int) := by omega
          obtain ⟨a3, e3, s0, s1, s2⟩ := (HA.out.each k hkl).sy j hjl
          have t0 := lkeep HBw.out s0
          have t1 : wr.cell? ⟨(a3.add (j * 3)).block, (a3.add (j * 3)).off + 1, none⟩ = some (.int .i8 (sKind (ob l k).ss j)) := lkeep HBw.out s1
          have t2 : wr.cell? ⟨(a3.add (j * 3)).block, (a3.add (j * 3)).off + 2, none⟩ = some (.int .i64 (sAt (ob l k).ss j)) := lkeep HBw.out s2
          rw [e3]
          clear s0 s1 s2
          have HKa : Hid (Knows (wr.alloc (.cells #[.string (sName (ob l k).ss j), .int .i8 (sKind (ob l k).ss j), .int .i64 (sAt (ob l k).ss j)] 52)) w.heap.size n (seenA l k j)) := HK.out.keep (lb_alloc (Below.refl _ _) _)
          have CL := learn_any w.heap.size n (seenA l k j) (sName (ob l k).ss j) (sKind (ob l k).ss j) (sAt (ob l k).ss j) k (wr.alloc (.cells #[.string (sName (ob l k).ss j), .int .i8 (sKind (ob l k).ss j), .int .i64 (sAt (ob l k).ss j)] 52)) HKa.out (by omega) ((HA.out.each k hkl).hN j)
          cases hd : (sKind (ob l k).ss j == 1)
          · have HT : Hid (twS l k j = none) := twS_no (Or.inl hd)
            go_wp2_with fail
            refine CL.mono ?_
            rintro e w2 ⟨rfl, hk2, hg2⟩
            have HK2 : Hid (Knows w2 w.heap.size (n + 1) (seenA l k (j + 1))) := hk2.fit fun x => seen_put hkl hjl (fun _ => rfl) HT.out x
            have HG2 : Hid (w0.grownBy w2 (some w.heap.size)) := (grown_alloc HG.out _).trans hg2
            clear CL hk2 hg2
            go_wp2
            go_roundw
            case rel => exact ⟨j + 1, n + 1, by go_num, by omega, by omega, HK2, fst_step HS.out HT.out, HG2⟩
            case measure => simp [intOf]; omega
          · have hl := HKa.out.look ((HA.out.each k hkl).hN j)
            unfold mVal at hl
            cases hm : (mK (seenA l k j (sName (ob l k).ss j)) == 1)
            · have HT : Hid (twS l k j = none) := twS_no (Or.inr (by rw [← seen_kind]; exact hm))
              go_wp2_with fail
              refine CL.mono ?_
              rintro e w2 ⟨rfl, hk2, hg2⟩
              have HK2 : Hid (Knows w2 w.heap.size (n + 1) (seenA l k (j + 1))) := hk2.fit fun x => seen_put hkl hjl (fun _ => rfl) HT.out x
              have HG2 : Hid (w0.grownBy w2 (some w.heap.size)) := (grown_alloc HG.out _).trans hg2
              clear CL hk2 hg2 hl
              go_wp2
              go_roundw
              case rel => exact ⟨j + 1, n + 1, by go_num, by omega, by omega, HK2, fst_step HS.out HT.out, HG2⟩
              case measure => simp [intOf]; omega
            · have HT : Hid (twS l k j = some (26, (k : Int), (j : Int))) := twS_yes hd (by rw [← seen_kind]; exact hm)
              have HX : Hid (fstN (twO l) l.length = some (26, (k : Int), (j : Int))) := fst_hit HN.out (fst_hit HS.out HT.out hjl) hkl
              clear CL
              go_wp2
              refine bodyPost_ret (v := .tuple #[.map none, .int .i64 26, .int .i64 k, .int .i64 j]) (by simp [results, Try.results22, go_sem]) rfl (Or.inl ⟨_, HX.out, rfl, lb_alloc HBw.out _⟩)
        · have hjl' : ¬ (j : Int) < ((ob l k).ss.length : Int) := by omega
          obtain rfl : j = (ob l k).ss.length := by omega
          have HK2 : Hid (Knows wr w.heap.size n (seenA l (k + 1) 0)) := HK.out.fit fun x => (seen_next x l hkl).symm
          have HT : Hid (twO l k = none) := fst_none HS.out
          go_wp2
          go_roundw
          case rel => exact ⟨k + 1, n, by go_num, by omega, by omega, HK2, fst_step HN.out HT.out, HG⟩
          case measure => simp [intOf]; omega
    · have hkl' : ¬ (k : Int) < (l.length : Int) := by omega
      obtain rfl : k = l.length := by omega
      have HX : Hid (fstN (twO l) l.length = none) := fst_none HN.out
      have HBw : Hid (Below w.heap.size w wr) := grown_below HB0.out HG.out (Nat.le_refl _) HB0.out.size
      go_wp2
      refine bodyPost_ret (v := .tuple #[.map (some w.heap.size), .int .i64 0, .int .i64 0, .int .i64 0]) (by simp [results, Try.results22, go_sem]) rfl (Or.inr ⟨HX.out, n, rfl, HK.out, HBw.out⟩)

end Go.Proofs.Ytiihfkjgdhfmiaa

namespace Go.Proofs.Ytiihfkjgdhfmiaa
open Go.RowKit

theorem mkFn : ∀ (fn : Fn) (first cap : Array Value) (w : World), (Instr.makeFunc fn first cap).run Try.prog w = .ok (.func fn first cap) w := fun _ _ _ _ => rfl



end Go.Proofs.Ytiihfkjgdhfmiaa
