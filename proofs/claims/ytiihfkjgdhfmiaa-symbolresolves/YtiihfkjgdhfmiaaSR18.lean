/-
  learnAll: the names of all symbols. Package object: Of and At by what they return; the lists are at most 2^20 long. The finders: how a symbol of each kind is found.
-/
import Derived.Test.YtiihfkjgdhfmiaaProg
import Derived.WalkKit
import Derived.WalkSpells
import Derived.WalkLawsBesides
import Derived.RowKit3
import Derived.Below
import Derived.Deep.QuietTactic
import Derived.BigQuiet
import Derived.WalkSmall
import Derived.Laws.Rows
import Derived.Test.YtiihfkjgdhfmiaaSR17
import Derived.Test.YtiihfkjgdhfmiaaSR14
import Derived.Test.YtiihfkjgdhfmiaaSR01
namespace Go.Proofs.Ytiihfkjgdhfmiaa
open Go.RowKit

open Go.Maps Go.WideMaps
def seenA (l : List Ob) (o s : Nat) (x : ByteArray) : Option ((Nat × Int) × Int) := seenF x l o s
/-- An answer of learnAll. -/
def LearnP (l : List Ob) (w : World) (e : Ending) (w' : World) : Prop :=
  (∃ x, fstN (twO l) l.length = some x ∧ e = .returned (.tuple #[.map none, .int .i64 x.1, .int .i64 x.2.1, .int .i64 x.2.2]) ∧ Below w.heap.size w w') ∨
  (fstN (twO l) l.length = none ∧ ∃ n, e = .returned (.tuple #[.map (some w.heap.size), .int .i64 0, .int .i64 0, .int .i64 0]) ∧ Knows w' w.heap.size n (seenA l l.length 0) ∧ Below w.heap.size w w')
theorem field73 (x y z : Value) (w : World) : (Instr.field 73 (.agg #[x, y, z]) 1).run Try.prog w = .ok z w := by kernel_rfl
set_option maxHeartbeats 4000000 in
set_option maxRecDepth 100000 in
theorem plearn_any (A : Option Addr) (ca : Nat) (q : Nat → Pl) (l : List Ob) (w : World) (hA : ObsIn w A q l) :
    Calls Try.prog 22 #[.slice A l.length ca] w (LearnP l w) := by
  have hmm := mk62
  have hfl := field73
  obtain ⟨w0, hw0⟩ : ∃ w0, w0 = w.alloc (.map #[] 0) := ⟨_, rfl⟩
  have hk0 : Knows w0 w.heap.size 0 (seenA l 0 0) := by rw [hw0]; exact (Knows.made w).fit fun x => (seen_zero x l).symm
  have HB0 : Hid (Below w.heap.size w w0) := by rw [Hid, hw0]; exact lb_alloc (Below.refl _ _) _
  have HA : Hid (ObsIn w A q l) := hA
  have hf := hA.few
  clear hA
  go_enter Try.func22, Try.ntmps22
  go_wp2
  rw [← hw0]
  go_loopw [14] (fun i wr => ∃ (k n : Nat), i = .int .i64 k ∧ k ≤ l.length ∧ n ≤ 1048576 * k ∧ Hid (Knows wr w.heap.size n (seenA l k 0)) ∧ Hid (∀ i, i < k → twO l i = none) ∧ Hid (w0.grownBy wr (some w.heap.size))) (fun i _ => l.length - (intOf i).toNat)
  case atStart => exact ⟨0, 0, rfl, Nat.zero_le _, Nat.zero_le _, hk0, fun i hi => absurd hi (Nat.not_lt_zero _), ⟨rfl, rfl, rfl, Nat.le_refl _, fun _ _ _ => rfl⟩⟩
  case round =>
    obtain ⟨k, n, rfl, hk, hn, HK, HN, HG⟩ := hrel
    by_cases hkl : k < l.length
    · have hkl' : (k : Int) < (l.length : Int) := by omega
      have HBw : Hid (Below w.heap.size w wr) := grown_below HB0.out HG.out (Nat.le_refl _) HB0.out.size
      obtain ⟨a, ea, x0, x1, x2, x3, x4, x5⟩ := HA.out.cells.six HBw.out k hkl
      subst ea
      have hss := (HA.out.each k hkl).hs
      go_wp2
      go_loopw [22] (fun i wr => ∃ (j n : Nat), i = .int .i64 j ∧ j ≤ (ob l k).ss.length ∧ n ≤ 1048576 * k + j ∧ Hid (Knows wr w.heap.size n (seenA l k j)) ∧ Hid (∀ m, m < j → twS l k m = none) ∧ Hid (w0.grownBy wr (some w.heap.size))) (fun i _ => (ob l k).ss.length - (intOf i).toNat)
      case atStart => exact ⟨0, n, rfl, Nat.zero_le _, by omega, HK.out.keep (lb_alloc (Below.refl _ _) _), fun i hi => absurd hi (Nat.not_lt_zero _), grown_alloc HG.out _⟩
      case round =>
        clear HK HG HBw x0 x1 x2 x3 x4 x5 hn
        clear n
        obtain ⟨j, n, rfl, hj, hn, HK, HS, HG⟩ := hrel
        have HBw : Hid (Below w.heap.size w wr) := grown_below HB0.out HG.out (Nat.le_refl _) HB0.out.size
        by_cases hjl : j < (ob l k).ss.length
        · have hjl' : (j : Int) < ((ob l k).ss.length : Int) := by omega
          obtain ⟨a3, e3, s0, s1, s2⟩ := (HA.out.each k hkl).sy j hjl
          have t0 := lkeep HBw.out s0
          have t1 : wr.cell? ⟨(a3.add (j * 3)).block, (a3.add (j * 3)).off + 1, none⟩ = some (.int .i8 (sKind (ob l k).ss j)) := lkeep HBw.out s1
          have t2 : wr.cell? ⟨(a3.add (j * 3)).block, (a3.add (j * 3)).off + 2, none⟩ = some (.int .i64 (sAt (ob l k).ss j)) := lkeep HBw.out s2
          rw [e3]
          clear s0 s1 s2
          have HKa : Hid (Knows (wr.alloc (.cells #[.string (sName (ob l k).ss j), .int .i8 (sKind (ob l k).ss j), .int .i64 (sAt (ob l k).ss j)] 52)) w.heap.size n (seenA l k j)) := HK.out.keep (lb_alloc (Below.refl _ _) _)
          have CL := learn_any w.heap.size n (seenA l k j) (sName (ob l k).ss j) (sKind (ob l k).ss j) (sAt (ob l k).ss j) k (wr.alloc (.cells #[.string (sName (ob l k).ss j), .int .i8 (sKind (ob l k).ss j), .int .i64 (sAt (ob l k).ss j)] 52)) HKa.out (by omega) ((HA.out.each k hkl).hN j)
          cases hd : (sKind (ob l k).ss j == 1)
          · have HT : Hid (twS l k j = none) := twS_no (Or.inl hd)
            go_wp2_with fail
            refine CL.mono ?_
            rintro e w2 ⟨rfl, hk2, hg2⟩
            have HK2 : Hid (Knows w2 w.heap.size (n + 1) (seenA l k (j + 1))) := hk2.fit fun x => seen_put hkl hjl (fun _ => rfl) HT.out x
            have HG2 : Hid (w0.grownBy w2 (some w.heap.size)) := (grown_alloc HG.out _).trans hg2
            clear CL hk2 hg2
            go_wp2
            go_roundw
            case rel => exact ⟨j + 1, n + 1, by go_num, by omega, by omega, HK2, fst_step HS.out HT.out, HG2⟩
            case measure => simp [intOf]; omega
          · have hl := HKa.out.look ((HA.out.each k hkl).hN j)
            unfold mVal at hl
            cases hm : (mK (seenA l k j (sName (ob l k).ss j)) == 1)
            · have HT : Hid (twS l k j = none) := twS_no (Or.inr (by rw [← seen_kind]; exact hm))
              go_wp2_with fail
              refine CL.mono ?_
              rintro e w2 ⟨rfl, hk2, hg2⟩
              have HK2 : Hid (Knows w2 w.heap.size (n + 1) (seenA l k (j + 1))) := hk2.fit fun x => seen_put hkl hjl (fun _ => rfl) HT.out x
              have HG2 : Hid (w0.grownBy w2 (some w.heap.size)) := (grown_alloc HG.out _).trans hg2
              clear CL hk2 hg2 hl
              go_wp2
              go_roundw
              case rel => exact ⟨j + 1, n + 1, by go_num, by omega, by omega, HK2, fst_step HS.out HT.out, HG2⟩
              case measure => simp [intOf]; omega
            · have HT : Hid (twS l k j = some (26, (k : Int), (j : Int))) := twS_yes hd (by rw [← seen_kind]; exact hm)
              have HX : Hid (fstN (twO l) l.length = some (26, (k : Int), (j : Int))) := fst_hit HN.out (fst_hit HS.out HT.out hjl) hkl
              clear CL
              go_wp2
              refine bodyPost_ret (v := .tuple #[.map none, .int .i64 26, .int .i64 k, .int .i64 j]) (by simp [results, Try.results22, go_sem]) rfl (Or.inl ⟨_, HX.out, rfl, lb_alloc HBw.out _⟩)
        · have hjl' : ¬ (j : Int) < ((ob l k).ss.length : Int) := by omega
          obtain rfl : j = (ob l k).ss.length := by omega
          have HK2 : Hid (Knows wr w.heap.size n (seenA l (k + 1) 0)) := HK.out.fit fun x => (seen_next x l hkl).symm
          have HT : Hid (twO l k = none) := fst_none HS.out
          go_wp2
          go_roundw
          case rel => exact ⟨k + 1, n, by go_num, by omega, by omega, HK2, fst_step HN.out HT.out, HG⟩
          case measure => simp [intOf]; omega
    · have hkl' : ¬ (k : Int) < (l.length : Int) := by omega
      obtain rfl : k = l.length := by omega
      have HX : Hid (fstN (twO l) l.length = none) := fst_none HN.out
      have HBw : Hid (Below w.heap.size w wr) := grown_below HB0.out HG.out (Nat.le_refl _) HB0.out.size
      go_wp2
      refine bodyPost_ret (v := .tuple #[.map (some w.heap.size), .int .i64 0, .int .i64 0, .int .i64 0]) (by simp [results, Try.results22, go_sem]) rfl (Or.inr ⟨HX.out, n, rfl, HK.out, HBw.out⟩)

end Go.Proofs.Ytiihfkjgdhfmiaa

namespace Go.Proofs.Ytiihfkjgdhfmiaa
open Go.RowKit

theorem mkFn : ∀ (fn : Fn) (first cap : Array Value) (w : World), (Instr.makeFunc fn first cap).run Try.prog w = .ok (.func fn first cap) w := fun _ _ _ _ => rfl



end Go.Proofs.Ytiihfkjgdhfmiaa

namespace Go.Proofs.Ytiihfkjgdhfmiaa
open Go.RowKit

open Go.Maps Go.WideMaps
set_option maxHeartbeats 4000000 in
set_option maxRecDepth 100000 in
theorem fown_any (i : Nat) (nm : ByteArray) (kd at_ : Int) (w : World) :
    Calls Try.prog 37 #[.int .i64 i, .agg #[.string nm, .int .i8 kd, .int .i64 at_]] w fun e w' => e = .returned (.tuple #[.agg #[.int .i64 i, .int .i64 at_], .bool true]) ∧ w' = (w.alloc (.cells #[.string nm, .int .i8 kd, .int .i64 at_] 52)).alloc (.cells #[.int .i64 i, .int .i64 at_] 34) := by
  go_enter Try.func37, Try.ntmps37
  go_wp2
  refine bodyPost_ret (v := .tuple #[.agg #[.int .i64 i, .int .i64 at_], .bool true]) (by simp [results, Try.results37, go_sem]) rfl ⟨rfl, rfl⟩
set_option maxHeartbeats 4000000 in
set_option maxRecDepth 100000 in
theorem fnamed_any (i : Nat) (nm : ByteArray) (kd at_ : Int) (b n g : Nat) (f : ByteArray → Option ((Nat × Int) × Int)) (w : World) (hk : Knows w b n f) (hs : nm.size ≤ 140737488355328) (hc : w.cell? ⟨g, 0, none⟩ = some (.map (some b))) :
    Calls Try.prog 38 #[.int .i64 i, .agg #[.string nm, .int .i8 kd, .int .i64 at_], .pointer (some ⟨g, 0, none⟩)] w fun e w' => e = .returned (.tuple #[.agg #[.int .i64 (mI (f nm)), .int .i64 (mA (f nm))], .bool (f nm).isSome]) ∧ w' = ((w.alloc (.cells #[.string nm, .int .i8 kd, .int .i64 at_] 52)).alloc (.cells #[.int .i64 (mI (f nm)), .int .i64 (mA (f nm))] 34)).alloc (.cells #[.int .i64 (mI (f nm)), .int .i64 (mA (f nm)), .int .i8 (mK (f nm))] 73) := by
  have HK : Hid (Knows ((w.alloc (.cells #[.string nm, .int .i8 kd, .int .i64 at_] 52)).alloc (.cells #[.int .i64 0, .int .i64 0] 34)) b n f) := hk.keep (lb_alloc (lb_alloc (Below.refl _ _) _) _)
  have c1 : ((w.alloc (.cells #[.string nm, .int .i8 kd, .int .i64 at_] 52)).alloc (.cells #[.int .i64 0, .int .i64 0] 34)).cell? ⟨g, 0, none⟩ = some (.map (some b)) := lkeep (lb_alloc (lb_alloc (Below.refl _ _) _) _) hc
  go_enter Try.func38, Try.ntmps38
  go_wp2_with (at_lookup; refine wpList_look_ok _ rfl _ _ rfl b n f HK.out nm hs rfl rfl ?_; unfold mVal)
  refine bodyPost_ret (v := .tuple #[.agg #[.int .i64 (mI (f nm)), .int .i64 (mA (f nm))], .bool (f nm).isSome]) (by simp [results, Try.results38, go_sem]) rfl ⟨rfl, rfl⟩
theorem store_func (fn : Fn) (x y : Array Value) (a : Addr) (m : Mode) (w : World) : (store a (.func fn x y) m).run Try.prog w = stored Try.prog w a (.func fn x y) m := run_store Try.prog w a _ m rfl
def F0 : Value := .func (.func 37) #[] #[]
def F1 (g : Nat) : Value := .func (.func 38) #[] #[.pointer (some ⟨g, 0, none⟩)]
set_option maxHeartbeats 4000000 in
set_option maxRecDepth 100000 in
theorem finders_any (b : Nat) (w : World) : Calls Try.prog 24 #[.map (some b)] w fun e w' => e = .returned (.agg #[F0, F1 w.heap.size, F1 w.heap.size, F1 w.heap.size]) ∧ w'.cell? ⟨w.heap.size, 0, none⟩ = some (.map (some b)) ∧ Below w.heap.size w w' := by
  have hmf := mkFn
  have hsf := store_func
  go_enter Try.func24, Try.ntmps24
  go_wp2
  refine bodyPost_ret (v := .agg #[F0, F1 w.heap.size, F1 w.heap.size, F1 w.heap.size]) (by simp [results, Try.results24, go_sem]; exact ⟨rfl, rfl⟩) rfl ⟨rfl, by simp [go_sem], lb_alloc (lb_alloc (Below.refl _ _) _) _⟩

end Go.Proofs.Ytiihfkjgdhfmiaa
