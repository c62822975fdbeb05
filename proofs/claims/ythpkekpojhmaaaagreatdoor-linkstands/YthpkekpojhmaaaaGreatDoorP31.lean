/-
  learn: a name is kept. first of the document: the first symbol of a kind and name below a place. Find: what a name stands for. check of the document: what is asked of the objects.
-/
import Derived.Test.YthpkekpojhmaaaaGreatDoorProg
import Derived.WalkKit
import Derived.WalkSpells
import Derived.WalkLawsBesides
import Derived.RowKit3
import Derived.Below
import Derived.Deep.QuietTactic
import Derived.BigQuiet
import Derived.WalkSmall
import Derived.Laws.Rows
import Derived.Test.YthpkekpojhmaaaaGreatDoorP30
import Derived.Test.YthpkekpojhmaaaaGreatDoorP19
import Derived.WalkMore
import Derived.Test.YthpkekpojhmaaaaGreatDoorP20
import Derived.Test.YthpkekpojhmaaaaGreatDoorP14
namespace Go.Proofs.YthpkekpojhmaaaaGreatDoor
open Go.RowKit

open Go.Maps Go.WideMaps
theorem grown_alloc {w w1 : World} {b : Nat} (h : w.grownBy w1 (some b)) (o : Obj) : w.grownBy (w1.alloc o) (some b) := h.trans (World.grownBy_alloc w1 o _)
set_option maxHeartbeats 4000000 in
set_option maxRecDepth 100000 in
theorem learn_any (b n : Nat) (f : ByteArray → Option ((Nat × Int) × Int)) (nm : ByteArray) (kd at_ : Int) (i : Nat) (w : World) (hk : Knows w b n f) (hn : n < 1000000000000) (hs : nm.size ≤ 140737488355328) :
    Calls Tryz.prog 74 #[.map (some b), .int .i64 i, .agg #[.string nm, .int .i8 kd, .int .i64 at_]] w fun e w' => e = .returned (.tuple #[]) ∧ Knows w' b (n + 1) (putF f nm (learnV (f nm) i at_ kd)) ∧ w.grownBy w' (some b) := by
  have HK : Hid (Knows (w.alloc (.cells #[.string nm, .int .i8 kd, .int .i64 at_] 131)) b n f) := hk.keep (lb_alloc (Below.refl _ _) _)
  have HK1 : Hid (Knows ((w.alloc (.cells #[.string nm, .int .i8 kd, .int .i64 at_] 131)).alloc (.cells #[.int .i64 (mI (f nm)), .int .i64 (mA (f nm)), .int .i8 (mK (f nm))] 134)) b n f) := HK.out.keep (lb_alloc (Below.refl _ _) _)
  have HG : Hid (w.grownBy ((w.alloc (.cells #[.string nm, .int .i8 kd, .int .i64 at_] 131)).alloc (.cells #[.int .i64 (mI (f nm)), .int .i64 (mA (f nm)), .int .i8 (mK (f nm))] 134)) (some b)) := (World.grownBy_alloc w _ _).trans (World.grownBy_alloc _ _ _)
  clear hk
  go_enter Tryz.func74, Tryz.ntmps74
  cases h1 : (kd == 1) with
  | true =>
    go_wp2_with (first | (at_lookup; refine wpList_look_ok _ rfl _ _ rfl b n f HK.out nm hs rfl rfl ?_; unfold mVal) | (at_mapUpdate; refine wpList_look_put _ rfl _ _ _ rfl b n f HK1.out hn nm hs ((i, at_), kd) rfl rfl rfl ?_; intro w2 hk2 hg2; have HK2 : Hid (Knows w2 b (n + 1) (putF f nm (some ((i, at_), kd)))) := hk2; have HG2 : Hid (w.grownBy w2 (some b)) := HG.out.trans hg2; clear hk2 hg2))
    refine bodyPost_end (v := .tuple #[]) (by simp [results, Tryz.results74, go_sem]) rfl ?_
    exact ⟨rfl, by rw [learn_yes (Or.inl h1)]; exact HK2.out, HG2.out⟩
  | false =>
    cases h2 : (kd == 2) with
    | true =>
      cases h3 : (f nm).isSome with
      | false =>
        go_wp2_with (first | ((at_lookup; refine wpList_look_ok _ rfl _ _ rfl b n f HK.out nm hs rfl rfl ?_; unfold mVal); rw [h3]) | (at_mapUpdate; refine wpList_look_put _ rfl _ _ _ rfl b n f HK1.out hn nm hs ((i, at_), kd) rfl rfl rfl ?_; intro w2 hk2 hg2; have HK2 : Hid (Knows w2 b (n + 1) (putF f nm (some ((i, at_), kd)))) := hk2; have HG2 : Hid (w.grownBy w2 (some b)) := HG.out.trans hg2; clear hk2 hg2))
        refine bodyPost_end (v := .tuple #[]) (by simp [results, Tryz.results74, go_sem]) rfl ?_
        exact ⟨rfl, by rw [learn_yes (Or.inr ⟨h2, h3⟩)]; exact HK2.out, HG2.out⟩
      | true =>
        go_wp2_with ((at_lookup; refine wpList_look_ok _ rfl _ _ rfl b n f HK.out nm hs rfl rfl ?_; unfold mVal); rw [h3])
        refine bodyPost_end (v := .tuple #[]) (by simp [results, Tryz.results74, go_sem]) rfl ?_
        exact ⟨rfl, by rw [learn_no h1 (Or.inr h3)]; exact (HK1.out.fit fun x => (putF_same f nm x).symm).more (Nat.le_succ _), HG.out⟩
    | false =>
      go_wp2_with (at_lookup; refine wpList_look_ok _ rfl _ _ rfl b n f HK.out nm hs rfl rfl ?_; unfold mVal)
      refine bodyPost_end (v := .tuple #[]) (by simp [results, Tryz.results74, go_sem]) rfl ?_
      exact ⟨rfl, by rw [learn_no h1 (Or.inl h2)]; exact (HK1.out.fit fun x => (putF_same f nm x).symm).more (Nat.le_succ _), HG.out⟩


end Go.Proofs.YthpkekpojhmaaaaGreatDoor

namespace Go.Proofs.YthpkekpojhmaaaaGreatDoor
open Go.RowKit

theorem res_keep {w0 w1 : World} {g : Nat} (h : w0.heap[g]? = some (.cells #[.int .i64 0, .int .i64 0] 106 (0, 0))) (hb : Below w0.heap.size w0 w1) : w1.cell? ⟨g, 0, none⟩ = some (.int .i64 0) ∧ w1.cell? ⟨g, 1, none⟩ = some (.int .i64 0) ∧ w1.frozen? ⟨g, 0, none⟩ = false ∧ w1.frozen? ⟨g, 1, none⟩ = false := by
  have hg : g < w0.heap.size := by
    by_cases hg : g < w0.heap.size
    · exact hg
    · rw [Array.getElem?_eq_none (by omega)] at h; cases h
  have h1 : w1.heap[g]? = some (.cells #[.int .i64 0, .int .i64 0] 106 (0, 0)) := by rw [hb.block g hg]; exact h
  refine ⟨?_, ?_, ?_, ?_⟩ <;> simp [World.cell?, World.frozen?, h1]
theorem ret2D {a b : Nat} {c d : Int} {x y : Bool} (h1 : a = b) (h2 : c = d) (h3 : x = y) : Ending.returned (.tuple #[.agg #[.int .i64 a, .int .i64 c], .bool x]) = .returned (.tuple #[.agg #[.int .i64 b, .int .i64 d], .bool y]) := by rw [h1, h2, h3]
set_option maxHeartbeats 4000000 in
set_option maxRecDepth 100000 in
theorem reffirst_any (A : Option Addr) (ca : Nat) (q : Nat → Pl) (l : List Ob) (nm : ByteArray) (kd : Int) (o s : Nat) (w : World) (hA : ObsIn w A q l) (ho : o ≤ 64) (hs : s ≤ 1048576) :
    Calls Tryz.prog 98 #[.slice A l.length ca, .string nm, .int .i8 kd, .int .i64 o, .int .i64 s] w (DefP (firstF nm kd l o s) w) := by
  obtain ⟨w0, hw0⟩ : ∃ w0, w0 = w.alloc (.cells #[.int .i64 0, .int .i64 0] 106) := ⟨_, rfl⟩
  have hb0 : Below w.heap.size w w0 := by rw [hw0]; exact lb_alloc (Below.refl _ _) _
  have HZ : Hid (w0.heap[w.heap.size]? = some (.cells #[.int .i64 0, .int .i64 0] 106 (0, 0))) := by rw [hw0]; show (w.heap.push _)[w.heap.size]? = _; simp
  have HA : Hid (ObsIn w0 A q l) := hA.keep hb0
  have HB0 : Hid (Below w.heap.size w w0) := hb0
  have hf := hA.few
  clear hA hb0
  go_enter Tryz.func98, Tryz.ntmps98
  go_wp2
  rw [← hw0]
  go_loopw [12] (fun i wr => ∃ k : Nat, i = .int .i64 k ∧ k ≤ min l.length (o + 1) ∧ Hid (∀ j, j < k → hitO nm kd l o s j = none) ∧ Hid (Below w0.heap.size w0 wr)) (fun i _ => l.length - (intOf i).toNat)
  case atStart => exact ⟨0, rfl, Nat.zero_le _, fun j hj => absurd hj (Nat.not_lt_zero _), Below.refl _ _⟩
  case round =>
    obtain ⟨k, rfl, hk, HN, HB⟩ := hrel
    by_cases hkl : k < l.length
    · have hkl' : (k : Int) < (l.length : Int) := by omega
      by_cases hko : k ≤ o
      · have hko' : (k : Int) ≤ (o : Int) := by omega
        have hlt : k < min l.length (o + 1) := by omega
        obtain ⟨a, ea, -⟩ := HA.out.cells k hkl
        subst ea
        go_wp2
        go_loopw [13] (fun i wr => ∃ j : Nat, i = .int .i64 j ∧ j ≤ upTo l o s k ∧ Hid (∀ m, m < j → hitS nm kd (ob l k).ss m = none) ∧ Hid (Below w0.heap.size w0 wr)) (fun i _ => (ob l k).ss.length - (intOf i).toNat)
        case atStart => exact ⟨0, rfl, Nat.zero_le _, fun j hj => absurd hj (Nat.not_lt_zero _), HB⟩
        case round =>
          clear HB
          obtain ⟨j, rfl, hj, HS, HB1⟩ := hrel
          obtain ⟨b, eb, x0, x1, x2, x3, x4, x5⟩ := HA.out.cells.six HB1.out k hkl
          obtain rfl := Option.some.inj eb
          have hss := (HA.out.each k hkl).hs
          clear eb x0 x1 x2 x3 x5
          by_cases hjl : j < (ob l k).ss.length
          · have hjl' : (j : Int) < ((ob l k).ss.length : Int) := by omega
            by_cases hke : k = o
            · subst hke
              by_cases hjs : s ≤ j
              · have hjs' : (s : Int) ≤ (j : Int) := by omega
                have HN2 : Hid _ := fst_step HN.out (hitO_no (o := k) (s := s) HS.out (by unfold upTo; rw [if_pos rfl]; omega))
                go_wp2
                go_roundw
                case rel => exact ⟨k + 1, by go_num, by omega, HN2, HB1⟩
                case measure => simp [intOf]; omega
              · have hjs' : ¬ (s : Int) ≤ (j : Int) := by omega
                have hup : j < upTo l k s k := by unfold upTo; rw [if_pos rfl]; omega
                obtain ⟨a3, e3, s0, s1, s2⟩ := (HA.out.each k hkl).sy j hjl
                have t0 := lkeep HB1.out s0
                have t1 : wr.cell? ⟨(a3.add (j * 3)).block, (a3.add (j * 3)).off + 1, none⟩ = some (.int .i8 (sKind (ob l k).ss j)) := lkeep HB1.out s1
                have t2 : wr.cell? ⟨(a3.add (j * 3)).block, (a3.add (j * 3)).off + 2, none⟩ = some (.int .i64 (sAt (ob l k).ss j)) := lkeep HB1.out s2
                rw [e3] at x4
                clear s0 s1 s2 e3
                cases hn : ((sName (ob l k).ss j).toList == nm.toList)
                · have HS2 : Hid _ := fst_step HS.out (hitS_no (kd := kd) (Or.inl hn))
                  go_wp2
                  go_roundw
                  case rel => exact ⟨j + 1, by go_num, by omega, HS2, lb_alloc HB1.out _⟩
                  case measure => simp [intOf]; omega
                cases hd : (sKind (ob l k).ss j == kd)
                · have HS2 : Hid _ := fst_step HS.out (hitS_no (nm := nm) (Or.inr hd))
                  go_wp2
                  go_roundw
                  case rel => exact ⟨j + 1, by go_num, by omega, HS2, lb_alloc HB1.out _⟩
                  case measure => simp [intOf]; omega
                have HX : Hid (firstF nm kd l _ s = some (k, sAt (ob l k).ss j)) := fst_hit HN.out (hitO_yes HS.out (hitS_yes hn hd) hup) hlt
                have hbz := res_keep (w1 := (wr.alloc (.cells #[.string (sName (ob l k).ss j), .int .i8 (sKind (ob l k).ss j), .int .i64 (sAt (ob l k).ss j)] 131))) HZ.out (lb_alloc HB1.out _)
                obtain ⟨z0, z1, y0, y1⟩ := hbz
                have HBz : Hid (Below w.heap.size w (wr.alloc (.cells #[.string (sName (ob l k).ss j), .int .i8 (sKind (ob l k).ss j), .int .i64 (sAt (ob l k).ss j)] 131))) := lb_trans HB0.out (lb_alloc HB1.out _)
                go_wp2
                refine bodyPost_ret (v := .tuple #[.agg #[.int .i64 (k : Nat), .int .i64 (sAt (ob l k).ss j)], .bool true]) (by simp [results, Tryz.results98, go_sem, z0, z1]) rfl ⟨?_, (HBz.out.setCell (Nat.le_refl _) _).setCell (Nat.le_refl _) _⟩
                rw [HX.out]; rfl
            · have hke' : ((k : Int) == (o : Int)) = false := by simpa using (by omega : ¬ (k : Int) = (o : Int))
              have hup : j < upTo l o s k := by unfold upTo; rw [if_neg hke]; exact hjl
              obtain ⟨a3, e3, s0, s1, s2⟩ := (HA.out.each k hkl).sy j hjl
              have t0 := lkeep HB1.out s0
              have t1 : wr.cell? ⟨(a3.add (j * 3)).block, (a3.add (j * 3)).off + 1, none⟩ = some (.int .i8 (sKind (ob l k).ss j)) := lkeep HB1.out s1
              have t2 : wr.cell? ⟨(a3.add (j * 3)).block, (a3.add (j * 3)).off + 2, none⟩ = some (.int .i64 (sAt (ob l k).ss j)) := lkeep HB1.out s2
              rw [e3] at x4
              clear s0 s1 s2 e3
              cases hn : ((sName (ob l k).ss j).toList == nm.toList)
              · have HS2 : Hid _ := fst_step HS.out (hitS_no (kd := kd) (Or.inl hn))
                go_wp2
                go_roundw
                case rel => exact ⟨j + 1, by go_num, by omega, HS2, lb_alloc HB1.out _⟩
                case measure => simp [intOf]; omega
              cases hd : (sKind (ob l k).ss j == kd)
              · have HS2 : Hid _ := fst_step HS.out (hitS_no (nm := nm) (Or.inr hd))
                go_wp2
                go_roundw
                case rel => exact ⟨j + 1, by go_num, by omega, HS2, lb_alloc HB1.out _⟩
                case measure => simp [intOf]; omega
              have HX : Hid (firstF nm kd l _ s = some (k, sAt (ob l k).ss j)) := fst_hit HN.out (hitO_yes HS.out (hitS_yes hn hd) hup) hlt
              have hbz := res_keep (w1 := (wr.alloc (.cells #[.string (sName (ob l k).ss j), .int .i8 (sKind (ob l k).ss j), .int .i64 (sAt (ob l k).ss j)] 131))) HZ.out (lb_alloc HB1.out _)
              obtain ⟨z0, z1, y0, y1⟩ := hbz
              have HBz : Hid (Below w.heap.size w (wr.alloc (.cells #[.string (sName (ob l k).ss j), .int .i8 (sKind (ob l k).ss j), .int .i64 (sAt (ob l k).ss j)] 131))) := lb_trans HB0.out (lb_alloc HB1.out _)
              go_wp2
              refine bodyPost_ret (v := .tuple #[.agg #[.int .i64 (k : Nat), .int .i64 (sAt (ob l k).ss j)], .bool true]) (by simp [results, Tryz.results98, go_sem, z0, z1]) rfl ⟨?_, (HBz.out.setCell (Nat.le_refl _) _).setCell (Nat.le_refl _) _⟩
              rw [HX.out]; rfl
          · have hjl' : ¬ (j : Int) < ((ob l k).ss.length : Int) := by omega
            have HN2 : Hid _ := fst_step HN.out (hitO_no (o := o) (s := s) HS.out (by unfold upTo; split <;> omega))
            go_wp2
            go_roundw
            case rel => exact ⟨k + 1, by go_num, by omega, HN2, HB1⟩
            case measure => simp [intOf]; omega
      · have hko' : ¬ (k : Int) ≤ (o : Int) := by omega
        have HX : Hid (firstF nm kd l o s = none) := fst_none (fun j hj => HN.out j (by omega))
        have hbz := res_keep (w1 := wr) HZ.out HB.out
        obtain ⟨z0, z1, y0, y1⟩ := hbz
        have HBz : Hid (Below w.heap.size w wr) := lb_trans HB0.out HB.out
        go_wp2
        refine bodyPost_ret (v := .tuple #[.agg #[.int .i64 0, .int .i64 0], .bool false]) (by simp [results, Tryz.results98, go_sem, z0, z1]) rfl ⟨?_, (HBz.out.setCell (Nat.le_refl _) _).setCell (Nat.le_refl _) _⟩
        rw [HX.out]; rfl
    · have hkl' : ¬ (k : Int) < (l.length : Int) := by omega
      have HX : Hid (firstF nm kd l o s = none) := fst_none (fun j hj => HN.out j (by omega))
      have hbz := res_keep (w1 := wr) HZ.out HB.out
      obtain ⟨z0, z1, y0, y1⟩ := hbz
      have HBz : Hid (Below w.heap.size w wr) := lb_trans HB0.out HB.out
      go_wp2
      refine bodyPost_ret (v := .tuple #[.agg #[.int .i64 0, .int .i64 0], .bool false]) (by simp [results, Tryz.results98, go_sem, z0, z1]) rfl ⟨?_, (HBz.out.setCell (Nat.le_refl _) _).setCell (Nat.le_refl _) _⟩
      rw [HX.out]; rfl



end Go.Proofs.YthpkekpojhmaaaaGreatDoor

namespace Go.Proofs.YthpkekpojhmaaaaGreatDoor
open Go.RowKit

open Go.Maps Go.WideMaps
theorem grown_below {w w1 w2 : World} {B b : Nat} (h : Below B w w1) (hg : w1.grownBy w2 (some b)) (hb : B ≤ b) (hB : B ≤ w1.heap.size) : Below B w w2 := h.grown hg hB (fun j hj => by cases hj; exact hb)
theorem cell_grown {w w1 : World} {a : Addr} {b : Nat} {v : Value} (h : w.cell? a = some v) (hg : w.grownBy w1 (some b)) (hb : a.block ≠ b) : w1.cell? a = some v := by
  rw [World.cell?_of_block (hg.block a.block ?_ (by simpa using hb))]
  · exact h
  · by_cases hh : a.block < w.heap.size
    · exact hh
    · simp [World.cell?, Array.getElem?_eq_none (by omega : w.heap.size ≤ a.block)] at h
theorem two34 {w0 w1 : World} {g b : Nat} (h : w0.heap[g]? = some (.cells #[.int .i64 0, .int .i64 0] 69 (0, 0))) (hg : w0.grownBy w1 (some b)) (hb : g ≠ b) : w1.cell? ⟨g, 0, none⟩ = some (.int .i64 0) ∧ w1.cell? ⟨g, 1, none⟩ = some (.int .i64 0) ∧ w1.frozen? ⟨g, 0, none⟩ = false ∧ w1.frozen? ⟨g, 1, none⟩ = false := by
  have hl : g < w0.heap.size := by
    by_cases hl : g < w0.heap.size
    · exact hl
    · rw [Array.getElem?_eq_none (by omega)] at h; cases h
  have h1 : w1.heap[g]? = some (.cells #[.int .i64 0, .int .i64 0] 69 (0, 0)) := by rw [hg.block g hl (by simpa using hb)]; exact h
  refine ⟨?_, ?_, ?_, ?_⟩ <;> simp [World.cell?, World.frozen?, h1]
theorem mk62 (w : World) : (Instr.makeMap 121 none).run Tryz.prog w = .ok (.map (some w.heap.size)) (w.alloc (.map #[] 0)) := by
  simp [Instr.makeMap, Result.andThen]
set_option maxHeartbeats 4000000 in
set_option maxRecDepth 100000 in
theorem pfind_any (A : Option Addr) (ca : Nat) (q : Nat → Pl) (l : List Ob) (nm : ByteArray) (w : World) (hA : ObsIn w A q l) (hs : nm.size ≤ 140737488355328) :
    Calls Tryz.prog 23 #[.slice A l.length ca, .string nm] w (DefP (findF nm l) w) := by
  have hmm := mk62
  obtain ⟨w0, hw0⟩ : ∃ w0, w0 = (w.alloc (.cells #[.int .i64 0, .int .i64 0] 69)).alloc (.map #[] 0) := ⟨_, rfl⟩
  have hz : w0.heap[w.heap.size]? = some (.cells #[.int .i64 0, .int .i64 0] 69 (0, 0)) := by
    rw [hw0]
    show ((w.heap.push _).push _)[w.heap.size]? = _
    rw [Array.getElem?_push_lt (by simp), Array.getElem_push_eq]
  have hk0 : Knows w0 (w.heap.size + 1) 0 (fun _ => none) := by rw [hw0]; simpa using Knows.made (w.alloc (.cells #[.int .i64 0, .int .i64 0] 69))
  have hb0 : Below w.heap.size w w0 := by rw [hw0]; exact lb_alloc (lb_alloc (Below.refl _ _) _) _
  have HB0 : Hid (Below w.heap.size w w0) := hb0
  have HZ : Hid (w0.heap[w.heap.size]? = some (.cells #[.int .i64 0, .int .i64 0] 69 (0, 0))) := hz
  have HA : Hid (ObsIn w A q l) := hA
  have hf := hA.few
  clear hA hb0 hz
  go_enter Tryz.func23, Tryz.ntmps23
  go_wp2
  go_step3
  go_wp2
  go_step3
  go_wp2
  rw [← hw0]
  go_loopw [16] (fun i wr => ∃ (k n : Nat) (f : ByteArray → Option ((Nat × Int) × Int)), i = .int .i64 k ∧ k ≤ l.length ∧ n ≤ 1048576 * k ∧ Hid (Knows wr (w.heap.size + 1) n f) ∧ Hid (f nm = seenF nm l k 0) ∧ Hid (firstF nm 1 l k 0 = none) ∧ Hid (w0.grownBy wr (some (w.heap.size + 1)))) (fun i _ => l.length - (intOf i).toNat)
  case atStart => exact ⟨0, 0, _, rfl, Nat.zero_le _, Nat.zero_le _, hk0, (seen_zero nm l).symm, firstF_zero nm 1 l, ⟨rfl, rfl, rfl, Nat.le_refl _, fun _ _ _ => rfl⟩⟩
  case round =>
    obtain ⟨k, n, f, rfl, hk, hn, HK, HF, H1, HG⟩ := hrel
    by_cases hkl : k < l.length
    · have hkl' : (k : Int) < (l.length : Int) := by omega
      have HBw : Hid (Below w.heap.size w wr) := grown_below HB0.out HG.out (by omega) HB0.out.size
      obtain ⟨a, ea, x0, x1, x2, x3, x4, x5⟩ := HA.out.cells.six HBw.out k hkl
      subst ea
      have hss := (HA.out.each k hkl).hs
      go_wp2
      go_loopw [24] (fun i wr => ∃ (j n : Nat) (f : ByteArray → Option ((Nat × Int) × Int)), i = .int .i64 j ∧ j ≤ (ob l k).ss.length ∧ n ≤ 1048576 * k + j ∧ Hid (Knows wr (w.heap.size + 1) n f) ∧ Hid (f nm = seenF nm l k j) ∧ Hid (firstF nm 1 l k j = none) ∧ Hid (w0.grownBy wr (some (w.heap.size + 1)))) (fun i _ => (ob l k).ss.length - (intOf i).toNat)
      case atStart => exact ⟨0, n, f, rfl, Nat.zero_le _, by omega, HK.out.keep (lb_alloc (Below.refl _ _) _), HF, H1, grown_alloc HG.out _⟩
      case round =>
        clear HK HF H1 HG HBw x0 x1 x2 x3 x4 x5 hn
        clear n f
        obtain ⟨j, n, f, rfl, hj, hn, HK, HF, H1, HG⟩ := hrel
        have HBw : Hid (Below w.heap.size w wr) := grown_below HB0.out HG.out (by omega) HB0.out.size
        by_cases hjl : j < (ob l k).ss.length
        · have hjl' : (j : Int) < ((ob l k).ss.length : Int) := by omega
          obtain ⟨a3, e3, s0, s1, s2⟩ := (HA.out.each k hkl).sy j hjl
          have t0 := lkeep HBw.out s0
          have t1 : wr.cell? ⟨(a3.add (j * 3)).block, (a3.add (j * 3)).off + 1, none⟩ = some (.int .i8 (sKind (ob l k).ss j)) := lkeep HBw.out s1
          have t2 : wr.cell? ⟨(a3.add (j * 3)).block, (a3.add (j * 3)).off + 2, none⟩ = some (.int .i64 (sAt (ob l k).ss j)) := lkeep HBw.out s2
          rw [e3]
          clear s0 s1 s2
          cases hnm : ((sName (ob l k).ss j).toList == nm.toList)
          · have HF2 : Hid (f nm = seenF nm l k (j + 1)) := by rw [Hid, seen_other hkl hjl hnm]; exact HF.out
            have H12 : Hid (firstF nm 1 l k (j + 1) = none) := firstF_same hkl hjl (hitS_no (Or.inl hnm)) H1.out
            go_wp2
            go_roundw
            case rel => exact ⟨j + 1, n, f, by go_num, by omega, by omega, HK.out.keep (lb_alloc (Below.refl _ _) _), HF2, H12, grown_alloc HG.out _⟩
            case measure => simp [intOf]; omega
          · have CL := learn_any (w.heap.size + 1) n f (sName (ob l k).ss j) (sKind (ob l k).ss j) (sAt (ob l k).ss j) k (wr.alloc (.cells #[.string (sName (ob l k).ss j), .int .i8 (sKind (ob l k).ss j), .int .i64 (sAt (ob l k).ss j)] 131)) (HK.out.keep (lb_alloc (Below.refl _ _) _)) (by omega) ((HA.out.each k hkl).hN j)
            have hF2 := find_put hkl hjl hnm HF.out H1.out
            have hlt := HK.out.lt
            go_wp2_with fail
            refine CL.mono ?_
            rintro e w2 ⟨rfl, hk2, hg2⟩
            have u1 : w2.cell? ⟨wr.heap.size, 1, none⟩ = some (.int .i8 (sKind (ob l k).ss j)) := cell_grown (by simp [go_sem]) hg2 (by simp; omega)
            have HG2 : Hid (w0.grownBy w2 (some (w.heap.size + 1))) := (grown_alloc HG.out _).trans hg2
            generalize hf' : putF f (sName (ob l k).ss j) (learnV (f (sName (ob l k).ss j)) k (sAt (ob l k).ss j) (sKind (ob l k).ss j)) = f' at hk2 hF2
            have HF2 : Hid (f' nm = seenF nm l k (j + 1)) := hF2
            have HK2 : Hid (Knows w2 (w.heap.size + 1) (n + 1) f') := hk2
            clear CL hk2 hg2 hf' HK hF2
            cases hd : (sKind (ob l k).ss j == 1)
            · have H12 : Hid (firstF nm 1 l k (j + 1) = none) := firstF_same hkl hjl (hitS_no (Or.inr hd)) H1.out
              go_wp2
              go_roundw
              case rel => exact ⟨j + 1, n + 1, f', by go_num, by omega, by omega, HK2, HF2, H12, HG2⟩
              case measure => simp [intOf]; omega
            · have HT : Hid (Tells (f' nm) (findF nm l)) := by rw [HF2.out]; exact tells_hit hkl hjl hnm H1.out hd
              obtain ⟨z0, z1, y0, y1⟩ := two34 (w1 := w2.alloc (.cells #[.int .i64 (mI (f' nm)), .int .i64 (mA (f' nm)), .int .i8 (mK (f' nm))] 134)) HZ.out (grown_alloc HG2.out _) (by omega)
              have HBz : Hid (Below w.heap.size w (w2.alloc (.cells #[.int .i64 (mI (f' nm)), .int .i64 (mA (f' nm)), .int .i8 (mK (f' nm))] 134))) := grown_below HB0.out (grown_alloc HG2.out _) (by omega) HB0.out.size
              go_wp2_with (at_lookup; refine wpList_look_ok _ rfl _ _ rfl (w.heap.size + 1) _ f' HK2.out nm hs rfl rfl ?_; unfold mVal)
              try rw [Exit.noGoto_ret]
              refine bodyPost_ret (v := .tuple #[.agg #[.int .i64 (mI (f' nm)), .int .i64 (mA (f' nm))], .bool (f' nm).isSome]) (by simp [results, Tryz.results23, go_sem, z0, z1]) rfl ⟨?_, (HBz.out.setCell (Nat.le_refl _) _).setCell (Nat.le_refl _) _⟩
              rw [HT.out.1, HT.out.2.1, HT.out.2.2]
        · have hjl' : ¬ (j : Int) < ((ob l k).ss.length : Int) := by omega
          obtain rfl : j = (ob l k).ss.length := by omega
          have HF2 : Hid (f nm = seenF nm l (k + 1) 0) := by rw [Hid, seen_next nm l hkl]; exact HF.out
          have H12 : Hid (firstF nm 1 l (k + 1) 0 = none) := by rw [Hid, firstF_next nm 1 l hkl]; exact H1.out
          go_wp2
          go_roundw
          case rel => exact ⟨k + 1, n, f, by go_num, by omega, by omega, HK, HF2, H12, HG⟩
          case measure => simp [intOf]; omega
    · have hkl' : ¬ (k : Int) < (l.length : Int) := by omega
      obtain rfl : k = l.length := by omega
      have HT : Hid (Tells (f nm) (findF nm l)) := by rw [HF.out]; exact tells_full nm l
      obtain ⟨z0, z1, y0, y1⟩ := two34 (w1 := wr.alloc (.cells #[.int .i64 (mI (f nm)), .int .i64 (mA (f nm)), .int .i8 (mK (f nm))] 134)) HZ.out (grown_alloc HG.out _) (by omega)
      have HBz : Hid (Below w.heap.size w (wr.alloc (.cells #[.int .i64 (mI (f nm)), .int .i64 (mA (f nm)), .int .i8 (mK (f nm))] 134))) := grown_below HB0.out (grown_alloc HG.out _) (by omega) HB0.out.size
      go_wp2_with (at_lookup; refine wpList_look_ok _ rfl _ _ rfl (w.heap.size + 1) _ f HK.out nm hs rfl rfl ?_; unfold mVal)
      try rw [Exit.noGoto_ret]
      refine bodyPost_ret (v := .tuple #[.agg #[.int .i64 (mI (f nm)), .int .i64 (mA (f nm))], .bool (f nm).isSome]) (by simp [results, Tryz.results23, go_sem, z0, z1]) rfl ⟨?_, (HBz.out.setCell (Nat.le_refl _) _).setCell (Nat.le_refl _) _⟩
      rw [HT.out.1, HT.out.2.1, HT.out.2.2]


end Go.Proofs.YthpkekpojhmaaaaGreatDoor

namespace Go.Proofs.YthpkekpojhmaaaaGreatDoor
open Go.RowKit

theorem ret3I {a b c d e f : Int} (h1 : a = b) (h2 : c = d) (h3 : e = f) : Ending.returned (.tuple #[.int .i64 a, .int .i64 c, .int .i64 e]) = .returned (.tuple #[.int .i64 b, .int .i64 d, .int .i64 f]) := by rw [h1, h2, h3]
theorem sameN_no {l : List Ob} {i k : Nat} (h : ((ob l k).nm.toList == (ob l i).nm.toList) = false) : sameN l i k = none := by
  unfold sameN; rw [if_neg (by rw [h]; simp)]
theorem sameN_yes {l : List Ob} {i k : Nat} (h : ((ob l k).nm.toList == (ob l i).nm.toList) = true) : sameN l i k = some () := by
  unfold sameN; rw [if_pos h]
set_option maxHeartbeats 4000000 in
set_option maxRecDepth 100000 in
theorem refchkl_any (A : Option Addr) (ca : Nat) (q : Nat → Pl) (l : List Ob) (w : World) (hA : ObsIn w A q l) :
    Calls Tryz.prog 96 #[.slice A l.length ca] w (ErrP (chkL l) w) := by
  have HA : Hid (ObsIn w A q l) := hA
  have hf := hA.few
  clear hA
  by_cases hm : 32 < l.length
  · have hm' : (32 : Int) < (l.length : Int) := by omega
    have HX : Hid (chkL l = some (21, 32, 0)) := by unfold Hid chkL; rw [if_pos hm]
    go_enter Tryz.func96, Tryz.ntmps96
    go_wp2
    go_ret3
    exact ⟨ret3I (by rw [HX.out]; rfl) (by rw [HX.out]; rfl) (by rw [HX.out]; rfl), Below.refl _ _⟩
  · have hm' : ¬ (32 : Int) < (l.length : Int) := by omega
    have HX : Hid (chkL l = fstN (badO l) l.length) := by unfold Hid chkL; rw [if_neg hm]
    go_enter Tryz.func96, Tryz.ntmps96
    go_wp2
    go_loopw [5] (fun i wr => ∃ k : Nat, i = .int .i64 k ∧ k ≤ l.length ∧ Hid (∀ j, j < k → badO l j = none) ∧ Hid (Below w.heap.size w wr)) (fun i _ => l.length - (intOf i).toNat)
    case atStart => exact ⟨0, rfl, Nat.zero_le _, fun j hj => absurd hj (Nat.not_lt_zero _), Below.refl _ _⟩
    case round =>
      obtain ⟨k, rfl, hk, HN, HB⟩ := hrel
      by_cases hkl : k < l.length
      · have hkl' : (k : Int) < (l.length : Int) := by omega
        obtain ⟨a, ea, x0, x1, x2, x3, x4, x5⟩ := HA.out.cells.six HB.out k hkl
        have oA := (HA.out.each k hkl).keep HB.out
        have CC := refcheck_any (ob l k).nm (ob l k).dA (q k).A1 (q k).A2 (q k).A3 (q k).A4 (q k).c1 (ob l k).data.length (q k).c2 (q k).c3 (q k).c4 (ob l k).code (ob l k).ss (ob l k).rs wr oA.cd oA.cr oA.sy oA.rl oA.hc oA.hd oA.hs oA.hl
        obtain ⟨E, hE⟩ : ∃ E, E = (obC (ob l k)).1 := ⟨_, rfl⟩
        obtain ⟨M, hM⟩ : ∃ M, M = (obC (ob l k)).2 := ⟨_, rfl⟩
        change Calls Tryz.prog 143 _ wr (fun e w' => e = .returned (.tuple #[.int .i64 (obC (ob l k)).1, .int .i64 (obC (ob l k)).2]) ∧ Below wr.heap.size wr w') at CC
        rw [← hE, ← hM] at CC
        have HE : Hid (E = (obC (ob l k)).1) := hE
        have HM : Hid (M = (obC (ob l k)).2) := hM
        clear oA hE hM
        subst ea
        by_cases he : E = 0
        · subst he
          go_wp2_with fail
          refine CC.mono ?_
          rintro e w1 ⟨rfl, hb1⟩
          have HB1 : Hid (Below w.heap.size w w1) := lb_trans HB.out hb1
          clear CC hb1 x0 x1 x2 x3 x4 x5
          go_wp2
          go_loopw [8] (fun i wr => ∃ j : Nat, i = .int .i64 j ∧ j ≤ k ∧ Hid (∀ m, m < j → sameN l k m = none) ∧ Hid (Below w.heap.size w wr)) (fun i _ => k - (intOf i).toNat)
          case atStart => exact ⟨0, rfl, Nat.zero_le _, fun j hj => absurd hj (Nat.not_lt_zero _), HB1⟩
          case round =>
            clear HB1 HB
            obtain ⟨j, rfl, hj, HS, HB2⟩ := hrel
            by_cases hjk : j < k
            · have hjk' : (j : Int) < (k : Int) := by omega
              have hjl : j < l.length := by omega
              have hjl' : (j : Int) < (l.length : Int) := by omega
              obtain ⟨b, eb, x0, -⟩ := HA.out.cells.six HB2.out k hkl
              obtain rfl := Option.some.inj eb
              clear eb
              obtain ⟨b, eb, y0, -⟩ := HA.out.cells.six HB2.out j hjl
              obtain rfl := Option.some.inj eb
              clear eb
              cases hn : ((ob l j).nm.toList == (ob l k).nm.toList)
              · have HS2 : Hid _ := fst_step HS.out (sameN_no hn)
                go_wp2
                go_quiet (fail)
                have HB3 : Hid (Below w.heap.size w (wr.drewN nq)) := below_drewN HB2.out _
                go_wp2
                go_roundw
                case rel => exact ⟨j + 1, by go_num, by omega, HS2, HB3⟩
                case measure => simp [intOf]; omega
              · have HX2 : Hid (chkL l = some (26, (k : Int), -1)) := by
                  rw [Hid, HX.out]
                  refine fst_hit HN.out ?_ hkl
                  unfold badO
                  rw [if_pos HE.out.symm, fst_hit HS.out (sameN_yes hn) hjk]
                go_wp2
                go_quiet (fail)
                have HB3 : Hid (Below w.heap.size w (wr.drewN nq)) := below_drewN HB2.out _
                go_wp2
                go_ret3
                exact ⟨ret3I (by rw [HX2.out]; rfl) (by rw [HX2.out]; rfl) (by rw [HX2.out]; rfl), HB3.out⟩
            · have hjk' : ¬ (j : Int) < (k : Int) := by omega
              have HN2 : Hid _ := fst_step HN.out (show badO l k = none by
                unfold badO
                rw [if_pos HE.out.symm, fst_none (fun m hm => HS.out m (by omega))])
              go_wp2
              go_roundw
              case rel => exact ⟨k + 1, by go_num, by omega, HN2, HB2⟩
              case measure => simp [intOf]; omega
        · have he' : (E != 0) = true := by simpa using he
          have HX2 : Hid (chkL l = some (E, (k : Int), M)) := by
            rw [Hid, HX.out]
            refine fst_hit HN.out ?_ hkl
            unfold badO
            rw [if_neg (by rw [← HE.out]; exact he), ← HE.out, ← HM.out]
          clear he
          go_wp2_with fail
          refine CC.mono ?_
          rintro e w1 ⟨rfl, hb1⟩
          have HB1 : Hid (Below w.heap.size w w1) := lb_trans HB.out hb1
          clear CC hb1 x0 x1 x2 x3 x4 x5
          go_wp2
          go_ret3
          exact ⟨ret3I (by rw [HX2.out]; rfl) (by rw [HX2.out]; rfl) (by rw [HX2.out]; rfl), HB1.out⟩
      · have hkl' : ¬ (k : Int) < (l.length : Int) := by omega
        have HX2 : Hid (chkL l = none) := by rw [Hid, HX.out]; exact fst_none (fun j hj => HN.out j (by omega))
        go_wp2
        go_ret3
        exact ⟨ret3I (by rw [HX2.out]; rfl) (by rw [HX2.out]; rfl) (by rw [HX2.out]; rfl), HB.out⟩



end Go.Proofs.YthpkekpojhmaaaaGreatDoor
