/-
  first of the document: the first symbol of a kind and name below a place. Find of the document: what a name stands for. Letters, by the document's answer; no condition but that a byte is one. Name of the document's answer, for every text; no condition.
-/
import Derived.Test.YtiihfkjgdhfmiaaProg
import Derived.WalkKit
import Derived.WalkSpells
import Derived.WalkLawsBesides
import Derived.RowKit3
import Derived.Below
import Derived.Deep.QuietTactic
import Derived.BigQuiet
import Derived.WalkSmall
import Derived.Laws.Rows
import Derived.Test.YtiihfkjgdhfmiaaSB05
import Derived.Test.YtiihfkjgdhfmiaaSB01
namespace Go.Proofs.Ytiihfkjgdhfmiaa
open Go.RowKit

theorem res_keep {w0 w1 : World} {g : Nat} (h : w0.heap[g]? = some (.cells #[.int .i64 0, .int .i64 0] 37 (0, 0))) (hb : Below w0.heap.size w0 w1) : w1.cell? ⟨g, 0, none⟩ = some (.int .i64 0) ∧ w1.cell? ⟨g, 1, none⟩ = some (.int .i64 0) ∧ w1.frozen? ⟨g, 0, none⟩ = false ∧ w1.frozen? ⟨g, 1, none⟩ = false := by
  have hg : g < w0.heap.size := by
    by_cases hg : g < w0.heap.size
    · exact hg
    · rw [Array.getElem?_eq_none (by omega)] at h; cases h
  have h1 : w1.heap[g]? = some (.cells #[.int .i64 0, .int .i64 0] 37 (0, 0)) := by rw [hb.block g hg]; exact h
  refine ⟨?_, ?_, ?_, ?_⟩ <;> simp [World.cell?, World.frozen?, h1]
theorem ret2D {a b : Nat} {c d : Int} {x y : Bool} (h1 : a = b) (h2 : c = d) (h3 : x = y) : Ending.returned (.tuple #[.agg #[.int .i64 a, .int .i64 c], .bool x]) = .returned (.tuple #[.agg #[.int .i64 b, .int .i64 d], .bool y]) := by rw [h1, h2, h3]
set_option maxHeartbeats 4000000 in
set_option maxRecDepth 100000 in
theorem reffirst_any (A : Option Addr) (ca : Nat) (q : Nat → Pl) (l : List Ob) (nm : ByteArray) (kd : Int) (o s : Nat) (w : World) (hA : ObsIn w A q l) (ho : o ≤ 64) (hs : s ≤ 1048576) :
    Calls Try.prog 28 #[.slice A l.length ca, .string nm, .int .i8 kd, .int .i64 o, .int .i64 s] w (DefP (firstF nm kd l o s) w) := by
  obtain ⟨w0, hw0⟩ : ∃ w0, w0 = w.alloc (.cells #[.int .i64 0, .int .i64 0] 37) := ⟨_, rfl⟩
  have hb0 : Below w.heap.size w w0 := by rw [hw0]; exact lb_alloc (Below.refl _ _) _
  have HZ : Hid (w0.heap[w.heap.size]? = some (.cells #[.int .i64 0, .int .i64 0] 37 (0, 0))) := by rw [hw0]; show (w.heap.push _)[w.heap.size]? = _; simp
  have HA : Hid (ObsIn w0 A q l) := hA.keep hb0
  have HB0 : Hid (Below w.heap.size w w0) := hb0
  have hf := hA.few
  clear hA hb0
  go_enter Try.func28, Try.ntmps28
  go_wp2
  rw [← hw0]
  go_loopw [12] (fun i wr => ∃ k : Nat, i = .int .i64 k ∧ k ≤ min l.length (o + 1) ∧ Hid (∀ j, j < k → hitO nm kd l o s j = none) ∧ Hid (Below w0.heap.size w0 wr)) (fun i _ => l.length - (intOf i).toNat)
  case atStart => exact ⟨0, rfl, Nat.zero_le _, fun j hj => absurd hj (Nat.not_lt_zero _), Below.refl _ _⟩
  case round =>
    obtain ⟨k, rfl, hk, HN, HB⟩ := hrel
    by_cases hkl : k < l.length
    · have hkl' : (k : Int) < (l.length : Int) := by omega
      by_cases hko : k ≤ o
      · have hko' : (k : Int) ≤ (o : Int) := by omega
        have hlt : k < min l.length (o + 1) := by omega
        obtain ⟨a, ea, -⟩ := HA.out.cells k hkl
        subst ea
        go_wp2
        go_loopw [13] (fun i wr => ∃ j : Nat, i = .int .i64 j ∧ j ≤ upTo l o s k ∧ Hid (∀ m, m < j → hitS nm kd (ob l k).ss m = none) ∧ Hid (Below w0.heap.size w0 wr)) (fun i _ => (ob l k).ss.length - (intOf i).toNat)
        case atStart => exact ⟨0, rfl, Nat.zero_le _, fun j hj => absurd hj (Nat.not_lt_zero _), HB⟩
        case round =>
          clear HB
          obtain ⟨j, rfl, hj, HS, HB1⟩ := hrel
          obtain ⟨b, eb, x0, x1, x2, x3, x4, x5⟩ := HA.out.cells.six HB1.out k hkl
          obtain rfl := Option.some.inj eb
          have hss := (HA.out.each k hkl).hs
          clear eb x0 x1 x2 x3 x5
          by_cases hjl : j < (ob l k).ss.length
          · have hjl' : (j : Int) < ((ob l k).ss.length : Int) := by omega
            by_cases hke : k = o
            · subst hke
              by_cases hjs : s ≤ j
              · have hjs' : (s : Int) ≤ (j : Int) := by omega
                have HN2 : Hid _ := fst_step HN.out (hitO_no (o := k) (s := s) HS.out (by unfold upTo; rw [if_pos rfl]; omega))
                go_wp2
                go_roundw
                case rel => exact ⟨k + 1, by go_num, by omega, HN2, HB1⟩
                case measure => simp [intOf]; omega
              · have hjs' : ¬ (s : Int) ≤ (j : Int) := by omega
                have hup : j < upTo l k s k := by unfold upTo; rw [if_pos rfl]; omega
                obtain ⟨a3, e3, s0, s1, s2⟩ := (HA.out.each k hkl).sy j hjl
                have t0 := lkeep HB1.out s0
                have t1 : wr.cell? ⟨(a3.add (j * 3)).block, (a3.add (j * 3)).off + 1, none⟩ = some (.int .i8 (sKind (ob l k).ss j)) := lkeep HB1.out s1
                have t2 : wr.cell? ⟨(a3.add (j * 3)).block, (a3.add (j * 3)).off + 2, none⟩ = some (.int .i64 (sAt (ob l k).ss j)) := lkeep HB1.out s2
                rw [e3] at x4
                clear s0 s1 s2 e3
                cases hn : ((sName (ob l k).ss j).toList == nm.toList)
                · have HS2 : Hid _ := fst_step HS.out (hitS_no (kd := kd) (Or.inl hn))
                  go_wp2
                  go_roundw
                  case rel => exact ⟨j + 1, by go_num, by omega, HS2, lb_alloc HB1.out _⟩
                  case measure => simp [intOf]; omega
                cases hd : (sKind (ob l k).ss j == kd)
                · have HS2 : Hid _ := fst_step HS.out (hitS_no (nm := nm) (Or.inr hd))
                  go_wp2
                  go_roundw
                  case rel => exact ⟨j + 1, by go_num, by omega, HS2, lb_alloc HB1.out _⟩
                  case measure => simp [intOf]; omega
                have HX : Hid (firstF nm kd l _ s = some (k, sAt (ob l k).ss j)) := fst_hit HN.out (hitO_yes HS.out (hitS_yes hn hd) hup) hlt
                have hbz := res_keep (w1 := (wr.alloc (.cells #[.string (sName (ob l k).ss j), .int .i8 (sKind (ob l k).ss j), .int .i64 (sAt (ob l k).ss j)] 52))) HZ.out (lb_alloc HB1.out _)
                obtain ⟨z0, z1, y0, y1⟩ := hbz
                have HBz : Hid (Below w.heap.size w (wr.alloc (.cells #[.string (sName (ob l k).ss j), .int .i8 (sKind (ob l k).ss j), .int .i64 (sAt (ob l k).ss j)] 52))) := lb_trans HB0.out (lb_alloc HB1.out _)
                go_wp2
                refine bodyPost_ret (v := .tuple #[.agg #[.int .i64 (k : Nat), .int .i64 (sAt (ob l k).ss j)], .bool true]) (by simp [results, Try.results28, go_sem, z0, z1]) rfl ⟨?_, (HBz.out.setCell (Nat.le_refl _) _).setCell (Nat.le_refl _) _⟩
                rw [HX.out]; rfl
            · have hke' : ((k : Int) == (o : Int)) = false := by simpa using (by omega : ¬ (k : Int) = (o : Int))
              have hup : j < upTo l o s k := by unfold upTo; rw [if_neg hke]; exact hjl
              obtain ⟨a3, e3, s0, s1, s2⟩ := (HA.out.each k hkl).sy j hjl
              have t0 := lkeep HB1.out s0
              have t1 : wr.cell? ⟨(a3.add (j * 3)).block, (a3.add (j * 3)).off + 1, none⟩ = some (.int .i8 (sKind (ob l k).ss j)) := lkeep HB1.out s1
              have t2 : wr.cell? ⟨(a3.add (j * 3)).block, (a3.add (j * 3)).off + 2, none⟩ = some (.int .i64 (sAt (ob l k).ss j)) := lkeep HB1.out s2
              rw [e3] at x4
              clear s0 s1 s2 e3
              cases hn : ((sName (ob l k).ss j).toList == nm.toList)
              · have HS2 : Hid _ := fst_step HS.out (hitS_no (kd := kd) (Or.inl hn))
                go_wp2
                go_roundw
                case rel => exact ⟨j + 1, by go_num, by omega, HS2, lb_alloc HB1.out _⟩
                case measure => simp [intOf]; omega
              cases hd : (sKind (ob l k).ss j == kd)
              · have HS2 : Hid _ := fst_step HS.out (hitS_no (nm := nm) (Or.inr hd))
                go_wp2
                go_roundw
                case rel => exact ⟨j + 1, by go_num, by omega, HS2, lb_alloc HB1.out _⟩
                case measure => simp [intOf]; omega
              have HX : Hid (firstF nm kd l _ s = some (k, sAt (ob l k).ss j)) := fst_hit HN.out (hitO_yes HS.out (hitS_yes hn hd) hup) hlt
              have hbz := res_keep (w1 := (wr.alloc (.cells #[.string (sName (ob l k).ss j), .int .i8 (sKind (ob l k).ss j), .int .i64 (sAt (ob l k).ss j)] 52))) HZ.out (lb_alloc HB1.out _)
              obtain ⟨z0, z1, y0, y1⟩ := hbz
              have HBz : Hid (Below w.heap.size w (wr.alloc (.cells #[.string (sName (ob l k).ss j), .int .i8 (sKind (ob l k).ss j), .int .i64 (sAt (ob l k).ss j)] 52))) := lb_trans HB0.out (lb_alloc HB1.out _)
              go_wp2
              refine bodyPost_ret (v := .tuple #[.agg #[.int .i64 (k : Nat), .int .i64 (sAt (ob l k).ss j)], .bool true]) (by simp [results, Try.results28, go_sem, z0, z1]) rfl ⟨?_, (HBz.out.setCell (Nat.le_refl _) _).setCell (Nat.le_refl _) _⟩
              rw [HX.out]; rfl
          · have hjl' : ¬ (j : Int) < ((ob l k).ss.length : Int) := by omega
            have HN2 : Hid _ := fst_step HN.out (hitO_no (o := o) (s := s) HS.out (by unfold upTo; split <;> omega))
            go_wp2
            go_roundw
            case rel => exact ⟨k + 1, by go_num, by omega, HN2, HB1⟩
            case measure => simp [intOf]; omega
      · have hko' : ¬ (k : Int) ≤ (o : Int) := by omega
        have HX : Hid (firstF nm kd l o s = none) := fst_none (fun j hj => HN.out j (by omega))
        have hbz := res_keep (w1 := wr) HZ.out HB.out
        obtain ⟨z0, z1, y0, y1⟩ := hbz
        have HBz : Hid (Below w.heap.size w wr) := lb_trans HB0.out HB.out
        go_wp2
        refine bodyPost_ret (v := .tuple #[.agg #[.int .i64 0, .int .i64 0], .bool false]) (by simp [results, Try.results28, go_sem, z0, z1]) rfl ⟨?_, (HBz.out.setCell (Nat.le_refl _) _).setCell (Nat.le_refl _) _⟩
        rw [HX.out]; rfl
    · have hkl' : ¬ (k : Int) < (l.length : Int) := by omega
      have HX : Hid (firstF nm kd l o s = none) := fst_none (fun j hj => HN.out j (by omega))
      have hbz := res_keep (w1 := wr) HZ.out HB.out
      obtain ⟨z0, z1, y0, y1⟩ := hbz
      have HBz : Hid (Below w.heap.size w wr) := lb_trans HB0.out HB.out
      go_wp2
      refine bodyPost_ret (v := .tuple #[.agg #[.int .i64 0, .int .i64 0], .bool false]) (by simp [results, Try.results28, go_sem, z0, z1]) rfl ⟨?_, (HBz.out.setCell (Nat.le_refl _) _).setCell (Nat.le_refl _) _⟩
      rw [HX.out]; rfl


end Go.Proofs.Ytiihfkjgdhfmiaa

namespace Go.Proofs.Ytiihfkjgdhfmiaa
open Go.RowKit

theorem few_len {w : World} {A : Option Addr} {q : Nat → Pl} {l : List Ob} (h : ObsIn w A q l) : (l.length : Int) ≤ 64 := by have := h.few; omega
set_option maxHeartbeats 4000000 in
set_option maxRecDepth 100000 in
theorem reffind_any (A : Option Addr) (ca : Nat) (q : Nat → Pl) (l : List Ob) (nm : ByteArray) (w : World) (hA : ObsIn w A q l) :
    Calls Try.prog 11 #[.slice A l.length ca, .string nm] w (DefP (findF nm l) w) := by
  obtain ⟨w0, hw0⟩ : ∃ w0, w0 = w.alloc (.cells #[.int .i64 0, .int .i64 0] 37) := ⟨_, rfl⟩
  have hb0 : Below w.heap.size w w0 := by rw [hw0]; exact lb_alloc (Below.refl _ _) _
  have HZ : Hid (w0.heap[w.heap.size]? = some (.cells #[.int .i64 0, .int .i64 0] 37 (0, 0))) := by rw [hw0]; show (w.heap.push _)[w.heap.size]? = _; simp
  have HB0 : Hid (Below w.heap.size w w0) := hb0
  have CF : Hid (∀ kd wx, Below w.heap.size w wx → Calls Try.prog 28 #[.slice A l.length ca, .string nm, .int .i8 kd, .int .i64 l.length, .int .i64 0] wx (DefP (firstF nm kd l l.length 0) wx)) := fun kd wx hx => reffirst_any A ca q l nm kd l.length 0 wx (hA.keep hx) hA.few (by omega)
  have hf := hA.few
  clear hA hb0
  have C1 := CF.out 1 w0 HB0.out
  obtain ⟨x, hx⟩ : ∃ x, x = firstF nm 1 l l.length 0 := ⟨_, rfl⟩
  rw [← hx] at C1
  unfold DefP at C1
  have HX : Hid (x = firstF nm 1 l l.length 0) := hx
  clear hx
  go_enter Try.func11, Try.ntmps11
  go_wp2_with fail
  rw [← hw0]
  refine C1.mono ?_
  rintro e w1 ⟨rfl, hb1⟩
  have HB1 : Hid (Below w0.heap.size w0 w1) := hb1
  clear C1 hb1
  cases x with
  | some x =>
    have HF : Hid (findF nm l = some x) := by unfold Hid findF; rw [← HX.out]
    obtain ⟨z0, z1, y0, y1⟩ := res_keep (w1 := w1.alloc (.cells #[.int .i64 x.1, .int .i64 x.2] 37)) HZ.out (lb_alloc HB1.out _)
    have HBz : Hid (Below w.heap.size w (w1.alloc (.cells #[.int .i64 x.1, .int .i64 x.2] 37))) := lb_trans HB0.out (lb_alloc HB1.out _)
    have e1 : dfI (some x) = x.1 := rfl
    have e2 : dfA (some x) = x.2 := rfl
    have e3 : (some x).isSome = true := rfl
    rw [e1, e2, e3]
    go_wp2
    refine bodyPost_ret (v := .tuple #[.agg #[.int .i64 x.1, .int .i64 x.2], .bool true]) (by simp [results, Try.results11, go_sem, z0, z1]) rfl ⟨?_, (HBz.out.setCell (Nat.le_refl _) _).setCell (Nat.le_refl _) _⟩
    rw [HF.out]; rfl
  | none =>
    have HF : Hid (findF nm l = firstF nm 2 l l.length 0) := by unfold Hid findF; rw [← HX.out]
    have C2 := CF.out 2 (w1.alloc (.cells #[.int .i64 0, .int .i64 0] 37)) (lb_trans HB0.out (lb_alloc HB1.out _))
    rw [← HF.out] at C2
    unfold DefP at C2
    have e1 : dfI none = 0 := rfl
    have e2 : dfA none = 0 := rfl
    have e3 : (none : Option (Nat × Int)).isSome = false := rfl
    rw [e1, e2, e3]
    go_wp2_with fail
    refine C2.mono ?_
    rintro e w2 ⟨rfl, hb2⟩
    obtain ⟨z0, z1, y0, y1⟩ := res_keep (w1 := w2) HZ.out (lb_trans (lb_alloc HB1.out _) hb2)
    have HBz : Hid (Below w.heap.size w w2) := lb_trans HB0.out (lb_trans (lb_alloc HB1.out _) hb2)
    clear C2 hb2
    generalize hX : findF nm l = X
    go_wp2
    exact bodyPost_ret (v := .tuple #[.agg #[.int .i64 (dfI X), .int .i64 (dfA X)], .bool X.isSome]) (by simp [results, Try.results11, go_sem, z0, z1]) rfl ⟨by rw [hX], (HBz.out.setCell (Nat.le_refl _) _).setCell (Nat.le_refl _) _⟩


end Go.Proofs.Ytiihfkjgdhfmiaa

namespace Go.Proofs.Ytiihfkjgdhfmiaa
open Go.RowKit

theorem letter_any (b : Int) (h0 : 0 ≤ b) (h1 : b ≤ 255) (w : World) : Calls Try.prog 79 #[.int .u8 b] w fun e w' => e = .returned (.bool (ltrI b)) ∧ w' = w := by
  by_cases h1 : 97 ≤ b
  · by_cases h2 : b ≤ 122
    · rw [show ltrI b = true from decide_eq_true (by omega)]
      go_enter Try.func79, Try.ntmps79
      go_wp2
      go_ret
      exact ⟨by first | rfl | (simp [*]; done), rfl⟩
    · rw [show ltrI b = false from decide_eq_false (by omega)]
      have h3 : 65 ≤ b := by omega
      have h4 : ¬ b ≤ 90 := by omega
      have h5 : (b == 95) = false := by simp; omega
      go_enter Try.func79, Try.ntmps79
      go_wp2
      go_ret
      exact ⟨by first | rfl | (simp [*]; done), rfl⟩
  · by_cases h3 : 65 ≤ b
    · by_cases h4 : b ≤ 90
      · rw [show ltrI b = true from decide_eq_true (by omega)]
        go_enter Try.func79, Try.ntmps79
        go_wp2
        go_ret
        exact ⟨by first | rfl | (simp [*]; done), rfl⟩
      · by_cases h5 : b = 95
        · rw [show ltrI b = true from decide_eq_true (by omega)]
          have h6 : (b == 95) = true := by simpa using h5
          clear h5
          go_enter Try.func79, Try.ntmps79
          go_wp2
          go_ret
          exact ⟨by first | rfl | (simp [*]; done), rfl⟩
        · rw [show ltrI b = false from decide_eq_false (by omega)]
          have h6 : (b == 95) = false := by simpa using h5
          go_enter Try.func79, Try.ntmps79
          go_wp2
          go_ret
          exact ⟨by first | rfl | (simp [*]; done), rfl⟩
    · rw [show ltrI b = false from decide_eq_false (by omega)]
      have h6 : (b == 95) = false := by simp; omega
      go_enter Try.func79, Try.ntmps79
      go_wp2
      go_ret
      exact ⟨by first | rfl | (simp [*]; done), rfl⟩
theorem let_at (s : ByteArray) (k : Nat) (h : k < s.size) (x : Bool) (e : ltrI s[k].toNat = x) (w : World) : Calls Try.prog 79 #[.int .u8 s[k].toNat] w fun e w' => e = .returned (.bool x) ∧ w' = w := by
  have := letter_any s[k].toNat (by omega) (by have := s[k].toNat_lt; omega) w
  rw [e] at this; exact this
set_option maxRecDepth 100000 in
set_option maxHeartbeats 1000000 in
theorem refname_any (s : ByteArray) (w : World) : Calls Try.prog 71 #[.string s] w fun e w' => e = .returned (.bool (nameOK s)) ∧ w' = w := by
  by_cases h0 : s.size = 0
  · have HN : Hid (nameOK s = false) := name_nil s h0
    have h0' : ((s.size : Int) == 0) = true := by simpa using h0
    clear h0
    go_enter Try.func71, Try.ntmps71
    go_wp2
    go_ret
    exact ⟨retB HN.out.symm, rfl⟩
  have hp : 0 < s.size := by omega
  have h0' : ((s.size : Int) == 0) = false := by simpa using h0
  have hN := name_cons s hp
  clear h0
  by_cases h1 : 24 < s.size
  · rw [decide_eq_false (by omega)] at hN
    have HN : Hid _ := hN
    clear hN
    go_enter Try.func71, Try.ntmps71
    go_wp2
    go_ret
    exact ⟨retB HN.out.symm, rfl⟩
  rw [decide_eq_true (by omega)] at hN
  cases h2 : ltrI s[0].toNat with
  | false =>
    have C := let_at s 0 hp false h2
    rw [h2] at hN
    have HN : Hid _ := hN
    clear hN h2
    go_enter Try.func71, Try.ntmps71
    go_wp2_with fail
    refine (C _).mono ?_
    rintro e w1 ⟨rfl, rfl⟩
    go_wp2
    go_ret
    exact ⟨retB HN.out.symm, rfl⟩
  | true =>
    have C := let_at s 0 hp true h2
    rw [h2, Bool.and_self, Bool.true_and] at hN
    have HN : Hid _ := hN
    clear hN h2
    go_enter Try.func71, Try.ntmps71
    go_wp2_with fail
    refine (C _).mono ?_
    rintro e w1 ⟨rfl, rfl⟩
    clear C
    go_wp2
    go_loop [3] (fun i => ∃ k : Nat, i = .int .i64 k ∧ k ≤ s.size ∧ Hid (goodL (s.data.toList.drop k) = nameOK s)) (fun i => s.size - (intOf i).toNat)
    case atStart => exact ⟨1, rfl, by omega, HN.out.symm⟩
    case round =>
      obtain ⟨k, rfl, hk, HT⟩ := hrel
      by_cases hlt : k < s.size
      · cases h3 : ltrI s[k].toNat with
        | true =>
          have C := let_at s k hlt true h3
          have HG : Hid _ := good_on hlt (show goodI s[k].toNat = true by unfold goodI; rw [h3]; rfl)
          clear h3
          go_wp2_with fail
          refine (C _).mono ?_
          rintro e w1 ⟨rfl, rfl⟩
          go_wp2
          go_round
          case rel => exact ⟨k + 1, by go_num, by omega, by rw [Hid, ← HG.out]; exact HT.out⟩
          case measure => simp [intOf]; omega
        | false =>
          have C := let_at s k hlt false h3
          by_cases h4 : 48 ≤ (s[k].toNat : Int) ∧ (s[k].toNat : Int) ≤ 57
          · have HG : Hid _ := good_on hlt (show goodI s[k].toNat = true by unfold goodI dgtI; rw [decide_eq_true h4]; simp)
            clear h3
            obtain ⟨h5, h6⟩ := h4
            go_wp2_with fail
            refine (C _).mono ?_
            rintro e w1 ⟨rfl, rfl⟩
            go_wp2
            go_round
            case rel => exact ⟨k + 1, by go_num, by omega, by rw [Hid, ← HG.out]; exact HT.out⟩
            case measure => simp [intOf]; omega
          · cases h7 : ((s[k].toNat : Int) == 46) with
            | true =>
              have HG : Hid _ := good_on hlt (show goodI s[k].toNat = true by unfold goodI; rw [h7]; simp)
              clear h3
              have h5 : ¬ 48 ≤ (s[k].toNat : Int) := by
                have : (s[k].toNat : Int) = 46 := by simpa using h7
                omega
              clear h4
              go_wp2_with fail
              refine (C _).mono ?_
              rintro e w1 ⟨rfl, rfl⟩
              go_wp2
              go_round
              case rel => exact ⟨k + 1, by go_num, by omega, by rw [Hid, ← HG.out]; exact HT.out⟩
              case measure => simp [intOf]; omega
            | false =>
              have HG : Hid _ := good_no hlt (show goodI s[k].toNat = false by unfold goodI dgtI; rw [h3, h7, decide_eq_false h4]; rfl)
              clear h3
              by_cases h5 : 48 ≤ (s[k].toNat : Int)
              · have h6 : ¬ (s[k].toNat : Int) ≤ 57 := fun h => h4 ⟨h5, h⟩
                have h8 : decide ((s[k].toNat : Int) ≤ 57) = false := decide_eq_false h6
                clear h4
                go_wp2_with fail
                refine (C _).mono ?_
                rintro e w1 ⟨rfl, rfl⟩
                go_wp2
                go_ret
                exact ⟨retB (by rw [← HT.out, HG.out]), rfl⟩
              · clear h4
                go_wp2_with fail
                refine (C _).mono ?_
                rintro e w1 ⟨rfl, rfl⟩
                go_wp2
                go_ret
                exact ⟨retB (by rw [← HT.out, HG.out]), rfl⟩
      · have HG : Hid _ := good_end (by omega : s.size ≤ k)
        go_wp2
        go_ret
        exact ⟨retB (by rw [← HT.out, HG.out]), rfl⟩





end Go.Proofs.Ytiihfkjgdhfmiaa
