/-
  The document's Prefix, Right, All, Prefixes and Cost.
-/
import Derived.Test.YtpmaiblgnblpeaaDoorProg
import Derived.WalkKit
import Derived.WalkSpells
import Derived.WalkLawsBesides
import Derived.RowKit3
import Derived.Below
import Derived.Deep.QuietTactic
import Derived.BigQuiet
import Derived.WalkSmall
import Derived.Laws.Rows
import Derived.Test.YtpmaiblgnblpeaaDoorPf09
import Derived.Test.YtpmaiblgnblpeaaDoorPf08
import Derived.Test.YtpmaiblgnblpeaaDoorPf10
import Derived.Test.YtpmaiblgnblpeaaDoorPf17
import Derived.Test.YtpmaiblgnblpeaaDoorPf31
import Derived.Lib.MinMax
import Derived.OwnWalk
import Derived.Deep.Cut
import Derived.Deep.RegionHeld3
namespace Go.Proofs.YtpmaiblgnblpeaaDoor
open Go.RowKit

set_option maxRecDepth 100000 in
set_option maxHeartbeats 2000000 in
theorem refless_q (A : Option Addr) (c : Nat) (l : List Int) (i k : Nat) (w : World) (hA : IntsAt w A .i64 l) (hl : l.length ≤ 1048576) (hi : i ≤ l.length) (hk : k ≤ l.length) :
    Calls Tryd.prog 43 #[.slice A l.length c, .int .i64 (i : Int), .int .i64 (k : Int)] w fun e w' => e = .returned (.bool (lsS l i k)) ∧ ∃ m, w' = w.drewN m := by
  have HA : Hid (IntsAt w A .i64 l) := hA
  clear hA
  go_enter Tryd.func43, Tryd.ntmps43
  go_wp2
  go_loopw [1, 2] (fun x y wr => ∃ p q m : Nat, x = .int .i64 (p : Int) ∧ y = .int .i64 (q : Int) ∧ p ≤ l.length ∧ q ≤ l.length ∧ Hid (lsS l p q = lsS l i k) ∧ wr = w.drewN m) (fun x _ _ => l.length - (intOf x).toNat)
  case atStart => exact ⟨i, k, 0, rfl, rfl, hi, hk, rfl, rfl⟩
  case round =>
    obtain ⟨p, q, m, rfl, rfl, hp, hq, HS, rfl⟩ := hrel
    clear hi hk
    by_cases a1 : p < l.length
    · have b1 : (p : Int) < (l.length : Int) := by omega
      by_cases a2 : q < l.length
      · have b2 : (q : Int) < (l.length : Int) := by omega
        obtain ⟨a, ea, q1⟩ := HA.out p a1
        subst ea
        obtain ⟨a', ea', q2⟩ := HA.out q a2
        obtain rfl := Option.some.inj ea'
        by_cases he : nth l p = nth l q
        · have HS2 : Hid (lsS l (p + 1) (q + 1) = lsS l i k) := by
            unfold Hid
            rw [← HS.out, lsS_step a1 a2, if_pos he]
          rw [he] at q1
          generalize nth l q = x at *
          clear he
          go_upto_region 2 with fail
          go_quiet (fail)
          go_wp2
          go_roundw
          case rel => exact ⟨p + 1, q + 1, _, by go_num, by go_num, by omega, by omega, HS2, rfl⟩
          case measure => simp [intOf]; omega
        · have HS2 : Hid (lsS l i k = decide (nth l p < nth l q)) := by
            unfold Hid
            rw [← HS.out, lsS_step a1 a2, if_neg he]
          have hx : (nth l p != nth l q) = true := by simpa using he
          clear HS he
          generalize nth l p = x at *
          generalize nth l q = y at *
          go_upto_region 2 with fail
          go_quiet (fail)
          go_upto_region 3 with fail
          go_quiet (fail)
          go_wp2
          go_ret
          exact ⟨by rw [HS2.out]; rfl, _, rfl⟩
      · have b2 : ¬ (q : Int) < (l.length : Int) := by omega
        have b3 : ((p : Int) == (l.length : Int)) = false := by rw [beq_eq_false_iff_ne]; omega
        have HS2 : Hid (lsS l i k = false) := by
          unfold Hid
          rw [← HS.out, lsS_endK (by omega)]
        go_wp2
        go_ret
        exact ⟨by rw [HS2.out]; rfl, _, rfl⟩
    · obtain rfl : p = l.length := by omega
      have HS2 : Hid (lsS l i k = decide (q < l.length)) := by
        unfold Hid
        rw [← HS.out, lsS_endI (Nat.le_refl _)]
      go_wp2
      go_ret
      exact ⟨by rw [HS2.out]; rfl, _, rfl⟩
set_option maxRecDepth 100000 in
set_option maxHeartbeats 2000000 in
theorem refprefix_q (A : Option Addr) (c : Nat) (l : List Int) (x y : Nat) (w : World) (hA : IntsAt w A .i64 l) (hl : l.length ≤ 1048576) (hx : x < l.length) (hy : y < l.length) :
    Calls Tryd.prog 51 #[.slice A l.length c, .int .i64 (x : Int), .int .i64 (y : Int)] w fun e w' => e = .returned (.int .i64 ((cpS l x y : Nat) : Int)) ∧ ∃ m, w' = w.drewN m := by
  have HST : Hid (∀ s, s ≤ cpS l x y → (x + s < l.length → y + s < l.length → nth l (x + s) = nth l (y + s) → s + 1 ≤ cpS l x y) ∧ (¬ x + s < l.length → cpS l x y = s) ∧ (¬ y + s < l.length → cpS l x y = s) ∧ (x + s < l.length → y + s < l.length → ¬ nth l (x + s) = nth l (y + s) → cpS l x y = s)) := fun s hs => by
    have e := cpS_from s hs
    refine ⟨fun h1 h2 h3 => ?_, fun h1 => ?_, fun h1 => ?_, fun h1 h2 h3 => ?_⟩
    · rw [cpS_step h1 h2, if_pos h3] at e; omega
    · rw [cpS_endI (i := x + s) (k := y + s) (by omega)] at e; exact e
    · rw [cpS_endK (i := x + s) (k := y + s) (by omega)] at e; exact e
    · rw [cpS_step h1 h2, if_neg h3] at e; omega
  have hm : cpS l x y ≤ l.length := by
    have := cpS_leI l x y
    omega
  obtain ⟨a0, ea0, -⟩ := hA x hx
  subst ea0
  have HA : Hid (IntsAt w (some a0) .i64 l) := hA
  clear hA
  generalize cpS l x y = m at *
  go_enter Tryd.func51, Tryd.ntmps51
  go_wp2
  go_loopw [7] (fun v ws => ∃ s d : Nat, v = .int .i64 (s : Int) ∧ s ≤ m ∧ ws = w.drewN d) (fun v _ => l.length - (intOf v).toNat)
  case atStart => exact ⟨0, 0, rfl, Nat.zero_le _, rfl⟩
  case round =>
    obtain ⟨s, d, rfl, hs, rfl⟩ := hrel
    have HSs : Hid _ := HST.out s hs
    obtain ⟨u, hu⟩ : ∃ u, u = x + s := ⟨_, rfl⟩
    obtain ⟨v, hv⟩ : ∃ v, v = y + s := ⟨_, rfl⟩
    have hu1 : (x : Int) + (s : Int) = (u : Int) := by omega
    have hv1 : (y : Int) + (s : Int) = (v : Int) := by omega
    have hsl : s < l.length ∨ m = s := by omega
    rw [← hu, ← hv] at HSs
    have hu60 : u ≤ 2097152 := by omega
    have hv60 : v ≤ 2097152 := by omega
    have hsv : s ≤ v := by omega
    clear hu hv hsl
    by_cases b1 : u < l.length
    · have b1' : (u : Int) < (l.length : Int) := by omega
      by_cases b2 : v < l.length
      · have b2' : (v : Int) < (l.length : Int) := by omega
        obtain ⟨x1', ex1, d1⟩ := HA.out u b1
        obtain rfl := Option.some.inj ex1
        obtain ⟨x2', ex2, d2⟩ := HA.out v b2
        obtain rfl := Option.some.inj ex2
        by_cases he : nth l u = nth l v
        · have hs2 : s + 1 ≤ m := HSs.out.1 b1 b2 he
          rw [he] at d1
          generalize nth l v = z at *
          clear he HSs
          go_upto_region 2 with fail
          go_quiet (fail)
          go_wp2
          go_roundw
          case rel => exact ⟨s + 1, _, by go_num, hs2, rfl⟩
          case measure => simp [intOf]; omega
        · have hms : Hid (m = s) := HSs.out.2.2.2 b1 b2 he
          have he' : (nth l u == nth l v) = false := by simpa using he
          generalize nth l u = z1' at *
          generalize nth l v = z2' at *
          clear he HSs
          go_upto_region 2 with fail
          go_quiet (fail)
          go_wp2
          go_ret
          exact ⟨by rw [hms.out]; rfl, _, rfl⟩
      · have b2' : ¬ (v : Int) < (l.length : Int) := by omega
        have hms : Hid (m = s) := HSs.out.2.2.1 b2
        clear HSs
        go_upto_region 2 with fail
        go_quiet (fail)
        go_wp2
        go_ret
        exact ⟨by rw [hms.out]; rfl, _, rfl⟩
    · have b1' : ¬ (u : Int) < (l.length : Int) := by omega
      have hms : Hid (m = s) := HSs.out.2.1 b1
      clear HSs
      go_upto_region 2 with fail
      go_quiet (fail)
      go_wp2
      go_ret
      exact ⟨by rw [hms.out]; rfl, _, rfl⟩
/-- A row of N yes or no in the block g. -/
def rowB (N : Nat) (F : Nat → Bool) : List Value := (List.range N).map fun i => Value.bool (F i)
theorem rowB_get {N : Nat} {F : Nat → Bool} {i : Nat} (h : i < N) : (rowB N F)[i]? = some (.bool (F i)) := by simp [rowB, h]
theorem rowB_len (N : Nat) (F : Nat → Bool) : (rowB N F).length = N := by simp [rowB]
def RbN (w : World) (g N : Nat) (F : Nat → Bool) : Prop := w.heap[g]? = some (.cells (rowB N F).toArray 4)
theorem RbN.cell {w : World} {g N : Nat} {F : Nat → Bool} (h : RbN w g N F) {i : Nat} (hi : i < N) : w.cell? ⟨g, i, none⟩ = some (.bool (F i)) := by
  have h2 := World.news_of_block h i _ (rowB_get hi)
  rw [add0] at h2
  exact h2
theorem RbN.frz {w : World} {g N : Nat} {F : Nat → Bool} (h : RbN w g N F) (i : Nat) : w.frozen? ⟨g, i, none⟩ = false := frz_row h i
theorem RbN.set {w : World} {g N : Nat} {F : Nat → Bool} (h : RbN w g N F) {k : Nat} (hk : k < N) : RbN (w.setCell ⟨g, k, none⟩ (.bool true)) g N (updB F k) := by
  unfold RbN at *
  rw [heap_setCell_same _ _ _ _ _ _ h]
  congr 2
  apply Array.ext_getElem?
  intro i
  rw [Array.getElem?_setIfInBounds]
  by_cases hi : i < N
  · rw [List.getElem?_toArray, List.getElem?_toArray, rowB_get hi, rowB_get hi]
    by_cases e : k = i
    · subst e; simp [updB, rowB_len, hk]
    · simp [updB, e, show ¬ i = k from fun x => e x.symm]
  · have h1 : (rowB N F)[i]? = none := by rw [List.getElem?_eq_none_iff, rowB_len]; omega
    have h2 : (rowB N (updB F k))[i]? = none := by rw [List.getElem?_eq_none_iff, rowB_len]; omega
    have e : ¬ k = i := by omega
    rw [if_neg e, List.getElem?_toArray, List.getElem?_toArray, h1, h2]
theorem infoPB : ∃ i, Tryd.prog.info? 4 = some i ∧ i.zero = some (.bool false) ∧ i.size = 1 ∧ i.bytes = 1 :=
  ⟨(Tryd.prog.info? 4).get (by kernel_rfl), by kernel_rfl, by kernel_rfl, by kernel_rfl, by kernel_rfl⟩
theorem rowB_wcur (n : Nat) : wcur (fun _ => .bool false) (fun _ => .bool false) n 0 = (rowB n (fun _ => false)).toArray := by
  apply Array.ext_getElem?
  intro i
  by_cases hi : i < n
  · rw [wcur_get _ _ _ _ _ hi, List.getElem?_toArray, rowB_get hi, if_neg (by omega)]
  · rw [Array.getElem?_eq_none (by rw [wcur_size]; omega), List.getElem?_toArray, List.getElem?_eq_none (by rw [rowB_len]; omega)]
theorem made_rowB (n : Nat) (hn : n ≤ 1048576) (w : World) : (Instr.makeSlice 73 (.int .i64 (n : Int)) (.int .i64 (n : Int))).run Tryd.prog w = .ok (.slice (some ⟨w.heap.size, 0, none⟩) n n) (w.alloc (.cells (rowB n (fun _ => false)).toArray 4)) := by
  obtain ⟨i, hi, hz, hs, hb⟩ := infoPB
  have h := run_makeSlice (P := Tryd.prog) w 73 4 i _ Tryd.underlying73 hi hz .i64 .i64 (n : Int) (n : Int) (by omega) (by omega) (by rw [hs]; omega) (by rw [hb]; omega) (by omega)
  rw [hs, Nat.mul_one, show ((n : Int)).toNat = n by omega] at h
  rw [h, ← rowB_wcur, ← made_wcur (fun _ => .bool false) (.bool false) n]
  rfl
set_option maxRecDepth 100000 in
set_option maxHeartbeats 4000000 in
theorem refright_any (A B : Option Addr) (c d : Nat) (l a : List Int) (w : World) (hA : IntsAt w A .i64 l) (hB : IntsAt w B .i64 a) (hl : l.length ≤ 1048576) :
    Calls Tryd.prog 20 #[.slice A l.length c, .slice B a.length d] w fun e w' => e = .returned (.bool (decide (a = sufL l))) ∧ Below w.heap.size w w' := by
  by_cases hlen : a.length = l.length
  · have hl' : ((a.length : Int) != (l.length : Int)) = false := by rw [hlen]; simp
    have HL : Hid (a.length = l.length) := hlen
    rw [hlen] at hl' ⊢
    have HA : Hid (IntsAt w A .i64 l) := hA
    have HB0 : Hid (IntsAt w B .i64 a) := hB
    have hmk := made_rowB l.length hl
    have HB1 : Hid (Below w.heap.size w (w.alloc (.cells (rowB l.length (fun _ => false)).toArray 4))) := lb_alloc (Below.refl _ _) _
    have HX1 : Hid (RbN (w.alloc (.cells (rowB l.length (fun _ => false)).toArray 4)) w.heap.size l.length (fun _ => false)) := heap_alloc_new _ _
    have LQ := fun (W : World) (p q : Nat) (h : Below w.heap.size w W) (hp : p ≤ l.length) (hq : q ≤ l.length) => refless_q A c l p q W (hA.keep h) hl hp hq
    clear hA hB hlen
    go_enter Tryd.func20, Tryd.ntmps20
    go_wp2
    go_loopw [6] (fun i wr => ∃ (k : Nat) (F : Nat → Bool), i = .int .i64 (k : Int) ∧ k ≤ l.length ∧ Hid (Below w.heap.size w wr) ∧ Hid (RbN wr w.heap.size l.length F) ∧ Hid (RgI l a k F)) (fun i _ => l.length - (intOf i).toNat)
    case atStart => exact ⟨0, fun _ => false, rfl, Nat.zero_le _, HB1, HX1, RgI.zero l a⟩
    case round =>
      clear hmk HB1 HX1
      obtain ⟨k, F, rfl, hk, HB, HX, HG⟩ := hrel
      by_cases hlt : k < l.length
      · have hlt' : (k : Int) < (l.length : Int) := by omega
        obtain ⟨b, eb, q1⟩ := (HB0.out.keep HB.out) k (by have := HL.out; omega)
        subst eb
        by_cases v0 : nth a k < 0
        · have HN : Hid (decide (a = sufL l) = false) := decide_eq_false (RgI.no_low hlt v0)
          generalize nth a k = v at *
          go_wp2
          go_ret
          exact ⟨retB HN.out.symm, HB.out⟩
        · by_cases v1 : (l.length : Int) ≤ nth a k
          · have HN : Hid (decide (a = sufL l) = false) := decide_eq_false (RgI.no_high hlt v1)
            generalize nth a k = v at *
            go_wp2
            go_ret
            exact ⟨retB HN.out.symm, HB.out⟩
          · obtain ⟨p, hp⟩ : ∃ p : Nat, nth a k = (p : Int) := ⟨(nth a k).toNat, by omega⟩
            have HV : Hid (nth a k = (p : Int)) := hp
            have p1 : p < l.length := by omega
            have p2 : (p : Int) < (l.length : Int) := by omega
            have p3 : ¬ l.length ≤ p := by omega
            rw [hp] at q1
            have cg : wr.cell? ⟨w.heap.size, p, none⟩ = some (.bool (F p)) := HX.out.cell p1
            have fg : wr.frozen? ⟨w.heap.size, p, none⟩ = false := HX.out.frz _
            clear hp v0 v1
            cases hF : F p with
            | true =>
              have HN : Hid (decide (a = sufL l) = false) := decide_eq_false (HG.out.no_twice hlt p1 HV.out hF)
              rw [hF] at cg
              clear hF
              go_wp2
              go_ret
              exact ⟨retB HN.out.symm, HB.out⟩
            | false =>
              rw [hF] at cg
              clear hF
              obtain ⟨Z, HZ⟩ : ∃ Z, Hid (wr.setCell ⟨w.heap.size, p, none⟩ (.bool true) = Z) := ⟨_, rfl⟩
              have HBZ : Hid (Below w.heap.size w Z) := by unfold Hid; rw [← HZ.out]; exact HB.out.setCell (p := ⟨w.heap.size, p, none⟩) (Nat.le_refl _) _
              have HXZ : Hid (RbN Z w.heap.size l.length (updB F p)) := by unfold Hid; rw [← HZ.out]; exact HX.out.set p1
              go_upto_region 10 with fail
              rw [HZ.out]
              clear HZ cg fg q1
              obtain ⟨b', eb', q1⟩ := (HB0.out.keep HBZ.out) k (by have := HL.out; omega)
              obtain rfl := Option.some.inj eb'
              rw [HV.out] at q1
              by_cases k0 : k = 0
              · subst k0
                have HG2 : Hid (RgI l a (0 + 1) (updB F p)) := HG.out.next p1 HV.out (fun h => absurd h (Nat.lt_irrefl _))
                go_quiet (fail)
                go_wp2
                go_roundw
                case rel => exact ⟨0 + 1, updB F p, by go_num, by omega, below_drewN HBZ.out _, HXZ, HG2⟩
                case measure => simp [intOf]; omega
              · have k0' : (0 : Int) < (k : Int) := by omega
                have k00 : 0 < k := by omega
                obtain ⟨b2, eb2, q2⟩ := (HB0.out.keep HBZ.out) (k - 1) (by have := HL.out; omega)
                obtain rfl := Option.some.inj eb2
                have hg := HG.out.rg (k - 1) (by omega)
                obtain ⟨q, hq⟩ : ∃ q : Nat, nth a (k - 1) = (q : Int) := ⟨(nth a (k - 1)).toNat, by omega⟩
                have hql : q ≤ l.length := by omega
                have HQ : Hid ((nth a (k - 1)).toNat = q) := by rw [hq]; rfl
                rw [hq] at q2
                have hsub : ((k : Int) - 1).toNat = k - 1 := by omega
                have hsub1 : ¬ ((k : Int) - 1 < 0) := by omega
                have hsub2 : (k : Int) - 1 < (l.length : Int) := by omega
                have hw2 : IntKind.i64.wrap ((k : Int) - 1) = (k : Int) - 1 := by simp [IntKind.wrap, IntKind.bits, IntKind.signed]; omega
                have CL := fun m => LQ (Z.drewN m) q p (below_drewN HBZ.out m) hql (by omega)
                clear hq hg
                by_cases hc : lsS l q p = true
                · have HG2 : Hid (RgI l a (k + 1) (updB F p)) := HG.out.next p1 HV.out (fun _ => by rw [HQ.out]; exact hc)
                  rw [hc] at CL
                  clear hc HG
                  go_quiet (first | (go_at_call 43; exact Calls.quiet_of (CL _)))
                  go_wp2
                  go_roundw
                  case rel => exact ⟨k + 1, updB F p, by go_num, by omega, below_drewN HBZ.out _, HXZ, HG2⟩
                  case measure => simp [intOf]; omega
                · have HN : Hid (decide (a = sufL l) = false) := decide_eq_false (RgI.no_order hlt HV.out k00 (by rw [HQ.out]; exact hc))
                  have hc' : lsS l q p = false := by simpa using hc
                  rw [hc'] at CL
                  clear hc hc' HG
                  go_quiet (first | (go_at_call 43; exact Calls.quiet_of (CL _)))
                  go_wp2
                  go_ret
                  exact ⟨retB HN.out.symm, below_drewN HBZ.out _⟩
      · obtain rfl : k = l.length := by omega
        have hlt' : ¬ (l.length : Int) < (l.length : Int) := by omega
        have HN : Hid (decide (a = sufL l) = true) := decide_eq_true (HG.out.all HL.out)
        go_wp2
        go_ret
        exact ⟨retB HN.out.symm, HB.out⟩
  · have hl' : ((a.length : Int) != (l.length : Int)) = true := by simp; omega
    rw [show decide (a = sufL l) = false from decide_eq_false fun e => hlen (by rw [e, sufL_len])]
    clear hlen
    go_enter Tryd.func20, Tryd.ntmps20
    go_wp2
    go_ret
    exact ⟨rfl, Below.refl _ _⟩
set_option maxRecDepth 100000 in
set_option maxHeartbeats 4000000 in
theorem refall_any (A B : Option Addr) (c d : Nat) (l : List Int) (w : World) (hA : IntsAt w A .i64 l) (hB : IntsAt w B .i64 (sufL l)) (hl : l.length ≤ 1048576) :
    Calls Tryd.prog 21 #[.slice A l.length c, .slice B l.length d] w (NewI (cpA l) l.length w) := by
  have HA : Hid (IntsAt w A .i64 l) := hA
  have HB0 : Hid (IntsAt w B .i64 (sufL l)) := hB
  have hmk := made_rowP l.length hl
  have HB1 : Hid (Below w.heap.size w (w.alloc (.cells (rowC l.length (fun _ => 0)).toArray 3))) := lb_alloc (Below.refl _ _) _
  have HX0 : Hid (RwN (w.alloc (.cells (rowC l.length (fun _ => 0)).toArray 3)) w.heap.size l.length (fun _ => 0)) := heap_alloc_new _ _
  have HX1 : Hid (RwN (w.alloc (.cells (rowC l.length (fun _ => 0)).toArray 3)) w.heap.size l.length (alV l 1)) := HX0.out.same fun i _ => (alV_start l i).symm
  have PQ := fun (W : World) (p q : Nat) (h : Below w.heap.size w W) (hp : p < l.length) (hq : q < l.length) => refprefix_q A c l p q W (hA.keep h) hl hp hq
  clear hA hB
  go_enter Tryd.func21, Tryd.ntmps21
  go_wp2
  go_loopw [6] (fun i wr => ∃ (k : Nat), i = .int .i64 (k : Int) ∧ 1 ≤ k ∧ k ≤ l.length + 1 ∧ Hid (Below w.heap.size w wr) ∧ Hid (RwN wr w.heap.size l.length (alV l k))) (fun i _ => l.length + 1 - (intOf i).toNat)
  case atStart => exact ⟨1, rfl, Nat.le_refl _, by omega, HB1, HX1⟩
  case round =>
    clear hmk HB1 HX1 HX0
    obtain ⟨k, rfl, hk0, hk, HB, HX⟩ := hrel
    by_cases hlt : k < l.length
    · have hlt' : (k : Int) < (l.length : Int) := by omega
      have HQ : Hid (∀ W, Below w.heap.size w W → ∃ b, B = some b ∧ W.cell? (b.add k) = some (.int .i64 ((snth (sufN l) k : Nat) : Int)) ∧ W.cell? (b.add (k - 1)) = some (.int .i64 ((snth (sufN l) (k - 1) : Nat) : Int))) := fun W hW => by
        obtain ⟨b, eb, q1⟩ := (HB0.out.keep hW) k (by rw [sufL_len]; exact hlt)
        obtain ⟨b2, eb2, q2⟩ := (HB0.out.keep hW) (k - 1) (by rw [sufL_len]; omega)
        subst eb
        obtain rfl := Option.some.inj eb2
        rw [sufL_nth hlt] at q1
        rw [sufL_nth (by omega)] at q2
        exact ⟨b, rfl, q1, q2⟩
      obtain ⟨b, eb, q1, q2⟩ := HQ.out wr HB.out
      subst eb
      have HQ2 : Hid (∀ W, Below w.heap.size w W → W.cell? (b.add k) = some (.int .i64 ((snth (sufN l) k : Nat) : Int)) ∧ W.cell? (b.add (k - 1)) = some (.int .i64 ((snth (sufN l) (k - 1) : Nat) : Int))) := fun W hW => by
        obtain ⟨b', e, h⟩ := HQ.out W hW
        obtain rfl := Option.some.inj e
        exact h
      have cg : wr.cell? ⟨w.heap.size, k, none⟩ = some (.int .i64 (alV l k k)) := HX.out.cell hlt
      have fg : wr.frozen? ⟨w.heap.size, k, none⟩ = false := HX.out.frz _
      have CP := fun m => PQ (wr.drewN m) (snth (sufN l) (k - 1)) (snth (sufN l) k) (below_drewN HB.out m) (sufN_lt (by omega)) (sufN_lt hlt)
      have CP1 := PQ wr.drew (snth (sufN l) (k - 1)) (snth (sufN l) k) HB.out.drew (sufN_lt (by omega)) (sufN_lt hlt)
      rw [← cpN_at (by omega)] at CP1
      have HE : Hid (∀ m, RwN ((wr.drewN m).setCell ⟨w.heap.size, k, none⟩ (.int .i64 ((cpN l k : Nat) : Int))) w.heap.size l.length (alV l (k + 1)) ∧ Below w.heap.size w ((wr.drewN m).setCell ⟨w.heap.size, k, none⟩ (.int .i64 ((cpN l k : Nat) : Int)))) := fun m =>
        ⟨(RwN.set (w := wr.drewN m) HX.out hlt _).same fun i hi => (alV_put l k i).symm, (below_drewN HB.out m).setCell (p := ⟨w.heap.size, k, none⟩) (Nat.le_refl _) _⟩
      obtain ⟨p, hp⟩ : ∃ p, p = k - 1 := ⟨_, rfl⟩
      have hki : (k : Int) - 1 = (p : Int) := by omega
      have hkw : IntKind.i64.wrap ((k : Int) - 1) = (p : Int) := by simp [IntKind.wrap, IntKind.bits, IntKind.signed]; omega
      have hpw : IntKind.i64.wrap (p : Int) = (p : Int) := by simp [IntKind.wrap, IntKind.bits, IntKind.signed]; omega
      have hpn : (p : Int) < (l.length : Int) := by omega
      have hp0 : (0 : Int) ≤ (p : Int) := by omega
      have BW : Below w.heap.size w wr.drew := HB.out.drew
      clear CP HQ
      rw [← hp] at q2 CP1 HQ2
      clear hp
      generalize snth (sufN l) p = x at *
      generalize snth (sufN l) k = y at *
      generalize alV l k k = z0 at *
      generalize cpN l k = v at *
      go_upto_region 5 with fail
      go_region_held3 (fun W => W.cell? (b.add k) = some (.int .i64 (y : Int)) ∧ W.cell? (b.add p) = some (.int .i64 (x : Int))) (first | exact ⟨q1, q2⟩ | exact HQ2.out _ BW | exact HQ2.out _ (below_drewN BW _) | exact HQ2.out _ (HE.out _).2) (first | (go_at_call 51; refine CP1.mono ?_; rintro e w5 ⟨rfl, m, rfl⟩))
      go_wp2
      go_roundw
      case rel => exact ⟨k + 1, by go_num, by omega, by omega, (HE.out _).2, (HE.out _).1⟩
      case measure => simp [intOf]; omega
    · have hlt' : ¬ (k : Int) < (l.length : Int) := by omega
      have HO : Hid (wr.ownsRow w.heap.size 3 1 (.slice (some ⟨w.heap.size, 0, none⟩) l.length l.length) l.length (iVals .i64 (cpA l))) := HX.out.own (cpA_len l) (fun i hi => alV_all hi (by omega)) hl (Nat.le_refl _)
      go_wp2
      go_ret
      exact ⟨_, _, rfl, HO.out, HB.out⟩
/-- The document's Prefixes. -/
def RxR (l : List Int) (w : World) (e : Ending) (w' : World) : Prop := ∃ (A : Option Addr) (k : Nat), e = .returned (.tuple #[.slice A l.length k, .int .i64 0]) ∧ w'.ownsRow w.heap.size 3 1 (.slice A l.length k) l.length (iVals .i64 (cpA l)) ∧ Below w.heap.size w w'
set_option maxHeartbeats 2000000 in
theorem refpfx_ok (A B : Option Addr) (c d : Nat) (l : List Int) (w : World) (hA : IntsAt w A .i64 l) (hB : IntsAt w B .i64 (sufL l)) (hl : l.length ≤ 1048576) :
    Calls Tryd.prog 8 #[.slice A l.length c, .slice B l.length d] w (RxR l w) := by
  have C1 := refright_any A B c d l (sufL l) w hA hB hl
  rw [sufL_len, decide_eq_true rfl] at C1
  have C2 := fun W (h : Below w.heap.size w W) => refall_any A B c d l W (hA.keep h) (hB.keep h) hl
  clear hA hB
  go_enter Tryd.func8, Tryd.ntmps8
  go_wp2_with fail
  refine C1.mono ?_
  rintro e w1 ⟨rfl, hb1⟩
  go_wp2_with fail
  refine (C2 _ hb1).mono ?_
  rintro e w2 ⟨R, k, rfl, ho, hb2⟩
  have HO : Hid (w2.ownsRow w.heap.size 3 1 (.slice R l.length k) l.length (iVals .i64 (cpA l))) := ownsRow_mono ho hb1.size
  have HB : Hid (Below w.heap.size w w2) := lb_trans hb1 hb2
  clear ho hb1 hb2 C1 C2
  go_wp2
  go_ret2
  exact ⟨_, _, rfl, HO.out, HB.out⟩
theorem refpfx_no (A B : Option Addr) (c d : Nat) (l a : List Int) (w : World) (hA : IntsAt w A .i64 l) (hB : IntsAt w B .i64 a) (hl : l.length ≤ 1048576) (hne : a ≠ sufL l) :
    Calls Tryd.prog 8 #[.slice A l.length c, .slice B a.length d] w fun e w' => e = .returned (.tuple #[.slice none 0 0, .int .i64 1]) ∧ Below w.heap.size w w' := by
  have C1 := refright_any A B c d l a w hA hB hl
  rw [decide_eq_false hne] at C1
  clear hA hB hne
  go_enter Tryd.func8, Tryd.ntmps8
  go_wp2_with fail
  refine C1.mono ?_
  rintro e w1 ⟨rfl, hb1⟩
  go_wp2
  go_ret2
  exact ⟨rfl, hb1⟩
set_option maxHeartbeats 2000000 in
theorem refcost_any (n : Nat) (cc : Int) (w : World) (hn : n ≤ 1024) (h1 : (n : Int) - 1 ≤ cc) (h2 : 0 ≤ cc) (h3 : cc ≤ 2 * (n : Int)) :
    Calls Tryd.prog 11 #[.int .i64 (n : Int), .int .i64 cc] w fun e w' => e = .returned (.bool true) ∧ Below w.heap.size w w' := by
  have C := fun W => refbits_any n (by omega) W
  obtain ⟨B, Q1, Q2, eB, B1, B2, eQ1, eQ2, Q10, Q11, Q20, Q21, hQ⟩ := cost_one hn
  have hw : IntKind.i64.wrap ((n : Int) - 1) = (n : Int) - 1 := by simp [IntKind.wrap, IntKind.bits, IntKind.signed]; omega
  have hm : ¬ cc < max ((n : Int) - 1) 0 := by omega
  have hc0 : ¬ cc < 0 := by omega
  have hle : cc ≤ Q2 := by omega
  have hn' : ¬ (16384 : Int) < (n : Int) := by omega
  have hn2 : ¬ 16384 < n := by omega
  obtain ⟨M, hM⟩ : ∃ M, M = max ((n : Int) - 1) 0 := ⟨_, rfl⟩
  rw [← hM] at hm
  have hM' := hM.symm
  clear hM h1 h3 hQ
  generalize bitsN n = b at *
  go_enter Tryd.func11, Tryd.ntmps11
  go_wp2_with fail
  refine (C _).mono ?_
  rintro e w1 ⟨rfl, hb1⟩
  go_wp2
  go_ret
  exact ⟨rfl, hb1⟩

end Go.Proofs.YtpmaiblgnblpeaaDoor
