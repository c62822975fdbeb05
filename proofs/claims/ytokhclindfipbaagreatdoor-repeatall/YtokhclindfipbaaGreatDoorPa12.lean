/-
  rank: new ranks, of places that are sorted.
-/
import Derived.Test.YtokhclindfipbaaGreatDoorProg
import Derived.WalkKit
import Derived.WalkSpells
import Derived.WalkLawsBesides
import Derived.RowKit3
import Derived.Below
import Derived.Deep.QuietTactic
import Derived.BigQuiet
import Derived.WalkSmall
import Derived.Laws.Rows
import Derived.Test.YtokhclindfipbaaGreatDoorPa11
namespace Go.Proofs.YtokhclindfipbaaGreatDoor
open Go.RowKit

/-- A row of N cells, the first n of them numbers. -/
def RwL (w : World) (g N n : Nat) (f : Nat → Int) : Prop := ∃ cs : Array Value, w.heap[g]? = some (.cells cs 3) ∧ cs.size = N ∧ n ≤ N ∧ ∀ i, i < n → cs[i]? = some (.int .i64 (f i))
theorem RwN.rwl {w : World} {g N : Nat} {f : Nat → Int} (h : RwN w g N f) : RwL w g N N f := ⟨_, h, by simp [rowC_len], Nat.le_refl _, fun i hi => by rw [List.getElem?_toArray]; exact rowC_get hi⟩
theorem RwL.same {w : World} {g N n : Nat} {f f' : Nat → Int} (h : RwL w g N n f) (e : ∀ i, i < n → f i = f' i) : RwL w g N n f' := by
  obtain ⟨cs, h1, h2, h3, h4⟩ := h
  exact ⟨cs, h1, h2, h3, fun i hi => by rw [h4 i hi, e i hi]⟩
theorem RwL.cell {w : World} {g N n : Nat} {f : Nat → Int} (h : RwL w g N n f) {i : Nat} (hi : i < n) : w.cell? ⟨g, i, none⟩ = some (.int .i64 (f i)) := by
  obtain ⟨cs, h1, h2, h3, h4⟩ := h
  rw [cell_of_row w g i cs 3 _ h1, h4 i hi]
theorem RwL.frz {w : World} {g N n : Nat} {f : Nat → Int} (h : RwL w g N n f) (i : Nat) : w.frozen? ⟨g, i, none⟩ = false := by
  obtain ⟨cs, h1, _⟩ := h
  exact frz_row h1 i
theorem RwL.keep {S : Nat → Prop} {w w' : World} {g N n : Nat} {f : Nat → Int} (h : RwL w g N n f) (hb : ButS S w w') (hg : ¬ S g) : RwL w' g N n f := by
  obtain ⟨cs, h1, h2⟩ := h
  exact ⟨cs, by rw [hb.2.2.2.2 g (Array.getElem?_eq_some_iff.1 h1).1 hg]; exact h1, h2⟩
theorem RwL.set {w : World} {g N n : Nat} {f : Nat → Int} (h : RwL w g N n f) {k : Nat} (hk : k < n) (v : Int) : RwL (w.setCell ⟨g, k, none⟩ (.int .i64 v)) g N n (updF f k v) := by
  obtain ⟨cs, h1, h2, h3, h4⟩ := h
  refine ⟨cs.setIfInBounds k (.int .i64 v), heap_setCell_same _ _ _ _ _ _ h1, by simp [h2], h3, fun i hi => ?_⟩
  rw [Array.getElem?_setIfInBounds]
  by_cases e : k = i
  · subst e
    simp [updF, h2, show k < N by omega]
  · rw [if_neg e, h4 i hi]
    simp [updF, show ¬ i = k from fun x => e x.symm]
/-- Ranks under way: k places are done. -/
structure RnA (w wr : World) (x1 h bc N n c k : Nat) (rc : Nat → Int) (o' : Nat → Nat → Int) (c' : Nat → Nat → Nat) (A : List Nat) : Prop where
  row : RwL wr x1 N n rc
  dn : ∀ p, p < n → A.idxOf p < k → rc p = ((unl o' A (A.idxOf p) : Nat) : Int)
  cst : Cst wr bc (c + rnkC c' A (k - 1))
  but : ButS (Trio x1 h bc) w wr
def RnkP (w w' : World) (x1 h bc N n c : Nat) (o' : Nat → Nat → Int) (c' : Nat → Nat → Nat) (A : List Nat) : Prop := ∃ rf : Nat → Int, RwL w' x1 N n rf ∧ (∀ p, p < n → rf p = ((unl o' A (A.idxOf p) : Nat) : Int)) ∧ Cst w' bc (c + rnkC c' A (n - 1)) ∧ ButS (Trio x1 h bc) w w'
theorem RnA.done {w wr : World} {x1 h bc N n c : Nat} {rc : Nat → Int} {o' : Nat → Nat → Int} {c' : Nat → Nat → Nat} {A : List Nat} (a : RnA w wr x1 h bc N n c n rc o' c' A) (hA : PlsP n A) : RnkP w wr x1 h bc N n c o' c' A := ⟨rc, a.row, fun p hp => a.dn p hp (hA.idx hp).1, a.cst, a.but⟩
theorem RnA.put {w wr w5 : World} {x1 h bc N n c k d : Nat} {rc : Nat → Int} {o' : Nat → Nat → Int} {c' : Nat → Nat → Nat} {A : List Nat} (a : RnA w wr x1 h bc N n c k rc o' c' A) (hA : PlsP n A) (hk : k < n) (hb : ButS (fun j => j = bc) wr w5) (hxc : x1 ≠ bc) (h5 : Cst w5 bc d) (hd : d = c + rnkC c' A k) : RnA w (w5.setCell ⟨x1, snth A k, none⟩ (.int .i64 ((unl o' A k : Nat) : Int))) x1 h bc N n c (k + 1) (updF rc (snth A k) ((unl o' A k : Nat) : Int)) o' c' A := by
  refine ⟨(a.row.keep hb hxc).set (hA.lt hk) _, fun p hp hi => ?_, ?_, (a.but.trans (hb.more fun k hk => .inr (.inr hk))).set (.inl rfl) _ _⟩
  · unfold updF
    by_cases e : p = snth A k
    · subst e
      rw [if_pos rfl, hA.at hk]
    · rw [if_neg e]
      refine a.dn p hp ?_
      have : A.idxOf p ≠ k := fun x => e (by rw [← (hA.idx hp).2, x])
      omega
  · rw [hd] at h5
    exact h5.keep ((ButS.refl (fun j => j = x1) _).set rfl _ _) (fun e => hxc e.symm)
set_option maxRecDepth 100000 in
set_option maxHeartbeats 8000000 in
theorem rank_any (bk br bs bl bc x0 x1 h : Nat) (r : List Int) (N n s g c cap cx : Nat) (rf : Nat → Int) (A : List Nat) (w : World) (ha : Ask w bk br bs bl bc x0 x1 h r n s) (hc : Cst w bc c) (hx : RwL w x1 N n rf) (hg : RwP w g n (snth A)) (hg1 : g ≠ x1) (hg2 : g ≠ h) (hg3 : g ≠ bc) (hA : PlsP n A) (hn0 : 0 < n) (hl : c + rnkC (ordC r n s) A (n - 1) ≤ 1099511627776) :
    Calls Tryz.prog 86 #[.slice (some ⟨x1, 0, none⟩) n cx, .slice (some ⟨g, 0, none⟩) n cap, ordF bk br bs bl] w fun e w' => e = .returned (.int .i64 ((unl (ordV r n s) A (n - 1) + 1 : Nat) : Int)) ∧ RnkP w w' x1 h bc N n c (ordV r n s) (ordC r n s) A := by
  have hn1 : n ≤ 1048576 := ha.nl
  have HK : Hid (Ask w bk br bs bl bc x0 x1 h r n s) := ha
  have HS : Hid (RnA w w x1 h bc N n c 0 rf (ordV r n s) (ordC r n s) A) := ⟨hx, fun _ _ h => absurd h (Nat.not_lt_zero _), hc, ButS.refl _ _⟩
  have HG : Hid (∀ W, ButS (Trio x1 h bc) w W → ∀ j, j < n → W.cell? ⟨g, j, none⟩ = some (.int .i64 ((snth A j : Nat) : Int))) := fun W hW j hj => (RwN.keep hg hW (not_trio hg1 hg2 hg3)).cell hj
  have HA : Hid (PlsP n A) := hA
  have HL : Hid (c + rnkC (ordC r n s) A (n - 1) ≤ 1099511627776) := hl
  have HU : Hid (∀ j, unl (ordV r n s) A j ≤ j) := fun j => unl_le _ _ _
  clear ha hc hx hg hA hl hg1 hg2 hg3
  unfold ordF
  go_enter Tryz.func86, Tryz.ntmps86
  go_wp2
  go_loopw [7, 12] (fun vu vk wr => ∃ (k u : Nat) (rc : Nat → Int), vu = .int .i64 (u : Int) ∧ vk = .int .i64 (k : Int) ∧ k ≤ n ∧ Hid (u = unl (ordV r n s) A (k - 1)) ∧ Hid (RnA w wr x1 h bc N n c k rc (ordV r n s) (ordC r n s) A)) (fun _ vk _ => n - (intOf vk).toNat)
  case atStart => exact ⟨0, 0, rf, rfl, rfl, Nat.zero_le _, rfl, HS⟩
  case round =>
    clear HS
    obtain ⟨k, u, rc, rfl, rfl, hkn, hu, HS⟩ := hrel
    by_cases k1 : k < n
    · have k1' : (k : Int) < (n : Int) := by omega
      have q1 := HG.out _ HS.out.but k k1
      have by1 : snth A k < n := HA.out.lt k1
      have by2 : ((snth A k : Nat) : Int) < (n : Int) := by omega
      have HQ3 : Hid (∀ W, ButS (fun j => j = bc) wr W → W.cell? ⟨x1, snth A k, none⟩ = some (.int .i64 (rc (snth A k))) ∧ W.frozen? ⟨x1, snth A k, none⟩ = false) := fun W hW => ⟨(HS.out.row.keep hW HK.out.gc).cell by1, (HS.out.row.keep hW HK.out.gc).frz _⟩
      have HP : Hid (∀ w5 d, ButS (fun j => j = bc) wr w5 → Cst w5 bc d → d = c + rnkC (ordC r n s) A k → RnA w (w5.setCell ⟨x1, snth A k, none⟩ (.int .i64 ((unl (ordV r n s) A k : Nat) : Int))) x1 h bc N n c (k + 1) (updF rc (snth A k) ((unl (ordV r n s) A k : Nat) : Int)) (ordV r n s) (ordC r n s) A) := fun w5 d hb h5 hd => HS.out.put HA.out k1 hb HK.out.gc h5 hd
      by_cases k0 : k = 0
      · subst k0
        have e0 : u = 0 := hu.out
        subst e0
        obtain ⟨q3, q4⟩ := HQ3.out _ (ButS.refl _ _)
        have HE : Hid (RnA w (wr.setCell ⟨x1, snth A 0, none⟩ (.int .i64 (0 : Int))) x1 h bc N n c (0 + 1) (updF rc (snth A 0) (0 : Int)) (ordV r n s) (ordC r n s) A) := HP.out _ c (ButS.refl _ _) HS.out.cst rfl
        clear HQ3 HP HS hu
        generalize snth A 0 = y at *
        go_wp2
        go_roundw
        case rel => exact ⟨0 + 1, 0, _, rfl, by go_num, by omega, rfl, HE⟩
        case measure => simp [intOf]; omega
      · obtain ⟨p, hp⟩ : ∃ p, k = p + 1 := ⟨k - 1, by omega⟩
        have kp : (0 : Int) < (k : Int) := by omega
        have kp2 : 0 < k := by omega
        have hki : (k : Int) - 1 = (p : Int) := by omega
        have hkw : IntKind.i64.wrap ((k : Int) - 1) = (p : Int) := by simp [IntKind.wrap, IntKind.bits, IntKind.signed]; omega
        have hpw : IntKind.i64.wrap (p : Int) = (p : Int) := by simp [IntKind.wrap, IntKind.bits, IntKind.signed]; omega
        have hpn : (p : Int) < (n : Int) := by omega
        have q2 := HG.out _ HS.out.but p (by omega)
        have bx1 : snth A p < n := HA.out.lt (by omega)
        have hcs : Cst wr bc (c + rnkC (ordC r n s) A p) := by have := HS.out.cst; rw [hp] at this; exact this
        have eC : rnkC (ordC r n s) A k = rnkC (ordC r n s) A p + ordC r n s (snth A p) (snth A k) := by rw [hp]; rfl
        have mono : ∀ d j, rnkC (ordC r n s) A j ≤ rnkC (ordC r n s) A (j + d) := fun d j => by
          induction d with
          | zero => exact Nat.le_refl _
          | succ d ih => exact Nat.le_trans ih (Nat.le_add_right _ _)
        have hcost : c + rnkC (ordC r n s) A p + ordC r n s (snth A p) (snth A k) ≤ 1099511627776 := by
          have h1 := HL.out
          have h2 := mono (n - 1 - k) k
          rw [show k + (n - 1 - k) = n - 1 by omega] at h2
          omega
        have CO := HK.out.ask (snth A p) (snth A k) (c + rnkC (ordC r n s) A p) wr HS.out.but hcs bx1 by1 hcost
        have eU : unl (ordV r n s) A k = u + (if ordV r n s (snth A p) (snth A k) = 0 then 0 else 1) := by rw [hp, hu.out, hp]; rfl
        have hule : u ≤ n := by have h1 := hu.out; have h2 := HU.out (k - 1); omega
        have HEC : Hid (c + rnkC (ordC r n s) A p + ordC r n s (snth A p) (snth A k) = c + rnkC (ordC r n s) A k) := by show _ = _; omega
        have HKP : Hid (k = p + 1) := hp
        clear mono hcost eC hp hu bx1 hcs
        by_cases ho : ordV r n s (snth A p) (snth A k) = 0
        · rw [if_pos ho, Nat.add_zero] at eU
          have HU2 : Hid (u = unl (ordV r n s) A (k + 1 - 1)) := eU.symm
          rw [ho] at CO
          rw [eU] at HP
          clear eU ho
          generalize ordC r n s (snth A p) (snth A k) = cv at *
          generalize snth A p = x at *
          generalize snth A k = y at *
          go_wp2_with fail
          refine CO.mono ?_
          rintro e w5 ⟨rfl, hc5, hb5⟩
          have HB5 : Hid (ButS (fun j => j = bc) wr w5) := ButS.but hb5 rfl
          obtain ⟨q3, q4⟩ := HQ3.out _ HB5.out
          have HE : Hid (RnA w (w5.setCell ⟨x1, y, none⟩ (.int .i64 (u : Int))) x1 h bc N n c (k + 1) (updF rc y (u : Int)) (ordV r n s) (ordC r n s) A) := HP.out _ _ HB5.out hc5 HEC.out
          clear HQ3 HP HS CO hc5 hb5 hki hkw hpw q1 q2
          go_wp2
          go_roundw
          case rel => exact ⟨k + 1, u, _, rfl, by go_num, by omega, HU2, HE⟩
          case measure => simp [intOf]; omega
        · rw [if_neg ho] at eU
          have HU2 : Hid (u + 1 = unl (ordV r n s) A (k + 1 - 1)) := eU.symm
          rw [eU] at HP
          have ho' : (ordV r n s (snth A p) (snth A k) != 0) = true := by simp [ho]
          clear eU
          generalize ordV r n s (snth A p) (snth A k) = v at *
          generalize ordC r n s (snth A p) (snth A k) = cv at *
          generalize snth A p = x at *
          generalize snth A k = y at *
          go_wp2_with fail
          refine CO.mono ?_
          rintro e w5 ⟨rfl, hc5, hb5⟩
          have HB5 : Hid (ButS (fun j => j = bc) wr w5) := ButS.but hb5 rfl
          obtain ⟨q3, q4⟩ := HQ3.out _ HB5.out
          have HE : Hid (RnA w (w5.setCell ⟨x1, y, none⟩ (.int .i64 ((u + 1 : Nat) : Int))) x1 h bc N n c (k + 1) (updF rc y ((u + 1 : Nat) : Int)) (ordV r n s) (ordC r n s) A) := HP.out _ _ HB5.out hc5 HEC.out
          clear HQ3 HP HS CO hc5 hb5 hki hkw hpw q1 q2
          go_wp2
          go_roundw
          case rel => exact ⟨k + 1, u + 1, _, by go_num, by go_num, by omega, HU2, HE⟩
          case measure => simp [intOf]; omega
    · obtain rfl : k = n := by omega
      have k1' : ¬ (k : Int) < (k : Int) := by omega
      have HD : Hid (RnkP w wr x1 h bc N k c (ordV r k s) (ordC r k s) A) := HS.out.done HA.out
      have hule : u ≤ k := by have h1 := hu.out; have h2 := HU.out (k - 1); omega
      go_wp2
      go_ret
      exact ⟨by rw [← hu.out]; simp, HD.out⟩




end Go.Proofs.YtokhclindfipbaaGreatDoor
