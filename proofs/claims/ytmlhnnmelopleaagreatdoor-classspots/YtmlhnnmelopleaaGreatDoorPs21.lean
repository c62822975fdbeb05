/-
  Back of package edge, by what it answers; at most 65536 lists, each of at most 65536 numbers. What the statements need of the program: Blocks and Behind of live, by what they answer. Lists that rise, each number once; no Go in sight. What the flow of an image is; no Go in sight.
-/
import Derived.Test.YtmlhnnmelopleaaGreatDoorProg
import Derived.WalkKit
import Derived.WalkSpells
import Derived.WalkLawsBesides
import Derived.RowKit3
import Derived.Below
import Derived.Deep.QuietTactic
import Derived.BigQuiet
import Derived.WalkSmall
import Derived.Laws.Rows
import Derived.WalkMore
import Derived.Test.YtmlhnnmelopleaaGreatDoorPs19
import Derived.Test.YtmlhnnmelopleaaGreatDoorPs20
import Derived.Test.YtmlhnnmelopleaaGreatDoorPs12
import Derived.Test.YtmlhnnmelopleaaGreatDoorPs13
import Derived.Lib.SlicesCompact
import Derived.Lib.RowBridge
import Derived.Test.YtmlhnnmelopleaaGreatDoorPs04
import Derived.Test.YtmlhnnmelopleaaGreatDoorPs11
namespace Go.Proofs.YtmlhnnmelopleaaGreatDoor
open Go.RowKit

set_option maxHeartbeats 1000000 in
theorem endsin_any (R : Option Addr) (k : Nat) (l : List Int) (x : Int) (w : World) (hR : IntsAt w R .i64 l) (hl : l.length ≤ 1048576) :
    Calls Tryz.prog 104 #[.slice R l.length k, .int .i64 x] w fun e w' => e = .returned (.bool (endZ l x)) ∧ w' = w := by
  by_cases h0 : l.length = 0
  · have HE : Hid (endZ l x = false) := by
      unfold Hid endZ
      rw [decide_eq_false_iff_not]
      omega
    rw [h0]
    clear hR h0
    go_enter Tryz.func104, Tryz.ntmps104
    go_wp2
    go_ret
    exact ⟨by rw [HE.out]; rfl, rfl⟩
  · obtain ⟨m, hm⟩ : ∃ m, l.length = m + 1 := ⟨l.length - 1, by omega⟩
    obtain ⟨a, ea, q⟩ := hR m (by omega)
    subst ea
    have HE : Hid (endZ l x = (nth l m == x)) := by
      unfold Hid endZ
      rw [hm, show m + 1 - 1 = m by omega]
      by_cases e : nth l m = x
      · rw [e]; simp
      · rw [decide_eq_false (fun h => e h.2)]
        symm
        rw [beq_eq_false_iff_ne]
        exact e
    rw [hm]
    have hg : (0 : Int) < (m : Int) + 1 := by omega
    have hmb : (m : Int) ≤ 1048576 := by omega
    have hz : (m : Int) + 1 - 1 = (m : Int) := by omega
    clear hR h0 hm
    generalize nth l m = y at *
    go_enter Tryz.func104, Tryz.ntmps104
    go_wp2
    all_goals (go_ret; exact ⟨by rw [HE.out]; first | rfl | simp_all, rfl⟩)

set_option maxRecDepth 100000 in
set_option maxHeartbeats 4000000 in
theorem back_any (A : Option Addr) (ca : Nat) (L : List (List Int)) (w : World) (hA : IntsZ w A L) (hn : L.length ≤ 65536) (hr : ∀ i, i < L.length → (rowZ L i).length ≤ 65536) :
    Calls Tryz.prog 100 #[.slice A L.length ca] w (ZR (backT L L.length) w) := by
  obtain ⟨iI, hi, hz0, hz1, hz2⟩ := infoI
  have HA : Hid (IntsZ w A L) := hA
  have HR : Hid _ := hr
  clear hA hr
  have hmk := make_sl L.length (by omega)
  have HB0 : Hid (Below w.heap.size w (w.alloc (.cells (madeCells #[.slice none 0 0] L.length) 32))) := lb_alloc (Below.refl _ _) _
  have HW0 : Hid (RowsW (w.alloc (.cells (madeCells #[.slice none 0 0] L.length) 32)) w.heap.size w.heap.size L.length (List.replicate L.length (.slice none 0 0)) (bst L 0 0)) := by
    unfold Hid
    rw [bst_zero]
    exact RowsW.made w L.length (by omega)
  go_enter Tryz.func100, Tryz.ntmps100
  go_wp2
  go_loopw [13] (fun i wr => ∃ (k : Nat) (vs : List Value), i = .int .i64 k ∧ k ≤ L.length ∧ Hid (RowsW wr w.heap.size w.heap.size L.length vs (bst L k 0)) ∧ Hid (Below w.heap.size w wr)) (fun i _ => L.length - (intOf i).toNat)
  case atStart => exact ⟨0, _, rfl, Nat.zero_le _, HW0, HB0⟩
  case round =>
    clear HW0 HB0 hmk
    obtain ⟨k, vs, rfl, hk, HW, HB⟩ := hrel
    by_cases hlt : k < L.length
    · have hlt' : (k : Int) < (L.length : Int) := by omega
      obtain ⟨a, R, kr, ea, q, qr⟩ := (HA.out.keep HB.out) k hlt
      subst ea
      have hrl := HR.out k hlt
      have HQ : Hid (∀ wx, Below w.heap.size w wx → IntsAt wx R .i64 (rowZ L k)) := fun wx hx => by
        obtain ⟨a2, R2, kr2, ea2, q2, qr2⟩ := (HA.out.keep HB.out) k hlt
        obtain rfl := Option.some.inj ea2
        rw [q] at q2
        cases q2
        obtain ⟨a3, R3, kr3, ea3, q3, qr3⟩ := HA.out k hlt
        obtain rfl := Option.some.inj ea3
        rw [lkeep HB.out q3] at q
        cases q
        exact qr3.keep hx
      clear qr
      go_wp2
      go_loopw [20] (fun i wr => ∃ (j : Nat) (vs : List Value), i = .int .i64 j ∧ j ≤ (rowZ L k).length ∧ Hid (RowsW wr w.heap.size w.heap.size L.length vs (bst L k j)) ∧ Hid (Below w.heap.size w wr)) (fun i _ => (rowZ L k).length - (intOf i).toNat)
      case atStart => exact ⟨0, vs, rfl, Nat.zero_le _, HW, HB⟩
      case round =>
        clear HW HB q
        obtain ⟨j, vs, rfl, hj, HW, HB⟩ := hrel
        by_cases hjl : j < (rowZ L k).length
        · have hjl' : (j : Int) < ((rowZ L k).length : Int) := by omega
          obtain ⟨b, eb, q⟩ := (HQ.out wr HB.out) j hjl
          subst eb
          by_cases hx0 : nth (rowZ L k) j < 0
          · have HS : Hid (bst L k (j + 1) = bst L k j) := bst_skip hjl (.inl hx0)
            have hx0' : ¬ (0 : Int) ≤ nth (rowZ L k) j := by omega
            generalize nth (rowZ L k) j = x at *
            go_wp2
            go_roundw
            case rel => exact ⟨j + 1, vs, by go_num, by omega, by rw [HS.out]; exact HW, HB⟩
            case measure => simp [intOf]; omega
          · by_cases hx1 : (L.length : Int) ≤ nth (rowZ L k) j
            · have HS : Hid (bst L k (j + 1) = bst L k j) := bst_skip hjl (.inr (.inl hx1))
              have hx0' : (0 : Int) ≤ nth (rowZ L k) j := by omega
              have hx1' : ¬ nth (rowZ L k) j < (L.length : Int) := by omega
              generalize nth (rowZ L k) j = x at *
              go_wp2
              go_roundw
              case rel => exact ⟨j + 1, vs, by go_num, by omega, by rw [HS.out]; exact HW, HB⟩
              case measure => simp [intOf]; omega
            · obtain ⟨i, ei⟩ : ∃ i : Nat, nth (rowZ L k) j = (i : Int) := ⟨(nth (rowZ L k) j).toNat, by omega⟩
              have hil : i < L.length := by omega
              have hil' : (i : Int) < (L.length : Int) := by omega
              have hi0 : (0 : Int) ≤ (i : Int) := by omega
              have hrow := HW.out.row i hil
              have hcell := HW.out.cell hil
              have hfro := HW.out.fro i
              obtain ⟨O, c, ev⟩ := own_form hrow
              rw [ev] at hcell hrow
              have hcl := curB_len L k j i
              rw [← bst_row hil] at hcl
              have C := endsin_any O c (rowZ (bst L k j) i) (k : Int) wr (row_ints hrow) (by omega)
              rw [bst_row hil, curB_ends, ← bst_row hil] at C
              by_cases hin : (i : Int) ∈ (rowZ L k).take j
              · have HS : Hid (bst L k (j + 1) = bst L k j) := bst_skip hjl (.inr (.inr (by rw [ei]; exact hin)))
                rw [decide_eq_true hin] at C
                clear hin hrow
                rw [ei] at q
                clear ei hx0 hx1
                generalize (rowZ (bst L k j) i).length = rn at *
                go_wp2_with (go_at_call 104; refine C.mono ?_; rintro e w2 ⟨rfl, rfl⟩)
                go_roundw
                case rel => exact ⟨j + 1, vs, by go_num, by omega, by rw [HS.out]; exact HW, HB⟩
                case measure => simp [intOf]; omega
              · have HS : Hid (bst L k (j + 1) = (bst L k j).set i (rowZ (bst L k j) i ++ [(k : Int)])) := bst_add hjl hil ei hin
                rw [decide_eq_false hin] at C
                rw [ei] at q
                clear ei hx0 hx1 hin
                have HBx : Hid (Below wr.heap.size wr (wr.alloc (.cells #[.int .i64 (k : Int)] 3))) := lb_alloc (Below.refl _ _) _
                have HBa : Hid (Below w.heap.size w (wr.alloc (.cells #[.int .i64 (k : Int)] 3))) := lb_alloc HB.out _
                have HRa : Hid ((wr.alloc (.cells #[.int .i64 (k : Int)] 3)).ownsRow w.heap.size 3 1 (.slice O (rowZ (bst L k j) i).length c) (rowZ (bst L k j) i).length (iVals .i64 (rowZ (bst L k j) i))) := row_keep hrow HBx.out
                have HWa : Hid (RowsW (wr.alloc (.cells #[.int .i64 (k : Int)] 3)) w.heap.size w.heap.size L.length vs (bst L k j)) := HW.out.keep HBx.out
                have HEv : Hid (vn vs i = .slice O (rowZ (bst L k j) i).length c) := ev
                clear hrow ev
                generalize rowZ (bst L k j) i = P at *
                go_upto_region 10 with (first
                  | (go_at_call 104; refine C.mono ?_; rintro e w2 ⟨rfl, rfl⟩)
                  | (at_builtin; go_loud (refine wpList_append_at _ rfl (.tmp 46) (.tmp 48) 32 rfl w.heap.size 3 iI (.int .i64 0) 1 8 Tryz.underlying32 hi hz0 hz1 hz2 rfl (by decide) (.slice O P.length c) P.length (iVals .i64 P) rfl HRa.out ⟨w2.heap.size, 0, none⟩ 1 1 [.int .i64 (k : Int)] rfl rfl (fun j u hu => World.news_of_block (newAtK rfl) j u hu) one_oneI (by omega) (by unfold maxLen; omega) (by omega) HBa.out.size ?_; intro g3 cap3 w4 hown hgrow hloc; rw [← HEv.out] at hgrow hloc; have HW4 : Hid (RowsW (w4.setCell ⟨w.heap.size, i, none⟩ (.slice (some ⟨g3, 0, none⟩) (P.length + 1) cap3)) w.heap.size w.heap.size L.length (vs.set i (.slice (some ⟨g3, 0, none⟩) (P.length + 1) cap3)) ((bst L k j).set i (P ++ [(k : Int)]))) := HWa.out.put hil (by rw [iVals_snoc, List.length_append]; exact hown) hgrow (fun q hq => by cases hq; exact hloc); have HB4 : Hid (Below w.heap.size w (w4.setCell ⟨w.heap.size, i, none⟩ (.slice (some ⟨g3, 0, none⟩) (P.length + 1) cap3))) := HWa.out.below hil (Nat.le_refl _) HBa.out HBa.out.size hgrow _; have hcf := HWa.out.grown hil hgrow; have hcell4 := hcf.1; have hfro4 := hcf.2; clear hcf; clear hown hgrow hloc)))
                go_wp2
                go_roundw
                case rel => exact ⟨j + 1, _, by go_num, by omega, by rw [HS.out]; exact HW4, HB4⟩
                case measure => simp [intOf]; omega
        · obtain rfl : j = (rowZ L k).length := by omega
          go_wp2
          go_roundw
          case rel => exact ⟨k + 1, vs, by go_num, by omega, by rw [← bst_next]; exact HW, HB⟩
          case measure => simp [intOf]; omega
    · obtain rfl : k = L.length := by omega
      go_wp2
      go_ret
      have h := HW.out
      rw [bst_end] at h
      have h2 := h.rows
      exact ⟨_, _, by rw [h.mlen]; rfl, h2.ints, HB.out⟩
theorem backOK : BackOK := back_any



end Go.Proofs.YtmlhnnmelopleaaGreatDoor

namespace Go.Proofs.YtmlhnnmelopleaaGreatDoor
open Go.RowKit

def SR (text : List Int) (ent : Int) (w : World) (e : Ending) (w' : World) : Prop := ∃ (A B : Option Addr) (c d : Nat) (F G : Int → Nat), e = .returned (.tuple #[.slice A (blkL text ent).length c, .slice B (blkL text ent).length d, .int .i64 0]) ∧ IntsAt w' A .u16 (setL F (blkL text ent).length) ∧ IntsAt w' B .u16 (setL G (blkL text ent).length) ∧ LstI text ent F G ∧ Below w.heap.size w w'
def SN (E : Int) (w : World) (e : Ending) (w' : World) : Prop := ∃ (A B : Option Addr) (c d : Nat), e = .returned (.tuple #[.slice A 0 c, .slice B 0 d, .int .i64 E]) ∧ Below w.heap.size w w'
def HR (text : List Int) (ent : Int) (w : World) (e : Ending) (w' : World) : Prop := ∃ (A : Option Addr) (c : Nat) (H : Int → Nat), e = .returned (.tuple #[.slice A text.length c, .int .i64 0]) ∧ IntsAt w' A .u16 (setL H text.length) ∧ BhI text ent H ∧ Below w.heap.size w w'
def HN (E : Int) (w : World) (e : Ending) (w' : World) : Prop := ∃ (A : Option Addr) (c : Nat), e = .returned (.tuple #[.slice A 0 c, .int .i64 E]) ∧ Below w.heap.size w w'
structure BehindOK : Prop where
  ok : ∀ (A1 A2 : Option Addr) (c1 ml c2 : Nat) (ent : Int) (text : List Int) (w : World), IntsAt w A1 .u32 text → (∀ i, i < text.length → 0 ≤ nth text i ∧ nth text i < 4294967296) → text.length ≤ c1 → text.length ≤ 1048576 → ml ≤ 1048576 → (checkI text ml ent).1 = 0 →
    Calls Tryz.prog 74 #[.agg #[.slice A1 text.length c1, .int .i64 ent, .slice A2 ml c2]] w (HR text ent w)
  no : ∀ (A1 A2 : Option Addr) (c1 ml c2 : Nat) (ent : Int) (text : List Int) (w : World), IntsAt w A1 .u32 text → (∀ i, i < text.length → 0 ≤ nth text i ∧ nth text i < 4294967296) → text.length ≤ c1 → text.length ≤ 1048576 → ml ≤ 1048576 → (checkI text ml ent).1 ≠ 0 →
    Calls Tryz.prog 74 #[.agg #[.slice A1 text.length c1, .int .i64 ent, .slice A2 ml c2]] w (HN (checkI text ml ent).1 w)
theorem own_cap {w : World} {base n c : Nat} {e : TypeId} {sz m : Nat} {A : Option Addr} {xs : List Value} (h : w.ownsRow base e sz (.slice A m c) n xs) : n ≤ c := by
  rcases h.2 with ⟨_, h0⟩ | ⟨g, cap, cur, hv, _, _, hc, _⟩
  · omega
  · cases hv; exact hc



end Go.Proofs.YtmlhnnmelopleaaGreatDoor

namespace Go.Proofs.YtmlhnnmelopleaaGreatDoor
open Go.RowKit

/-- Two lists that rise and have the same numbers are one. -/
theorem rise_uniq : ∀ {l m : List Int}, l.Pairwise (· < ·) → m.Pairwise (· < ·) → (∀ y, y ∈ l ↔ y ∈ m) → l = m
  | [], [], _, _, _ => rfl
  | [], b :: m, _, _, h => absurd ((h b).2 (by simp)) (by simp)
  | a :: l, [], _, _, h => absurd ((h a).1 (by simp)) (by simp)
  | a :: l, b :: m, hl, hm, h => by
    rw [List.pairwise_cons] at hl hm
    have hab : a = b := by
      have h1 : a ∈ b :: m := (h a).1 (by simp)
      have h2 : b ∈ a :: l := (h b).2 (by simp)
      rw [List.mem_cons] at h1 h2
      rcases h1 with h1 | h1
      · exact h1
      · rcases h2 with h2 | h2
        · exact h2.symm
        · have := hl.1 b h2
          have := hm.1 a h1
          omega
    subst hab
    congr 1
    refine rise_uniq hl.2 hm.2 fun y => ?_
    constructor
    · intro hy
      have h1 : y ∈ a :: m := (h y).1 (List.mem_cons_of_mem _ hy)
      have h2 := hl.1 y hy
      rw [List.mem_cons] at h1
      rcases h1 with rfl | h1
      · omega
      · exact h1
    · intro hy
      have h1 : y ∈ a :: l := (h y).2 (List.mem_cons_of_mem _ hy)
      have h2 := hm.1 y hy
      rw [List.mem_cons] at h1
      rcases h1 with rfl | h1
      · omega
      · exact h1
theorem plc_pair (f : Int → Bool) (n : Nat) : (plcT f n).Pairwise (· < ·) := by
  unfold plcT
  rw [List.pairwise_map]
  exact (List.pairwise_lt_range.filter _).imp (fun {a b} h => by omega)
theorem plc_uniq {f : Int → Bool} {n : Nat} {l : List Int} (hl : l.Pairwise (· < ·)) (h : ∀ y, y ∈ l ↔ 0 ≤ y ∧ y < n ∧ f y = true) : l = plcT f n :=
  rise_uniq hl (plc_pair f n) fun y => by rw [h y, plcT_mem]
/-- What is left of a list that rises, each number once. -/
theorem compact_rise {zs : List Int} (h : zs.Pairwise (· ≤ ·)) : (Lib.compact zs).Pairwise (· < ·) ∧ ∀ y, y ∈ Lib.compact zs ↔ y ∈ zs := by
  have hget : ∀ i, i < zs.length → zs.toArray[i]! = zs.getD i 0 := fun i hi => by
    simp [List.getD, hi]
  have hle : ∀ i j, i ≤ j → j < zs.length → zs.getD i 0 ≤ zs.getD j 0 := fun i j hij hj => by
    by_cases e : i = j
    · subst e; exact Int.le_refl _
    · rw [List.pairwise_iff_getElem] at h
      have := h i j (by omega) hj (by omega)
      simpa [List.getD, hj, show i < zs.length by omega] using this
  have key : ∀ m, m ≤ zs.length → (Lib.compactUpTo zs.toArray m).Pairwise (· < ·) ∧ (∀ y, y ∈ Lib.compactUpTo zs.toArray m ↔ ∃ i, i < m ∧ zs.getD i 0 = y) := by
    intro m
    induction m with
    | zero => exact fun _ => ⟨by simp [Lib.compactUpTo], fun y => by simp [Lib.compactUpTo]⟩
    | succ m ih =>
      intro hm
      obtain ⟨i1, i2⟩ := ih (by omega)
      rw [Lib.compactUpTo_succ]
      by_cases hk : Lib.keeps zs.toArray m = true
      · rw [if_pos hk, hget m (by omega)]
        constructor
        · rw [List.pairwise_append]
          refine ⟨i1, by simp, fun x hx y hy => ?_⟩
          rw [List.mem_singleton] at hy
          subst hy
          obtain ⟨i, hi, rfl⟩ := (i2 x).1 hx
          unfold Lib.keeps at hk
          rw [decide_eq_true_eq] at hk
          rcases hk with rfl | hk
          · omega
          · rw [hget m (by omega), hget (m - 1) (by omega)] at hk
            have h1 := hle i (m - 1) (by omega) (by omega)
            have h2 := hle (m - 1) m (by omega) (by omega)
            omega
        · intro y
          rw [List.mem_append, i2, List.mem_singleton]
          constructor
          · rintro (⟨i, hi, e⟩ | rfl)
            · exact ⟨i, by omega, e⟩
            · exact ⟨m, by omega, rfl⟩
          · rintro ⟨i, hi, e⟩
            by_cases him : i = m
            · subst him; exact .inr e.symm
            · exact .inl ⟨i, by omega, e⟩
      · have hk' : Lib.keeps zs.toArray m = false := by simpa using hk
        rw [if_neg hk, List.append_nil]
        refine ⟨i1, fun y => ?_⟩
        rw [i2]
        unfold Lib.keeps at hk'
        rw [decide_eq_false_iff_not] at hk'
        have hm0 : m ≠ 0 := fun e => hk' (.inl e)
        have he : zs.getD m 0 = zs.getD (m - 1) 0 := by
          rw [← hget m (by omega), ← hget (m - 1) (by omega)]
          exact Decidable.byContradiction fun e => hk' (.inr e)
        constructor
        · rintro ⟨i, hi, e⟩
          exact ⟨i, by omega, e⟩
        · rintro ⟨i, hi, e⟩
          by_cases him : i = m
          · subst him; exact ⟨i - 1, by omega, by rw [← he]; exact e⟩
          · exact ⟨i, by omega, e⟩
  obtain ⟨k1, k2⟩ := key zs.length (Nat.le_refl _)
  refine ⟨k1, fun y => ?_⟩
  show y ∈ Lib.compactUpTo zs.toArray zs.length ↔ _
  rw [k2, List.mem_iff_getElem]
  constructor
  · rintro ⟨i, hi, e⟩
    exact ⟨i, hi, by simpa [List.getD, hi] using e⟩
  · rintro ⟨i, hi, e⟩
    exact ⟨i, hi, by simpa [List.getD, hi] using e⟩
/-- What rising tells. -/
def risZ (zs : List Int) : List Int := Lib.compact (zs.mergeSort fun x y => decide (x ≤ y))
theorem ris_rise (zs : List Int) : (risZ zs).Pairwise (· < ·) ∧ ∀ y, y ∈ risZ zs ↔ y ∈ zs := by
  have hs : (zs.mergeSort fun x y => decide (x ≤ y)).Pairwise (· ≤ ·) := by
    have := List.pairwise_mergeSort (le := fun x y : Int => decide (x ≤ y)) (fun a b c h1 h2 => by simp at h1 h2 ⊢; omega) (fun a b => by simp; omega) zs
    exact this.imp fun {a b} h => by simpa using h
  obtain ⟨h1, h2⟩ := compact_rise hs
  exact ⟨h1, fun y => by
    show y ∈ Lib.compact _ ↔ _
    rw [h2, List.mem_mergeSort]⟩
theorem ris_plc {zs : List Int} {f : Int → Bool} {n : Nat} (h : ∀ y, y ∈ zs ↔ 0 ≤ y ∧ y < n ∧ f y = true) : risZ zs = plcT f n :=
  plc_uniq (ris_rise zs).1 fun y => by rw [(ris_rise zs).2, h]
theorem ris_len (zs : List Int) : (risZ zs).length ≤ zs.length := by
  unfold risZ
  have h1 := Lib.compact_length_le (zs.mergeSort fun x y => decide (x ≤ y))
  have h2 : (zs.mergeSort fun x y => decide (x ≤ y)).length = zs.length := List.length_mergeSort zs
  omega



end Go.Proofs.YtmlhnnmelopleaaGreatDoor

namespace Go.Proofs.YtmlhnnmelopleaaGreatDoor
open Go.RowKit

theorem zisT_of {v : Int} (h : dOp v = 15 ∨ dOp v = 16 ∨ dOp v = 17 ∨ dOp v = 20) : isT v = true ∧ tgV v = dN v := by
  have : isT v = true := by
    unfold isT hP
    rw [Bool.and_eq_true, decide_eq_true_eq, decide_eq_true_eq]
    omega
  exact ⟨this, by unfold tgV; rw [if_pos this]⟩
theorem zlab_place {text : List Int} {ml : Nat} {ent : Int} (hM : MayI text ml ent) {i : Nat} (hi : i < text.length) (h : dOp (nth text i) = 15 ∨ dOp (nth text i) = 16 ∨ dOp (nth text i) = 17 ∨ dOp (nth text i) = 20) : dN (nth text i) ∈ plcT (begF text ent) text.length := by
  obtain ⟨h1, h2⟩ := zisT_of h
  have h3 := tg_pos h1
  have h4 := far_in (hM.far i hi) h1
  rw [h2] at h3 h4
  refine plcT_mem.2 ⟨h3.1, h4, beg_lab (lab_iff.2 (.inr (anyF_iff.2 ⟨i, hi, ?_⟩)))⟩
  rw [gLab_yes h1, h2]
theorem zkn_place {text : List Int} {ml : Nat} {ent : Int} (hM : MayI text ml ent) {x : Int} (h : (takF text x || sitF text x) = true) : x ∈ plcT (begF text ent) text.length := by
  rw [Bool.or_eq_true] at h
  rcases h with h | h
  · have h' : anyF (gTak text) text.length x = true := by simpa [takF, addK, noF] using h
    obtain ⟨i, hi, e⟩ := anyF_iff.1 h'
    unfold gTak at e
    split at e
    · rename_i h20
      have h20 : dOp (nth text i) = 20 := by simpa using h20
      obtain rfl := Option.some.inj e
      exact zlab_place hM hi (by omega)
    · cases e
  · have h' : anyF (gSit text) text.length x = true := by simpa [sitF, addK, noF] using h
    obtain ⟨i, hi, e⟩ := anyF_iff.1 h'
    unfold gSit at e
    split at e
    · rename_i h17
      obtain rfl := Option.some.inj e
      have := sit_in hM hi h17
      exact sit_beg (plcT_mem.2 ⟨by omega, by omega, h⟩)
    · cases e
/-- Which numbers tell the blocks by their beginnings. -/
def NumF (text : List Int) (ent : Int) (k : Nat) (F : Int → Int) : Prop := ∀ j : Nat, j < k → F (rAt (blkL text ent) j) = (j : Int)
theorem blk_place {text : List Int} {ent x : Int} {F : Int → Int} (hF : NumF text ent (blkL text ent).length F) (hx : x ∈ plcT (begF text ent) text.length) : ∃ k : Nat, k < (blkL text ent).length ∧ rAt (blkL text ent) k = x ∧ F x = (k : Int) := by
  obtain ⟨k, hk, _, e⟩ := blk_begin (f := begF text ent) (n := text.length) hx
  have e : rAt (blkL text ent) k = x := e
  exact ⟨k, hk, e, by rw [← e]; exact hF k hk⟩
theorem rAt_rise {text : List Int} {ent : Int} {i j : Nat} (hij : i < j) (hj : j < (blkL text ent).length) : rAt (blkL text ent) i < rAt (blkL text ent) j := by
  have hj2 : j < (plcT (begF text ent) text.length).length := by rw [← blkN_len]; exact hj
  have h1 := blk_from (f := begF text ent) (n := text.length) (k := i) (by omega)
  have h2 := blk_from (f := begF text ent) (n := text.length) hj2
  have e : blkN (begF text ent) text.length = blkL text ent := rfl
  rw [e] at h1 h2
  rw [h1, h2]
  exact plc_rise hij hj2
theorem NumF.more {text : List Int} {ent : Int} {k : Nat} {F : Int → Int} (h : NumF text ent k F) (hk : k < (blkL text ent).length) : NumF text ent (k + 1) (fun y => if y = rAt (blkL text ent) k then (k : Int) else F y) := fun j hj => by
  by_cases e : j = k
  · subst e
    show (if _ then _ else _) = _
    rw [if_pos rfl]
  · have := rAt_rise (text := text) (ent := ent) (show j < k by omega) hk
    show (if _ then _ else _) = _
    rw [if_neg (by omega)]
    exact h j (by omega)
def knK (text : List Int) (ent : Int) (y : Int) : Bool := takF text (rAt (blkL text ent) y.toNat) || sitF text (rAt (blkL text ent) y.toNat)
/-- The blocks at whose beginnings a leap can end. -/
theorem known_plc {text : List Int} {ml : Nat} {ent : Int} (hM : MayI text ml ent) {F : Int → Int} (hF : NumF text ent (blkL text ent).length F) : risZ ((plcT (takF text) text.length ++ plcT (sitF text) text.length).map F) = plcT (knK text ent) (blkL text ent).length := by
  refine ris_plc fun y => ?_
  rw [List.mem_map]
  constructor
  · rintro ⟨p, hp, rfl⟩
    have hk : (takF text p || sitF text p) = true := by
      rw [List.mem_append] at hp
      rw [Bool.or_eq_true]
      rcases hp with hp | hp
      · exact .inl (plcT_mem.1 hp).2.2
      · exact .inr (plcT_mem.1 hp).2.2
    obtain ⟨k, hk1, e1, e2⟩ := blk_place hF (zkn_place hM hk)
    rw [e2]
    refine ⟨by omega, by omega, ?_⟩
    unfold knK
    rw [show ((k : Int)).toNat = k by omega, e1]
    exact hk
  · rintro ⟨h0, h1, h2⟩
    have hk : y.toNat < (blkL text ent).length := by omega
    have hin := blk_in hk
    refine ⟨rAt (blkL text ent) y.toNat, ?_, ?_⟩
    · unfold knK at h2
      rw [Bool.or_eq_true] at h2
      rw [List.mem_append]
      rcases h2 with h2 | h2
      · exact .inl (plcT_mem.2 ⟨hin.1, by omega, h2⟩)
      · exact .inr (plcT_mem.2 ⟨hin.1, by omega, h2⟩)
    · rw [hF _ hk]; omega
section
variable {text : List Int} {ml : Nat} {ent : Int} {k : Nat}
theorem last_at (hk : k < (blkL text ent).length) : ∃ p : Nat, p < text.length ∧ rSym (blkL text ent) k = (p : Int) + 1 ∧ lastW text ent k = nth text p := by
  have hin := blk_in hk
  refine ⟨(rSym (blkL text ent) k - 1).toNat, by omega, by omega, rfl⟩
theorem zblk_after {p : Nat} (hb : k < (blkL text ent).length) (e : rSym (blkL text ent) k = (p : Int) + 1) (hp : p + 1 < text.length) : k + 1 < (blkL text ent).length ∧ rAt (blkL text ent) (k + 1) = (p : Int) + 1 := by
  have hb' : k < (plcT (begF text ent) text.length).length := by rw [← blkN_len]; exact hb
  by_cases h4 : k + 1 < (plcT (begF text ent) text.length).length
  · have h5 := blk_next (f := begF text ent) (n := text.length) h4
    exact ⟨by show k + 1 < (blkN (begF text ent) text.length).length; rw [blkN_len]; exact h4, by rw [← e]; exact h5.symm⟩
  · have h5 : rSym (blkL text ent) k = (text.length : Int) := blk_last (f := begF text ent) (n := text.length) (k := k) (by omega)
    omega
theorem znot_last {p : Nat} (hM : MayI text ml ent) (hp : p < text.length) (h : ¬ (dOp (nth text p) = 0 ∨ dOp (nth text p) = 15 ∨ dOp (nth text p) = 19 ∨ dOp (nth text p) = 21)) : p + 1 < text.length := by
  by_cases e : p + 1 = text.length
  · have hl := hM.last
    rw [show text.length - 1 = p by omega] at hl
    unfold lastOK at hl
    rw [decide_eq_true_eq] at hl
    exact absurd hl h
  · omega
theorem next_blk (hM : MayI text ml ent) (hk : k < (blkL text ent).length) (h : ¬ (dOp (lastW text ent k) = 0 ∨ dOp (lastW text ent k) = 15 ∨ dOp (lastW text ent k) = 19 ∨ dOp (lastW text ent k) = 21)) : k + 1 < (blkL text ent).length := by
  obtain ⟨p, hp, e, el⟩ := last_at hk
  rw [el] at h
  exact (zblk_after hk e (znot_last hM hp h)).1
theorem edg_at (hk : k < (blkL text ent).length) : rowZ (edgT text ent (blkL text ent).length) k = plcT (edgR text ent k) (blkL text ent).length := edg_row hk
theorem from_known (hk : k < (blkL text ent).length) (h : dOp (lastW text ent k) = 18 ∨ dOp (lastW text ent k) = 19) : rowZ (edgT text ent (blkL text ent).length) k = plcT (knK text ent) (blkL text ent).length := by
  rw [edg_at hk]
  refine plcT_fit fun i _ => ?_
  unfold edgR edgB knK goesF
  rw [if_neg (by omega), if_neg (by omega), if_neg (by omega), if_pos h]
theorem from_none (hk : k < (blkL text ent).length) (h : dOp (lastW text ent k) = -1 ∨ dOp (lastW text ent k) = 0 ∨ dOp (lastW text ent k) = 21) : rowZ (edgT text ent (blkL text ent).length) k = [] := by
  rw [edg_at hk]
  symm
  refine plc_uniq (by simp) fun y => ?_
  constructor
  · intro hy; simp at hy
  · rintro ⟨_, _, h2⟩
    unfold edgR edgB goesF at h2
    rw [if_pos h] at h2
    cases h2
theorem from_jump (hM : MayI text ml ent) {F : Int → Int} (hF : NumF text ent (blkL text ent).length F) (hk : k < (blkL text ent).length) (h : dOp (lastW text ent k) = 15 ∨ dOp (lastW text ent k) = 17) : rowZ (edgT text ent (blkL text ent).length) k = [F (dN (lastW text ent k))] := by
  obtain ⟨p, hp, e, el⟩ := last_at hk
  have hl := zlab_place hM hp (by rw [← el]; omega)
  rw [← el] at hl
  obtain ⟨j, hj, e1, e2⟩ := blk_place hF hl
  rw [edg_at hk]
  symm
  refine plc_uniq (by simp) fun y => ?_
  rw [List.mem_singleton, e2]
  have hg : edgR text ent k y = (dN (lastW text ent k) == rAt (blkL text ent) y.toNat) := by
    unfold edgR edgB goesF
    rw [if_neg (by omega), if_pos h]
  rw [hg, beq_iff_eq]
  constructor
  · rintro rfl
    refine ⟨by omega, by omega, ?_⟩
    rw [show ((j : Int)).toNat = j by omega]; exact e1.symm
  · rintro ⟨h0, h1, h2⟩
    have := hF y.toNat (by omega)
    rw [← h2, e2] at this
    omega
theorem from_zero (hM : MayI text ml ent) {F : Int → Int} (hF : NumF text ent (blkL text ent).length F) (hk : k < (blkL text ent).length) (h : dOp (lastW text ent k) = 16) : rowZ (edgT text ent (blkL text ent).length) k = risZ [F (dN (lastW text ent k)), (k : Int) + 1] := by
  obtain ⟨p, hp, e, el⟩ := last_at hk
  have hl := zlab_place hM hp (by rw [← el]; omega)
  rw [← el] at hl
  obtain ⟨j, hj, e1, e2⟩ := blk_place hF hl
  have hnx := next_blk hM hk (by omega)
  rw [edg_at hk]
  symm
  refine ris_plc fun y => ?_
  rw [List.mem_cons, List.mem_singleton, e2]
  have hg : edgR text ent k y = ((dN (lastW text ent k) == rAt (blkL text ent) y.toNat) || (((y.toNat : Nat) : Int) == (k : Int) + 1)) := by
    unfold edgR edgB goesF
    rw [if_neg (by omega), if_neg (by omega), if_pos h]
  rw [hg, Bool.or_eq_true, beq_iff_eq, beq_iff_eq]
  constructor
  · rintro (rfl | rfl)
    · refine ⟨by omega, by omega, .inl ?_⟩
      rw [show ((j : Int)).toNat = j by omega]; exact e1.symm
    · exact ⟨by omega, by omega, .inr (by omega)⟩
  · rintro ⟨h0, h1, h2 | h2⟩
    · have := hF y.toNat (by omega)
      rw [← h2, e2] at this
      exact .inl (by omega)
    · exact .inr (by omega)
theorem from_next (hM : MayI text ml ent) (hk : k < (blkL text ent).length) (h : ¬ (dOp (lastW text ent k) = -1 ∨ dOp (lastW text ent k) = 0 ∨ dOp (lastW text ent k) = 21 ∨ dOp (lastW text ent k) = 15 ∨ dOp (lastW text ent k) = 17 ∨ dOp (lastW text ent k) = 16 ∨ dOp (lastW text ent k) = 18 ∨ dOp (lastW text ent k) = 19)) : rowZ (edgT text ent (blkL text ent).length) k = [(k : Int) + 1] := by
  have hnx := next_blk hM hk (by omega)
  rw [edg_at hk]
  symm
  refine plc_uniq (by simp) fun y => ?_
  rw [List.mem_singleton]
  have hg : edgR text ent k y = (((y.toNat : Nat) : Int) == (k : Int) + 1) := by
    unfold edgR edgB goesF
    rw [if_neg (by omega), if_neg (by omega), if_neg (by omega), if_neg (by omega)]
  rw [hg, beq_iff_eq]
  constructor
  · rintro rfl
    exact ⟨by omega, by omega, by omega⟩
  · rintro ⟨h0, h1, h2⟩
    omega
theorem jump_in (hM : MayI text ml ent) (hk : k < (blkL text ent).length) (h : dOp (lastW text ent k) = 15 ∨ dOp (lastW text ent k) = 16 ∨ dOp (lastW text ent k) = 17) : 0 ≤ dN (lastW text ent k) ∧ dN (lastW text ent k) < (text.length : Int) := by
  obtain ⟨p, hp, e, el⟩ := last_at hk
  have hl := zlab_place hM hp (by rw [← el]; omega)
  rw [← el] at hl
  exact ⟨(plcT_mem.1 hl).1, (plcT_mem.1 hl).2.1⟩
end
/-- The cells of an instruction. -/
def insC (v : Int) : List Value := [.int .i8 (dOp v), .int .i8 (dD v), .int .i8 (dA v), .int .i8 (dB v), .int .i64 (dN v)]
def lstV : List Int → List Value
  | [] => []
  | v :: l => insC v ++ lstV l
theorem lstV_snoc : ∀ (l : List Int) (v : Int), lstV (l ++ [v]) = lstV l ++ insC v
  | [], v => by simp [lstV]
  | x :: l, v => by rw [List.cons_append, lstV, lstV, lstV_snoc l v, List.append_assoc]
theorem lstV_len : ∀ l : List Int, (lstV l).length = l.length * 5
  | [] => rfl
  | x :: l => by rw [lstV, List.length_append, lstV_len l, List.length_cons]; simp [insC]; omega
theorem lstV_get : ∀ {l : List Int} {i j : Nat}, i < l.length → j < 5 → (lstV l)[i * 5 + j]? = (insC (nth l i))[j]?
  | [], i, j, h, _ => absurd h (Nat.not_lt_zero _)
  | x :: l, 0, j, _, hj => by
    rw [lstV, List.getElem?_append_left (by simp [insC]; omega)]
    simp [nth]
  | x :: l, i + 1, j, h, hj => by
    rw [lstV, List.getElem?_append_right (by simp [insC]; omega), show (i + 1) * 5 + j - (insC x).length = i * 5 + j by simp [insC]; omega, lstV_get (l := l) (by simpa using h) hj]
    simp [nth]
theorem insC_one (v : Int) : ∀ u ∈ insC v, u.oneCell' = true := fun u hu => by
  simp only [insC, List.mem_cons, List.not_mem_nil, or_false] at hu
  rcases hu with rfl | rfl | rfl | rfl | rfl <;> rfl
/-- The last words of the first k blocks. -/
def lastL (text : List Int) (ent : Int) (k : Nat) : List Int := (List.range k).map (lastW text ent)
theorem lastL_len (text : List Int) (ent : Int) (k : Nat) : (lastL text ent k).length = k := by simp [lastL]
theorem lastL_succ (text : List Int) (ent : Int) (k : Nat) : lastL text ent (k + 1) = lastL text ent k ++ [lastW text ent k] := by simp [lastL, List.range_succ]
theorem lastL_nth {text : List Int} {ent : Int} {k i : Nat} (h : i < k) : nth (lastL text ent k) i = lastW text ent i := by simp [nth, lastL, List.getD, h]



end Go.Proofs.YtmlhnnmelopleaaGreatDoor
