/-
  A stack in memory, its room at its end; no Go in sight. reached of package edge, by what it answers. Reached of package edge, by what it answers; each word is of 32 bits.
-/
import Derived.Test.YtgkdagnpefgjcaaGreatProg
import Derived.WalkKit
import Derived.WalkSpells
import Derived.WalkLawsBesides
import Derived.RowKit3
import Derived.Below
import Derived.Deep.QuietTactic
import Derived.BigQuiet
import Derived.WalkSmall
import Derived.Laws.Rows
import Derived.Test.YtgkdagnpefgjcaaGreatPr46
import Derived.Test.YtgkdagnpefgjcaaGreatPr41
import Derived.Test.YtgkdagnpefgjcaaGreatPr17
import Derived.Test.YtgkdagnpefgjcaaGreatPr42
import Derived.Test.YtgkdagnpefgjcaaGreatPr18
import Derived.WalkMore
import Derived.Lib.AppendZeros
import Derived.Test.YtgkdagnpefgjcaaGreatPr45
namespace Go.Proofs.YtgkdagnpefgjcaaGreat
open Go.RowKit

/-- A stack of numbers in the block g, of room for n. -/
def StkAt (w : World) (base g n : Nat) (st : List Int) : Prop := w.ownsRow base 3 1 (.slice (some ⟨g, 0, none⟩) st.length n) st.length (iVals .i64 st)
theorem StkAt.keep {w w1 : World} {base g n : Nat} {st : List Int} (h : StkAt w base g n st) (hb : Below w.heap.size w w1) : StkAt w1 base g n st := row_keep h hb
theorem StkAt.pop {w : World} {base g n : Nat} {st : List Int} {x : Int} (h : StkAt w base g n (st ++ [x])) : StkAt w base g n st := by
  rcases h.2 with ⟨e, _⟩ | ⟨g2, cap, cur, e, hb, hg, hn, hm, hs, ht⟩
  · cases e
  · cases e
    refine ⟨by simp [iVals], .inr ⟨g, n, cur, rfl, hb, hg, by rw [List.length_append] at hn; omega, hm, hs, ?_⟩⟩
    have h2 := congrArg (List.take st.length) ht
    rw [List.take_take, iVals_app, List.take_left' (by simp [iVals])] at h2
    rw [← h2, List.length_append, Nat.mul_one, Nat.mul_one, Nat.min_eq_left (by omega)]
theorem StkAt.top {w : World} {base g n : Nat} {st : List Int} {x : Int} (h : StkAt w base g n (st ++ [x])) : w.cell? ⟨g, st.length, none⟩ = some (.int .i64 x) := by
  have h2 := h.cells (g := g) rfl st.length (.int .i64 x) (by rw [iVals_app, List.getElem?_append_right (by simp [iVals])]; simp [iVals])
  rw [add0] at h2
  exact h2
theorem StkAt.le {w : World} {base g n : Nat} {st : List Int} (h : StkAt w base g n st) : st.length ≤ n := by
  rcases h.2 with ⟨e, _⟩ | ⟨g2, cap, cur, e, hb, hg, hn, hm, hs, ht⟩
  · cases e
  · cases e; exact hn
theorem StkAt.made (w : World) (n : Nat) (hn : n ≤ 1048576) : StkAt (w.alloc (.cells (madeCells #[.int .i64 0] n) 3)) w.heap.size w.heap.size n [] :=
  ⟨rfl, .inr ⟨w.heap.size, n, _, rfl, Nat.le_refl _, heap_alloc_new _ _, Nat.zero_le _, by unfold maxLen; omega, by simp [madeCells], by simp [iVals]⟩⟩
/-- One more number, in its own room. -/
theorem StkAt.push {w : World} {base g n : Nat} {st : List Int} {x : Int} {g5 : Nat} (h : StkAt w base g n st) (hr : st.length + 1 ≤ n) (hx : w.heap[g5]? = some (.cells #[.int .i64 x] 3 (0, 0))) : ∃ w', (∀ ty, (Builtin.append_ #[47, 47] ty #[.slice (some ⟨g, 0, none⟩) st.length n, .slice (some ⟨g5, 0, none⟩) 1 1]).run Tryz.prog w = .ok (.slice (some ⟨g, 0, none⟩) (st.length + 1) n) w') ∧ StkAt w' base g n (st ++ [x]) ∧ w.grownBy w' (some g) := by
  obtain ⟨iI, hi, hz0, hz1, hz2⟩ := infoI
  obtain ⟨w', h1, h2, h3⟩ := run_append_fits (P := Tryz.prog) w base 47 0 3 iI 1 Tryz.underlying47 hi hz1 g st.length n (iVals .i64 st) h ⟨g5, 0, none⟩ 1 1 [.int .i64 x] rfl (fun j u hu => World.news_of_block hx j u hu) one_oneI hr
  refine ⟨w', fun ty => h1, ?_, h3⟩
  unfold StkAt
  rw [iVals_snoc, List.length_append]
  exact h2
theorem BlsAt.keptR {w w1 : World} {g n : Nat} {F : Int → Bool} {row : Option Nat} (h : BlsAt w g n F) (hg : w.grownBy w1 row) (hne : row ≠ some g) : BlsAt w1 g n F := by
  obtain ⟨cs, h1, h2⟩ := h
  exact ⟨cs, by rw [hg.block g (Array.getElem?_eq_some_iff.1 h1).1 (fun e => hne e.symm)]; exact h1, h2⟩
theorem StkAt.off {w : World} {base g n gF : Nat} {st : List Int} {m : Nat} {F : Int → Bool} (h : StkAt w base g n st) (hF : BlsAt w gF m F) : g ≠ gF := fun e => by
  obtain ⟨cs, h1, _⟩ := hF
  exact blk_off h h1 (by decide) (by rw [e]; rfl)
theorem StkAt.mark {w : World} {base g n gF : Nat} {st : List Int} {i : Nat} {v : Value} (h : StkAt w base g n st) (hne : g ≠ gF) : StkAt (w.setCell ⟨gF, i, none⟩ v) base g n st := ownsRow_setCell_other h (fun e => hne (by injection e)) v
theorem make_stk (n : Nat) (hn : n ≤ 1048576) (w : World) : (Instr.makeSlice 47 (.int .i64 0) (.int .i64 (n : Int))).run Tryz.prog w = .ok (.slice (some ⟨w.heap.size, 0, none⟩) 0 n) (w.alloc (.cells (madeCells #[.int .i64 0] n) 3)) := by
  obtain ⟨i, hi, hz, hs, hb⟩ := infoI
  have h := run_makeSlice (P := Tryz.prog) w 47 3 i _ Tryz.underlying47 hi hz .i64 .i64 0 (n : Int) (by omega) (by omega) (by rw [hs]; omega) (by rw [hb]; omega) (by omega)
  rw [hs, show ((n : Int)).toNat = n by omega, Nat.mul_one] at h
  exact h
/-- How long a list is. -/
def slLen : Value → Nat
  | .slice _ n _ => n
  | _ => 0

end Go.Proofs.YtgkdagnpefgjcaaGreat

namespace Go.Proofs.YtgkdagnpefgjcaaGreat
open Go.RowKit

theorem ends_nil (st : List Int) : st = [] ∨ ∃ l x, st = l ++ [x] := by
  rcases List.eq_nil_or_concat st with h | ⟨l, x, h⟩
  · exact .inl h
  · exact .inr ⟨l, x, by rw [h, List.concat_eq_append]⟩
/-- A list that is read while others are written: what its block is not. -/
theorem row_off {w : World} {gf g : Nat} {l : List Int} {A : Option Addr} {c : Nat} {text : List Int} {ent : Int} {w0 : World} (h0 : FlowAt w0 gf text ent) (hb : Below w0.heap.size w0 w) (hg : w0.heap.size ≤ g) (hgw : g < w.heap.size) (h : (∀ q, (Value.slice A l.length c).ownBlock = some q → w.heap.size ≤ q) ∨ w.cell? ⟨gf, 2, none⟩ = some (.slice A l.length c)) : (Value.slice A l.length c).ownBlock ≠ some g := by
  intro e
  rcases h with h | h
  · have := h g e
    omega
  · obtain ⟨A1, A3, c1, gN, c3, F, hf⟩ := h0
    have h2 := lkeep hb hf.cells.2.2
    rw [h] at h2
    injection h2 with h2
    rw [h2] at e
    have := (hf.known.lt g e).2
    omega
set_option maxRecDepth 100000 in
set_option maxHeartbeats 8000000 in
theorem reach_any (gf eb : Nat) (text : List Int) (ml : Nat) (ent : Int) (w : World) (hF : FlowAt w gf text ent) (hM : MayI text ml ent) (heb : eb < (blkL text ent).length) :
    Calls Tryz.prog 18 #[.pointer (some ⟨gf, 0, none⟩), .int .i64 (eb : Int)] w (MarkP (blkL text ent).length (rchF (edgT text ent (blkL text ent).length) (eb : Int)) w) := by
  have hl4 : text.length ≤ 16384 := hM.past.len
  have hLt := blk_len_le text ent
  have HF : Hid (FlowAt w gf text ent) := hF
  have HM : Hid (MayI text ml ent) := hM
  have HFc : Hid (∃ A c, w.cell? ⟨gf, 0, none⟩ = some (.slice A (blkL text ent).length c)) := by
    obtain ⟨A1', A3, c1', gN, c3, F, h⟩ := hF
    exact ⟨_, _, h.cells.1⟩
  obtain ⟨AL, cL, f0⟩ := HFc.out
  have HEl : Hid ((edgT text ent (blkL text ent).length).length = (blkL text ent).length) := edgT_len text ent _
  have HEi : Hid (∀ k t, k < (blkL text ent).length → t < (rowZ (edgT text ent (blkL text ent).length) k).length → 0 ≤ nth (rowZ (edgT text ent (blkL text ent).length) k) t ∧ nth (rowZ (edgT text ent (blkL text ent).length) k) t < ((blkL text ent).length : Int)) := fun k t hk ht => edg_in hk ht
  have HRl : Hid (∀ k, k < (blkL text ent).length → (rowZ (edgT text ent (blkL text ent).length) k).length ≤ 65536) := fun k hk => by
    rw [edg_row hk]
    have := plcT_len (edgR text ent k) (blkL text ent).length
    omega
  have HKn : Hid (∀ k, k < (blkL text ent).length → leapB (dOp (lastW text ent k)) = true → rowZ (edgT text ent (blkL text ent).length) k = knL text ent) := fun k hk hlp => from_known hk (by
    unfold leapB at hlp
    rw [Bool.or_eq_true, beq_iff_eq, beq_iff_eq] at hlp
    exact hlp)
  have CL := fun k wx (hk : k < (blkL text ent).length) (hx : Below w.heap.size w wx) => leaps_any gf k text ent wx (hF.keep hx) hk (by omega)
  have CF := fun k wx (hk : k < (blkL text ent).length) (hx : Below w.heap.size w wx) => from_any gf k text ml ent wx (hF.keep hx) hM hk
  have heb' : (eb : Int) < ((blkL text ent).length : Int) := by omega
  have heb0 : (0 : Int) ≤ (eb : Int) := by omega
  have hnb1 : (blkL text ent).length ≤ 16384 := by omega
  clear HFc hF hM
  have hmk := make_bls (blkL text ent).length (by omega)
  have hms := make_stk (blkL text ent).length (by omega)
  generalize edgT text ent (blkL text ent).length = EE at *
  have HNb : Hid (∀ k, k < (blkL text ent).length → True) := fun _ _ => trivial
  generalize hnb : (blkL text ent).length = nb at *
  have HNB : Hid ((blkL text ent).length = nb) := hnb
  clear hnb HNb
  obtain ⟨X, HX⟩ : ∃ X, Hid (w.alloc (.cells (madeCells #[.bool false] nb) 4) = X) := ⟨_, rfl⟩
  have HBX : Hid (Below w.heap.size w X) := by unfold Hid; rw [← HX.out]; exact lb_alloc (Below.refl _ _) _
  have HSX : Hid (BlsAt X w.heap.size nb noF) := by unfold Hid; rw [← HX.out]; exact BlsAt.made w nb
  have s0 := HSX.out.cellN heb
  have s1 := HSX.out.fro eb
  go_enter Tryz.func18, Tryz.ntmps18
  go_wp2
  go_step3
  go_upto_region 2 with fail
  rw [HX.out]
  clear HX hmk f0
  obtain ⟨Y, HY⟩ : ∃ Y, Hid (X.setCell ⟨w.heap.size, eb, none⟩ (.bool true) = Y) := ⟨_, rfl⟩
  have HSY : Hid (BlsAt Y w.heap.size nb (setF noF (eb : Int))) := by unfold Hid; rw [← HY.out]; exact HSX.out.setN heb
  have HBY : Hid (Below w.heap.size w Y) := by unfold Hid; rw [← HY.out]; exact below_setAt HBX.out (Nat.le_refl _) HBX.out.size
  go_upto_region 3 with fail
  rw [HY.out]
  clear HY s0 s1 HSX HBX
  obtain ⟨U, HU⟩ : ∃ U, Hid ((Y.alloc (.cells (madeCells #[.int .i64 0] nb) 3)).alloc (.cells #[.int .i64 (eb : Int)] 3) = U) := ⟨_, rfl⟩
  have HBU : Hid (Below Y.heap.size Y U) := by unfold Hid; rw [← HU.out]; exact lb_alloc (lb_alloc (Below.refl _ _) _) _
  have HKU : Hid (StkAt U Y.heap.size Y.heap.size nb []) := by unfold Hid; rw [← HU.out]; exact (StkAt.made Y nb (by omega)).keep (lb_alloc (Below.refl _ _) _)
  have HNU : Hid (U.heap[Y.heap.size + 1]? = some (.cells #[.int .i64 (eb : Int)] 3 (0, 0))) := by
    unfold Hid
    rw [← HU.out, show Y.heap.size + 1 = (Y.alloc (.cells (madeCells #[.int .i64 0] nb) 3)).heap.size by simp]
    exact heap_alloc_new _ _
  have hwz : w.heap.size < Y.heap.size := HSY.out.lt
  obtain ⟨w5, hr5, hk5, hg5⟩ := HKU.out.push (by simp only [List.length_nil]; omega) HNU.out
  have hr5 : ∀ ty, (Builtin.append_ #[47, 47] ty #[.slice (some ⟨Y.heap.size, 0, none⟩) 0 nb, .slice (some ⟨Y.heap.size + 1, 0, none⟩) 1 1]).run Tryz.prog U = .ok (.slice (some ⟨Y.heap.size, 0, none⟩) 1 nb) w5 := hr5
  have HK5 : Hid (StkAt w5 w.heap.size Y.heap.size nb [(eb : Int)]) := ownsRow_mono hk5 (Nat.le_of_lt hwz)
  have HS5 : Hid (BlsAt w5 w.heap.size nb (setF noF (eb : Int))) := (HSY.out.keep HBU.out).keptR hg5 (fun e => by injection e with e; omega)
  have HB5 : Hid (Below w.heap.size w w5) := (lb_trans HBY.out HBU.out).grown hg5 (lb_trans HBY.out HBU.out).size (fun b hb => by cases hb; exact Nat.le_of_lt hwz)
  clear hk5 hg5 HKU HNU HBU HBY HSY
  go_upto_region 4 with (at_builtin; go_loud (rw [HU.out]; refine Lib.wpList_append_run _ rfl (.tmp 23) (.tmp 25) 47 47 rfl (.slice (some ⟨Y.heap.size, 0, none⟩) 0 nb) (.slice (some ⟨Y.heap.size + 1, 0, none⟩) 1 1) rfl rfl _ _ (hr5 _) ?_))
  clear hr5 hms HU
  generalize Y.heap.size = gS at *
  go_wp2
  go_step3
  go_wp2
  go_loopw [6, 7] (fun v b wr => ∃ (st : List Int) (F : Int → Bool) (lp : Bool), v = .slice (some ⟨gS, 0, none⟩) st.length nb ∧ b = .bool lp ∧ Hid (Stk EE nb (eb : Int) F st) ∧ Hid (BlsAt wr w.heap.size nb F) ∧ Hid (StkAt wr w.heap.size gS nb st) ∧ Hid (lp = true → ∀ x ∈ knL text ent, F x = true) ∧ Hid (Below w.heap.size w wr)) (fun v _ wr => 2 * lowN (cellF wr w.heap.size) nb + slLen v)
  case atStart => exact ⟨[(eb : Int)], _, false, rfl, rfl, Stk.first heb, HS5, HK5, fun h => (by cases h), HB5⟩
  case round =>
    clear HS5 HK5 HB5
    obtain ⟨st, F, lp, rfl, rfl, HT, HS, HK, HL, HB⟩ := hrel
    have HM0 : Hid (lowN (cellF wr w.heap.size) nb = lowN F nb) := HS.out.low
    rcases ends_nil st with rfl | ⟨st, x, rfl⟩
    · go_wp2
      try rw [Exit.noGoto_ret]
      go_ret
      exact ⟨w.heap.size, rfl, HS.out.fit (rch_same HT.out.snd (by rw [HEl.out]; exact HT.out.fin)), HB.out⟩
    · obtain ⟨h0, h1, h2⟩ := HT.out.inn x (by simp)
      obtain ⟨k, rfl⟩ : ∃ k : Nat, x = (k : Int) := ⟨x.toNat, by omega⟩
      have hk : k < nb := by omega
      have hk' : (k : Int) < (nb : Int) := by omega
      have HTI : Hid (StkI EE nb (eb : Int) F st k 0) := HT.out.pop
      have htop := HK.out.top
      have hle := HK.out.le
      have hlen : (st ++ [(k : Int)]).length = st.length + 1 := by simp
      rw [hlen] at hle ⊢
      have HK1 : Hid (StkAt wr w.heap.size gS nb st) := HK.out.pop
      have hsl : (st.length : Int) ≤ 16384 := by omega
      have hsn : (st.length : Int) ≤ (nb : Int) := by omega
      have hwr : IntKind.i64.wrap ((st.length : Int) + 1 - 1) = (st.length : Int) := by rw [IntKind.wrap_i64]; omega
      have hpos : (0 : Int) < (st.length : Int) + 1 := by omega
      have hnbI : (nb : Int) ≤ 16384 := by omega
      have C1 := CL k wr hk HB.out
      have C2 := CF k wr hk HB.out
      have HEi2 : Hid (∀ t, t < (rowZ EE k).length → 0 ≤ nth (rowZ EE k) t ∧ nth (rowZ EE k) t < (nb : Int)) := fun t ht => HEi.out k t hk ht
      have hrl := HRl.out k hk
      have HKk : Hid (leapB (dOp (lastW text ent k)) = true → rowZ EE k = knL text ent) := HKn.out k hk
      generalize hLe : rowZ EE k = l at C2 HEi2 hrl HKk
      have HLe : Hid (rowZ EE k = l) := hLe
      clear hLe h0 h1 h2 hlen HK
      cases hlb : leapB (dOp (lastW text ent k)) with
      | true =>
        have HKl : Hid (l = knL text ent) := HKk.out hlb
        rw [hlb] at C1
        clear hlb HKk
        cases lp with
        | true =>
          have HT9 : Hid (Stk EE nb (eb : Int) F st) := HTI.out.past (by rw [HLe.out, HKl.out]; first | exact HL.out rfl | exact HL.out trivial)
          go_wp2_with (go_at_call 34; refine C1.mono ?_; rintro e w3 ⟨rfl, hw3⟩; have hw3 := hw3.symm; subst hw3)
          go_roundw
          case rel => exact ⟨st, F, true, rfl, rfl, HT9, HS, HK1, by first | exact HL | exact fun _ => HL.out trivial, HB⟩
          case measure => simp only [slLen]; omega
        | false =>
          go_wp2_with (first
            | (go_at_call 34; refine C1.mono ?_; rintro e w3 ⟨rfl, hw3⟩; have hw3 := hw3.symm; subst hw3)
            | (go_at_call 17; refine C2.mono ?_; rintro e w2 ⟨Af, cf, rfl, hof, hb2, hor⟩; have HO2 : Hid (w2.ownsRow 0 3 1 (.slice Af l.length cf) l.length (iVals .i64 l)) := hof; have HOr : Hid ((∀ q, (Value.slice Af l.length cf).ownBlock = some q → wr.heap.size ≤ q) ∨ wr.cell? ⟨gf, 2, none⟩ = some (.slice Af l.length cf)) := hor; have HS2 : Hid (BlsAt w2 w.heap.size nb F) := HS.out.keep hb2; have HK2 : Hid (StkAt w2 w.heap.size gS nb st) := HK1.out.keep hb2; have HB2 : Hid (Below w.heap.size w w2) := lb_trans HB.out hb2; clear hof hb2 hor))
          clear C1 C2 htop
          have hgw : gS < wr.heap.size := (HK1.out.lt gS rfl).2
          have HOf1 : Hid ((Value.slice Af l.length cf).ownBlock ≠ some gS) := row_off HF.out HB.out (Nat.le_of_lt hwz) hgw HOr.out
          have HOf2 : Hid ((Value.slice Af l.length cf).ownBlock ≠ some w.heap.size) := row_off HF.out HB.out (Nat.le_refl _) HS.out.lt HOr.out
          go_loopw [6, 50] (fun v i wx => ∃ (j : Nat) (st2 : List Int) (F2 : Int → Bool), v = .slice (some ⟨gS, 0, none⟩) st2.length nb ∧ i = .int .i64 j ∧ j ≤ l.length ∧ Hid (StkI EE nb (eb : Int) F2 st2 k j) ∧ Hid (BlsAt wx w.heap.size nb F2) ∧ Hid (StkAt wx w.heap.size gS nb st2) ∧ Hid (wx.ownsRow 0 3 1 (.slice Af l.length cf) l.length (iVals .i64 l)) ∧ Hid (∀ y, F y = true → F2 y = true) ∧ Hid (2 * lowN F2 nb + st2.length ≤ 2 * lowN F nb + st.length) ∧ Hid (Below w.heap.size w wx)) (fun _ i _ => l.length - (intOf i).toNat)
          case atStart => exact ⟨0, st, F, rfl, rfl, Nat.zero_le _, HTI, HS2, HK2, HO2, fun _ h => h, Nat.le_refl _, HB2⟩
          case round =>
            clear HS2 HK2 HO2 HB2
            obtain ⟨j, st2, F2, rfl, rfl, hj, HI, HSr, HKr, HOr2, HMo, HMe, HBr⟩ := hrel
            by_cases hjl : j < l.length
            · have hjl' : (j : Int) < (l.length : Int) := by omega
              obtain ⟨a, ea, q⟩ := (row_ints HOr2.out) j hjl
              subst ea
              obtain ⟨z0, z1⟩ := HEi2.out j hjl
              have t0 := HSr.out.cell z0 z1
              have t1 := HSr.out.fro (nth l j).toNat
              cases hx : F2 (nth l j) with
              | true =>
                have HI2 : Hid (StkI EE nb (eb : Int) F2 st2 k (j + 1)) := HI.out.met (by rw [HLe.out]; exact hx)
                rw [hx] at t0
                clear hx
                generalize nth l j = x at *
                go_wp2
                go_roundw
                case rel => exact ⟨j + 1, st2, F2, rfl, by go_num, by omega, HI2, HSr, HKr, HOr2, HMo, HMe, HBr⟩
                case measure => simp [intOf]; omega
              | false =>
                have HI2 : Hid (StkI EE nb (eb : Int) (setF F2 (nth l j)) (st2 ++ [nth l j]) k (j + 1)) := by
                  have := HI.out.new (by rw [HLe.out]; exact hjl) (by rw [HLe.out]; exact z0) (by rw [HLe.out]; exact z1) (by rw [HLe.out]; exact hx)
                  rwa [HLe.out] at this
                have hroom : st2.length + 1 ≤ nb := HI.out.room (by rw [HLe.out]; exact z0) (by rw [HLe.out]; exact z1) (by rw [HLe.out]; exact hx)
                have hlow := lowN_set z0 z1 hx
                rw [hx] at t0
                clear hx
                generalize nth l j = x at *
                have HMe2 : Hid (2 * lowN (setF F2 x) nb + (st2.length + 1) ≤ 2 * lowN F nb + st.length) := by have := HMe.out; unfold Hid; omega
                have HMo2 : Hid (∀ y, F y = true → setF F2 x y = true) := fun y h => set_up (HMo.out y h)
                obtain ⟨V, HV⟩ : ∃ V, Hid (wr.setCell ⟨w.heap.size, x.toNat, none⟩ (.bool true) = V) := ⟨_, rfl⟩
                have hgs : gS ≠ w.heap.size := by omega
                have HSV : Hid (BlsAt V w.heap.size nb (setF F2 x)) := by unfold Hid; rw [← HV.out]; exact HSr.out.set z0 z1
                have HKV : Hid (StkAt V w.heap.size gS nb st2) := by unfold Hid; rw [← HV.out]; exact HKr.out.mark hgs
                have HOV : Hid (V.ownsRow 0 3 1 (.slice (some a) l.length cf) l.length (iVals .i64 l)) := by unfold Hid; rw [← HV.out]; exact ownsRow_setCell_other HOr2.out HOf2.out _
                have HBV : Hid (Below w.heap.size w V) := by unfold Hid; rw [← HV.out]; exact below_setAt HBr.out (Nat.le_refl _) HBr.out.size
                go_upto_region 17 with fail
                rw [HV.out]
                clear HV t0 t1 hlow
                have HBu : Hid (Below V.heap.size V (V.alloc (.cells #[.int .i64 x] 3))) := lb_alloc (Below.refl _ _) _
                obtain ⟨w6, hr6, hk6, hg6⟩ := (HKV.out.keep HBu.out).push (x := x) hroom (heap_alloc_new V _)
                have HK6 : Hid (StkAt w6 w.heap.size gS nb (st2 ++ [x])) := hk6
                have HS6 : Hid (BlsAt w6 w.heap.size nb (setF F2 x)) := (HSV.out.keep HBu.out).keptR hg6 (fun e => hgs (by injection e))
                have HO6 : Hid (w6.ownsRow 0 3 1 (.slice (some a) l.length cf) l.length (iVals .i64 l)) := (row_keep HOV.out HBu.out).kept hg6 (by
                  cases hq : (Value.slice (some a) l.length cf).ownBlock with
                  | none => exact .inl rfl
                  | some q => exact .inr fun e => HOf1.out (by rw [hq]; exact e))
                have HB6 : Hid (Below w.heap.size w w6) := (lb_trans HBV.out HBu.out).grown hg6 (lb_trans HBV.out HBu.out).size (fun b hb => by cases hb; exact Nat.le_of_lt hwz)
                clear hk6 hg6
                go_upto_region 18 with (at_builtin; go_loud (refine Lib.wpList_append_run _ rfl (.tmp 62) (.tmp 64) 47 47 rfl (.slice (some ⟨gS, 0, none⟩) st2.length nb) (.slice (some ⟨V.heap.size, 0, none⟩) 1 1) rfl rfl _ _ (hr6 _) ?_))
                clear hr6
                go_wp2
                go_roundw
                case rel => exact ⟨j + 1, st2 ++ [x], setF F2 x, by simp, by go_num, by omega, HI2, HS6, HK6, HO6, HMo2, by rw [List.length_append]; exact HMe2, HB6⟩
                case measure => simp [intOf]; omega
            · obtain rfl : j = l.length := by omega
              have HT9 : Hid (Stk EE nb (eb : Int) F2 st2) := HI.out.done (by rw [HLe.out]; exact Nat.le_refl _)
              have HL9 : Hid (true = true → ∀ x ∈ knL text ent, F2 x = true) := fun _ => by rw [← HKl.out, ← HLe.out]; exact HI.out.all (by rw [HLe.out]; exact Nat.le_refl _)
              go_wp2
              go_roundw
              case rel => exact ⟨st2, F2, true, rfl, rfl, HT9, HSr, HKr, HL9, HBr⟩
              case measure =>
                rw [HSr.out.low, HM0.out]
                have := HMe.out
                simp only [slLen]
                omega
      | false =>
        rw [hlb] at C1
        clear hlb HKk
        go_wp2_with (first
          | (go_at_call 34; refine C1.mono ?_; rintro e w3 ⟨rfl, hw3⟩; have hw3 := hw3.symm; subst hw3)
          | (go_at_call 17; refine C2.mono ?_; rintro e w2 ⟨Af, cf, rfl, hof, hb2, hor⟩; have HO2 : Hid (w2.ownsRow 0 3 1 (.slice Af l.length cf) l.length (iVals .i64 l)) := hof; have HOr : Hid ((∀ q, (Value.slice Af l.length cf).ownBlock = some q → wr.heap.size ≤ q) ∨ wr.cell? ⟨gf, 2, none⟩ = some (.slice Af l.length cf)) := hor; have HS2 : Hid (BlsAt w2 w.heap.size nb F) := HS.out.keep hb2; have HK2 : Hid (StkAt w2 w.heap.size gS nb st) := HK1.out.keep hb2; have HB2 : Hid (Below w.heap.size w w2) := lb_trans HB.out hb2; clear hof hb2 hor))
        clear C1 C2 htop
        have hgw : gS < wr.heap.size := (HK1.out.lt gS rfl).2
        have HOf1 : Hid ((Value.slice Af l.length cf).ownBlock ≠ some gS) := row_off HF.out HB.out (Nat.le_of_lt hwz) hgw HOr.out
        have HOf2 : Hid ((Value.slice Af l.length cf).ownBlock ≠ some w.heap.size) := row_off HF.out HB.out (Nat.le_refl _) HS.out.lt HOr.out
        go_loopw [6, 50] (fun v i wx => ∃ (j : Nat) (st2 : List Int) (F2 : Int → Bool), v = .slice (some ⟨gS, 0, none⟩) st2.length nb ∧ i = .int .i64 j ∧ j ≤ l.length ∧ Hid (StkI EE nb (eb : Int) F2 st2 k j) ∧ Hid (BlsAt wx w.heap.size nb F2) ∧ Hid (StkAt wx w.heap.size gS nb st2) ∧ Hid (wx.ownsRow 0 3 1 (.slice Af l.length cf) l.length (iVals .i64 l)) ∧ Hid (∀ y, F y = true → F2 y = true) ∧ Hid (2 * lowN F2 nb + st2.length ≤ 2 * lowN F nb + st.length) ∧ Hid (Below w.heap.size w wx)) (fun _ i _ => l.length - (intOf i).toNat)
        case atStart => exact ⟨0, st, F, rfl, rfl, Nat.zero_le _, HTI, HS2, HK2, HO2, fun _ h => h, Nat.le_refl _, HB2⟩
        case round =>
          clear HS2 HK2 HO2 HB2
          obtain ⟨j, st2, F2, rfl, rfl, hj, HI, HSr, HKr, HOr2, HMo, HMe, HBr⟩ := hrel
          by_cases hjl : j < l.length
          · have hjl' : (j : Int) < (l.length : Int) := by omega
            obtain ⟨a, ea, q⟩ := (row_ints HOr2.out) j hjl
            subst ea
            obtain ⟨z0, z1⟩ := HEi2.out j hjl
            have t0 := HSr.out.cell z0 z1
            have t1 := HSr.out.fro (nth l j).toNat
            cases hx : F2 (nth l j) with
            | true =>
              have HI2 : Hid (StkI EE nb (eb : Int) F2 st2 k (j + 1)) := HI.out.met (by rw [HLe.out]; exact hx)
              rw [hx] at t0
              clear hx
              generalize nth l j = x at *
              go_wp2
              go_roundw
              case rel => exact ⟨j + 1, st2, F2, rfl, by go_num, by omega, HI2, HSr, HKr, HOr2, HMo, HMe, HBr⟩
              case measure => simp [intOf]; omega
            | false =>
              have HI2 : Hid (StkI EE nb (eb : Int) (setF F2 (nth l j)) (st2 ++ [nth l j]) k (j + 1)) := by
                have := HI.out.new (by rw [HLe.out]; exact hjl) (by rw [HLe.out]; exact z0) (by rw [HLe.out]; exact z1) (by rw [HLe.out]; exact hx)
                rwa [HLe.out] at this
              have hroom : st2.length + 1 ≤ nb := HI.out.room (by rw [HLe.out]; exact z0) (by rw [HLe.out]; exact z1) (by rw [HLe.out]; exact hx)
              have hlow := lowN_set z0 z1 hx
              rw [hx] at t0
              clear hx
              generalize nth l j = x at *
              have HMe2 : Hid (2 * lowN (setF F2 x) nb + (st2.length + 1) ≤ 2 * lowN F nb + st.length) := by have := HMe.out; unfold Hid; omega
              have HMo2 : Hid (∀ y, F y = true → setF F2 x y = true) := fun y h => set_up (HMo.out y h)
              obtain ⟨V, HV⟩ : ∃ V, Hid (wr.setCell ⟨w.heap.size, x.toNat, none⟩ (.bool true) = V) := ⟨_, rfl⟩
              have hgs : gS ≠ w.heap.size := by omega
              have HSV : Hid (BlsAt V w.heap.size nb (setF F2 x)) := by unfold Hid; rw [← HV.out]; exact HSr.out.set z0 z1
              have HKV : Hid (StkAt V w.heap.size gS nb st2) := by unfold Hid; rw [← HV.out]; exact HKr.out.mark hgs
              have HOV : Hid (V.ownsRow 0 3 1 (.slice (some a) l.length cf) l.length (iVals .i64 l)) := by unfold Hid; rw [← HV.out]; exact ownsRow_setCell_other HOr2.out HOf2.out _
              have HBV : Hid (Below w.heap.size w V) := by unfold Hid; rw [← HV.out]; exact below_setAt HBr.out (Nat.le_refl _) HBr.out.size
              go_upto_region 17 with fail
              rw [HV.out]
              clear HV t0 t1 hlow
              have HBu : Hid (Below V.heap.size V (V.alloc (.cells #[.int .i64 x] 3))) := lb_alloc (Below.refl _ _) _
              obtain ⟨w6, hr6, hk6, hg6⟩ := (HKV.out.keep HBu.out).push (x := x) hroom (heap_alloc_new V _)
              have HK6 : Hid (StkAt w6 w.heap.size gS nb (st2 ++ [x])) := hk6
              have HS6 : Hid (BlsAt w6 w.heap.size nb (setF F2 x)) := (HSV.out.keep HBu.out).keptR hg6 (fun e => hgs (by injection e))
              have HO6 : Hid (w6.ownsRow 0 3 1 (.slice (some a) l.length cf) l.length (iVals .i64 l)) := (row_keep HOV.out HBu.out).kept hg6 (by
                cases hq : (Value.slice (some a) l.length cf).ownBlock with
                | none => exact .inl rfl
                | some q => exact .inr fun e => HOf1.out (by rw [hq]; exact e))
              have HB6 : Hid (Below w.heap.size w w6) := (lb_trans HBV.out HBu.out).grown hg6 (lb_trans HBV.out HBu.out).size (fun b hb => by cases hb; exact Nat.le_of_lt hwz)
              clear hk6 hg6
              go_upto_region 18 with (at_builtin; go_loud (refine Lib.wpList_append_run _ rfl (.tmp 62) (.tmp 64) 47 47 rfl (.slice (some ⟨gS, 0, none⟩) st2.length nb) (.slice (some ⟨V.heap.size, 0, none⟩) 1 1) rfl rfl _ _ (hr6 _) ?_))
              clear hr6
              go_wp2
              go_roundw
              case rel => exact ⟨j + 1, st2 ++ [x], setF F2 x, by simp, by go_num, by omega, HI2, HS6, HK6, HO6, HMo2, by rw [List.length_append]; exact HMe2, HB6⟩
              case measure => simp [intOf]; omega
          · obtain rfl : j = l.length := by omega
            have HT9 : Hid (Stk EE nb (eb : Int) F2 st2) := HI.out.done (by rw [HLe.out]; exact Nat.le_refl _)
            have HL9 : Hid (lp = true → ∀ x ∈ knL text ent, F2 x = true) := fun h y hy => HMo.out y (HL.out h y hy)
            go_wp2
            go_roundw
            case rel => exact ⟨st2, F2, lp, rfl, rfl, HT9, HSr, HKr, HL9, HBr⟩
            case measure =>
              rw [HSr.out.low, HM0.out]
              have := HMe.out
              simp only [slLen]
              omega

end Go.Proofs.YtgkdagnpefgjcaaGreat

namespace Go.Proofs.YtgkdagnpefgjcaaGreat
open Go.RowKit

theorem ent_num {text : List Int} {ml : Nat} {ent : Int} (hM : MayI text ml ent) {F : Int → Int} (hF : NumF text ent (blkL text ent).length F) : ∃ k : Nat, k < (blkL text ent).length ∧ F ent = (k : Int) ∧ ofB (blkL text ent) ent = (k : Int) := by
  have hx : ent ∈ plcT (begF text ent) text.length := plcT_mem.2 ⟨hM.past.ent0, hM.past.ent1, beg_ent text ent⟩
  obtain ⟨k, hk, e, e2⟩ := blk_begin (f := begF text ent) (n := text.length) hx
  have e2 : rAt (blkL text ent) k = ent := e2
  refine ⟨k, hk, ?_, e⟩
  have := hF k hk
  rw [e2] at this
  exact this
set_option maxRecDepth 100000 in
set_option maxHeartbeats 4000000 in
theorem reached_any (A1 A2 : Option Addr) (c1 ml c2 : Nat) (ent : Int) (text : List Int) (w : World) (hT : IntsAt w A1 .u32 text) (hR : ∀ i, i < text.length → 0 ≤ nth text i ∧ nth text i < 4294967296) (hl : text.length ≤ 1048576) (hm : ml ≤ 1048576) :
    Calls Tryz.prog 8 #[.agg #[.slice A1 text.length c1, .int .i64 ent, .slice A2 ml c2]] w (BE (checkI text ml ent).1 (outN text ml ent) (outR text ent) w) := by
  obtain ⟨W, HW⟩ : ∃ W, Hid (w.alloc (.cells #[.slice A1 text.length c1, .int .i64 ent, .slice A2 ml c2] 25) = W) := ⟨_, rfl⟩
  have HB : Hid (Below w.heap.size w W) := by unfold Hid; rw [← HW.out]; exact lb_alloc (Below.refl _ _) _
  have i0 : W.cell? ⟨w.heap.size, 0, none⟩ = some (.slice A1 text.length c1) := by rw [← HW.out]; simp [go_sem]
  have i1 : W.cell? ⟨w.heap.size, 1, none⟩ = some (.int .i64 ent) := by rw [← HW.out]; simp [go_sem]
  have i2 : W.cell? ⟨w.heap.size, 2, none⟩ = some (.slice A2 ml c2) := by rw [← HW.out]; simp [go_sem]
  by_cases hE : (checkI text ml ent).1 = 0
  · have C := flow_ok A1 A2 c1 ml c2 ent text W (hT.keep HB.out) hR hl hm hE
    have HM : Hid (MayI text ml ent) := check_mayI hE
    have HN : Hid (outN text ml ent = (blkL text ent).length) := if_pos hE
    rw [HN.out, hE]
    clear hT hR hE HN
    go_enter Tryz.func8, Tryz.ntmps8
    go_upto_region 1 with fail
    rw [HW.out]
    clear HW
    go_upto_region 4 with (go_at_call 15; refine C.mono ?_; rintro e w1 ⟨gf, rfl, hf, hb1⟩; have HF : Hid (FlowAt w1 gf text ent) := hf; have HB1 : Hid (Below w.heap.size w w1) := lb_trans HB.out hb1; have j1 := lkeep hb1 i1; clear hf hb1 i0 i1 i2)
    clear C
    have HFx : Hid (∃ gN F, w1.cell? ⟨gf, 1, none⟩ = some (.slice (some ⟨gN, 0, none⟩) text.length text.length) ∧ NumsAt w1 gN text.length F ∧ NumF text ent (blkL text ent).length F) := by
      obtain ⟨A1', A3, c1', gN, c3, F, h⟩ := HF.out
      exact ⟨gN, F, h.cells.2.1, h.nums, h.num⟩
    obtain ⟨gN, F, f1, hns, hnf⟩ := HFx.out
    obtain ⟨k, hk, e1, e2⟩ := ent_num HM.out hnf
    have n0 := HM.out.past.ent0
    have n1 := HM.out.past.ent1
    have t0 := hns.cell n0 n1
    rw [e1] at t0
    have HO : Hid (outR text ent = rchF (edgT text ent (blkL text ent).length) (k : Int)) := by unfold Hid outR; rw [e2]
    have CR := fun wx (hx : Below w1.heap.size w1 wx) => reach_any gf k text ml ent wx (HF.out.keep hx) HM.out hk
    clear HFx hns hnf e1 e2
    generalize rchF (edgT text ent (blkL text ent).length) (k : Int) = G at *
    generalize (blkL text ent).length = nb at *
    go_region_held3 (fun X => Below w1.heap.size w1 X ∧ X.cell? ⟨gf, 1, none⟩ = some (.slice (some ⟨gN, 0, none⟩) text.length text.length) ∧ X.cell? ⟨w.heap.size, 1, none⟩ = some (.int .i64 ent) ∧ X.cell? ⟨gN, ent.toNat, none⟩ = some (.int .i64 (k : Int))) (first | exact ⟨hY, lkeep hY f1, lkeep hY j1, lkeep hY t0⟩ | exact ⟨hY.drew, lkeep hY.drew f1, lkeep hY.drew j1, lkeep hY.drew t0⟩ | exact ⟨Below.drew (Below.refl _ _), f1, j1, t0⟩ | exact ⟨Below.refl _ _, f1, j1, t0⟩)
      ((go_at_call 18; refine (CR _ (by first | exact Below.drew (Below.refl _ _) | exact Below.refl _ _)).mono ?_; rintro e w3 ⟨g9, rfl, ho9, hb9⟩; have hY : Below w1.heap.size w1 w3 := lb_trans (by first | exact Below.drew (Below.refl _ _) | exact Below.refl _ _) hb9))
    all_goals (
      rename_i hS
      clear hS
      go_wp2_with fail
      go_ret2
      exact ⟨_, _, rfl, by rw [HO.out]; exact ho9.bols, lb_trans HB1.out hY⟩)
  · have C := flow_no A1 A2 c1 ml c2 ent text W (hT.keep HB.out) hR hl hm hE
    have HN : Hid (outN text ml ent = 0) := if_neg hE
    have hne : ((checkI text ml ent).1 == 0) = false := by simpa using hE
    have hne2 : ((checkI text ml ent).1 != 0) = true := by simpa using hE
    rw [HN.out]
    clear hE HN hT hR
    generalize (checkI text ml ent).1 = E at *
    go_enter Tryz.func8, Tryz.ntmps8
    go_upto_region 1 with fail
    rw [HW.out]
    clear HW
    go_wp2_with (go_at_call 15; refine C.mono ?_; rintro e w1 ⟨rfl, hb1⟩)
    go_ret2
    exact ⟨none, 0, rfl, fun i hi => absurd hi (Nat.not_lt_zero _), lb_trans HB.out hb1⟩
theorem reachedOK : ReachedOK := reached_any

end Go.Proofs.YtgkdagnpefgjcaaGreat
