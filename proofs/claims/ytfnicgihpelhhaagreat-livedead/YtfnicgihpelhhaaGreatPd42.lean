/-
  grow of package live: from the empty sets to the least ones. Lists of lists that are written over; the lists of flow at the beginning. eq and EqBools of the statements: lists that are the same. What the statements need of the program: Edges, Reached, Back, each by what it answers.
-/
import Derived.Test.YtfnicgihpelhhaaGreatProg
import Derived.WalkKit
import Derived.WalkSpells
import Derived.WalkLawsBesides
import Derived.RowKit3
import Derived.Below
import Derived.Deep.QuietTactic
import Derived.BigQuiet
import Derived.WalkSmall
import Derived.Laws.Rows
import Derived.Test.YtfnicgihpelhhaaGreatPd41
import Derived.Deep.LoopGhost
import Derived.Test.YtfnicgihpelhhaaGreatPd20
import Derived.Test.YtfnicgihpelhhaaGreatPd36
import Derived.Test.YtfnicgihpelhhaaGreatPd09
import Derived.Deep.RegionHeld3
import Derived.Deep.RegionWith
import Derived.Test.YtfnicgihpelhhaaGreatPd14
import Derived.Test.YtfnicgihpelhhaaGreatPd19
namespace Go.Proofs.YtfnicgihpelhhaaGreat
open Go.RowKit

theorem wpList_mks_len (w : World) {ops : Array Oper} {rest : List Oper} {o : Oper} {a : Act} {Q : Exit → Act → World → Prop} (hg : o.guard = none) (m : Operand) (hop : o.op = Op.call { callee := Callee.builtin Builtin.len, args := #[m], argTypes := #[132] })
    (b n : Nat) (f : Int → Bool) (hk : Mks w b n f) (hm : a.eval m = .map (some b))
    (hK : ∀ z : Nat, z ≤ n → (z = 0 → ∀ x, f x = false) → wpList Tryz.prog ops Q rest (a.put o.dst (.int .i64 (z : Int))) w) : wpList Tryz.prog ops Q (o :: rest) a w := by
  obtain ⟨D, h, h3⟩ := hk
  refine wpList_plain hg fun K' hK' => ?_
  have hrun := h.len mapW o.type
  unfold Oper.wp
  simp [execOp, hop, resolve, invoke, builtin, hm, hrun, Result.andThen]
  exact hK' _ _ (hK _ h.size_le fun hz x => by rw [← h3]; exact size_none h hz x)
/-- How many rounds at most are left. -/
def grN (G : Int → Nat) (N n : Nat) : Nat := 2 * lowS G N + min n 1
def GrP (w0 : World) (M : List (List Int)) (P : Nat) (A : Option Addr) (c N gr gw gi go : Nat) (R W : Int → Nat) (e : Ending) (w' : World) : Prop := ∃ (F G : Int → Nat), e = .returned (.tuple #[]) ∧ SetsAt w' P A c N gr gw gi go R W F G ∧ Lst M (fun j => R (j : Int)) (fun j => W (j : Int)) N F G ∧ (∀ x, G x < 65536) ∧ Below w0.heap.size w0 w'
theorem Gp.again {M : List (List Int)} {N : Nat} {R W F G : Int → Nat} {f : Int → Bool} {na L0 : Nat} (h : Gp M N R W F G f noF na L0) : Gp M N R W F G f noF 0 (lowS G N) := ⟨h.wk, h.inb, by omega⟩
theorem Gp.end {M : List (List Int)} {N : Nat} {R W F G : Int → Nat} {f : Int → Bool} {na L0 : Nat} (h : Gp M N R W F G f noF na L0) (hI : Inn M N) (hf : ∀ x, f x = false) : Lst M (fun j => R (j : Int)) (fun j => W (j : Int)) N F G := h.wk.lst hI fun k _ => by
  unfold orB
  rw [hf]; rfl
set_option maxRecDepth 100000 in
set_option maxHeartbeats 8000000 in
theorem grow_any (w0 : World) (M : List (List Int)) (P : Nat) (A : Option Addr) (c N gr gw gi go : Nat) (R W : Int → Nat) (w : World) (hZ : IntsZ w0 A (backT M N)) (hMl : M.length = N) (hI : Inn M N) (hN : N ≤ 1048576) (hS : SetsAt w P A c N gr gw gi go R W zeroS zeroS) (hB : Below w0.heap.size w0 w) (hR : ∀ x, R x < 65536) (hW : ∀ x, W x < 65536) (hi : w0.heap.size ≤ gi ∧ w0.heap.size ≤ go) :
    Calls Tryz.prog 51 #[.pointer (some ⟨P, 0, none⟩)] w (GrP w0 M P A c N gr gw gi go R W) := by
  have hmm := mkW
  obtain ⟨X, HX⟩ : ∃ X, Hid (w.alloc (.map #[] 0) = X) := ⟨_, rfl⟩
  have HBX : Hid (Below w.heap.size w X) := by unfold Hid; rw [← HX.out]; exact lb_alloc (Below.refl _ _) _
  have HKX : Hid (Mks X w.heap.size 0 noF) := by unfold Hid; rw [← HX.out]; exact Mks.made w
  have HSX : Hid (SetsAt X P A c N gr gw gi go R W zeroS zeroS) := hS.keep HBX.out
  have HBl : Hid (Below w0.heap.size w0 X) := lb_trans hB HBX.out
  have Hzw : Hid (w0.heap.size ≤ w.heap.size) := hB.size
  have CT := fun (b n : Nat) (F G : Int → Nat) (f : Int → Bool) (wx : World) (h1 : SetsAt wx P A c N gr gw gi go R W F G) (h2 : Mks wx b n f) (h3 : Gp M N R W F G f noF 0 (lowS G N)) (h4 : Below w0.heap.size w0 wx) (h5 : w0.heap.size ≤ b) => through_any w0 M P A c N gr gw gi go b n R W F G f wx hZ hMl hN h1 h2 h3 h4 hR hW ⟨hi.1, hi.2, h5⟩
  have HI : Hid (Inn M N) := hI
  clear hZ hMl hI hS hB hR hW hi
  go_enter Tryz.func51, Tryz.ntmps51
  go_upto_region 1 with fail
  rw [HX.out]
  clear HX
  have p4 := HSX.out.cells.2.2.2.2
  go_upto_region 2 with fail
  generalize w.heap.size = b0 at *
  go_loopw [10] (fun i wr => ∃ k : Nat, i = .int .i64 k ∧ k ≤ N ∧ Hid (Mks wr b0 k (fun x => decide (0 ≤ x ∧ x < (k : Int)))) ∧ Hid (SetsAt wr P A c N gr gw gi go R W zeroS zeroS) ∧ Hid (Below w0.heap.size w0 wr)) (fun i _ => N - (intOf i).toNat)
  case atStart =>
    refine ⟨0, rfl, Nat.zero_le _, HKX.out.fit fun x => ?_, HSX, HBl⟩
    unfold noF
    symm
    rw [decide_eq_false_iff_not]
    omega
  case round =>
    clear HKX HSX HBl p4
    obtain ⟨k, rfl, hk, HK, HS, HB⟩ := hrel
    by_cases hlt : k < N
    · have hlt' : (k : Int) < (N : Int) := by omega
      have C1 := wput_any b0 k _ (k : Int) wr HK.out (by omega) (by omega) (by omega)
      go_wp2_with (go_at_call 77; refine C1.mono ?_; rintro e w6 ⟨rfl, hm6, hg6⟩; have HK6 : Hid (Mks w6 b0 (k + 1) (fun x => decide (0 ≤ x ∧ x < ((k + 1 : Nat) : Int)))) := hm6.fit (fun x => by unfold setF; rw [Bool.eq_iff_iff]; simp; omega); have HS6 : Hid (SetsAt w6 P A c N gr gw gi go R W zeroS zeroS) := HS.out.kept hg6 HK.out.obj; have HB6 : Hid (Below w0.heap.size w0 w6) := grown_belowR HB.out hg6 Hzw.out HB.out.size; clear hm6 hg6)
      go_roundw
      case rel => exact ⟨k + 1, by go_num, by omega, HK6, HS6, HB6⟩
      case measure => simp [intOf]; omega
    · have e : N = k := by omega
      subst e
      have HG0 : Hid (Gp M N R W zeroS zeroS (fun x => decide (0 ≤ x ∧ x < (N : Int))) noF 0 (lowS zeroS N)) := ⟨Wk.zero (fun j hj => (by unfold orB; simp; omega)), (fun x hx => (by
        rcases hx with hx | hx
        · simpa using hx
        · cases hx)), (by omega)⟩
      generalize (fun x : Int => decide (0 ≤ x ∧ x < (N : Int))) = f0 at *
      go_wp2
      go_loopg [2] (grN zeroS N N) (fun gn v wr => ∃ (b n : Nat) (F G : Int → Nat) (f : Int → Bool), v = .map (some b) ∧ Hid (Mks wr b n f) ∧ Hid (SetsAt wr P A c N gr gw gi go R W F G) ∧ Hid (Gp M N R W F G f noF 0 (lowS G N)) ∧ Hid (Below w0.heap.size w0 wr) ∧ Hid (w0.heap.size ≤ b) ∧ Hid (gn = grN G N n))
      case atStart => exact ⟨b0, N, zeroS, zeroS, f0, rfl, HK, HS, HG0, HB, Hzw, rfl⟩
      case round =>
        clear HK HS HG0 HB
        obtain ⟨b, n, F, G, f, rfl, HK, HS, HG, HB, Hb, Hn⟩ := hrel
        have C := CT b n F G f wr HS.out HK.out HG.out HB.out Hb.out
        go_wp2_with (first
          | (at_len; refine wpList_mks_len _ rfl _ rfl b n f HK.out rfl ?_; intro z hz1 hz2; have HZ1 : Hid (z ≤ n) := hz1; have HZ2 : Hid (z = 0 → ∀ x, f x = false) := hz2; clear hz1 hz2)
          | (go_at_call 78; refine C.mono ?_; rintro e w6 ⟨b6, n6, F6, G6, f6, rfl, hk6, hs6, hg6, hb6, hl6⟩; have HK6 : Hid (Mks w6 b6 n6 f6) := hk6; have HS6 : Hid (SetsAt w6 P A c N gr gw gi go R W F6 G6) := hs6; have HG6 : Hid (Gp M N R W F6 G6 f6 noF n6 (lowS G N)) := hg6; have HB6 : Hid (Below w0.heap.size w0 w6) := hb6; have Hl6 : Hid (w0.heap.size ≤ b6) := hl6; clear hk6 hs6 hg6 hb6 hl6))
        · rename_i h0
          go_roundg (grN G6 N n6)
          case measure =>
            rw [Hn.out]
            have := HG6.out.low
            have := HZ1.out
            unfold grN
            omega
          case rel => exact ⟨b6, n6, F6, G6, f6, rfl, HK6, HS6, HG6.out.again, HB6, Hl6, rfl⟩
        · rename_i h0
          refine bodyPost_end (v := .tuple #[]) (by simp [results, Tryz.results51, go_sem]) rfl ⟨F, G, rfl, HS.out, HG.out.end HI.out (HZ2.out (by omega)), fun x => (HG.out.lt x).2, HB.out⟩

end Go.Proofs.YtfnicgihpelhhaaGreat

namespace Go.Proofs.YtfnicgihpelhhaaGreat
open Go.RowKit

/-- One list is another one now. -/
theorem RowsZ.put {w : World} {base g n c : Nat} {vs : List Value} {M : List (List Int)} (h : RowsZ w base (.slice (some ⟨g, 0, none⟩) n c) vs M) (hn : M.length = n) {i : Nat} (hi : i < n) {v : Value} {l : List Int} (hv : w.ownsRow base 3 1 v l.length (iVals .i64 l)) :
    RowsZ (w.setCell ⟨g, i, none⟩ v) base (.slice (some ⟨g, 0, none⟩) n c) (vs.set i v) (M.set i l) := by
  have hlen := h.len
  obtain ⟨hb1, hb2⟩ := h.bag
  rcases hb2 with ⟨e, h0⟩ | ⟨g', cap, cur, e, hb, hg, hc, hm, hs, ht⟩
  · cases e
  · cases e
    refine ⟨⟨by rw [List.length_set, List.length_set]; omega, .inr ⟨g, c, cur.setIfInBounds i v, by rw [List.length_set, hn], hb, box_set hg _ _, by rw [List.length_set]; omega, hm, by simpa using hs, ?_⟩⟩, fun t ht => ?_⟩
    · rw [List.length_set, ← ht]
      apply List.ext_getElem?
      intro t
      simp only [Array.toList_setIfInBounds, List.getElem?_take, List.getElem?_set, List.length_take]
      by_cases e1 : t < M.length * 1
      · by_cases e2 : i = t
        · subst e2
          simp only [if_pos e1, if_true]
          rw [if_pos (by simp; omega), if_pos (by simp; omega)]
        · simp only [if_pos e1, if_neg e2]
      · simp only [if_neg e1]
        by_cases e2 : i = t
        · rw [if_pos e2, if_neg (by simp; omega)]
        · rw [if_neg e2]
    · rw [List.length_set] at ht
      rw [vn_set (by omega), rowZ_setL (by omega)]
      by_cases e2 : i = t
      · rw [if_pos e2, if_pos e2]
        exact ownsRow_setCell_other hv (blk_off hv hg (by decide)) _
      · rw [if_neg e2, if_neg e2]
        have h1 := h.row t ht
        exact ownsRow_setCell_other h1 (blk_off h1 hg (by decide)) _
theorem RowsZ.box {w : World} {base g n c : Nat} {vs : List Value} {M : List (List Int)} (h : RowsZ w base (.slice (some ⟨g, 0, none⟩) n c) vs M) (hn : M.length = n) : base ≤ g ∧ ∀ i, i < n → w.cell? ⟨g, i, none⟩ = some (vn vs i) ∧ w.frozen? ⟨g, i, none⟩ = false := by
  have hlen := h.len
  have hcells := h.bag.cells rfl
  rcases h.bag.2 with ⟨e, h0⟩ | ⟨g', cap, cur, e, hb, hg, hc, hm, hs, ht⟩
  · cases e
  · cases e
    refine ⟨hb, fun i hi => ⟨?_, box_fro hg i⟩⟩
    have := hcells i (vn vs i) (by unfold vn; rw [List.getD_eq_getElem?_getD, List.getElem?_eq_getElem (by omega)]; rfl)
    rwa [add0] at this
theorem below_putZ {w w2 : World} {B g i : Nat} {v : Value} (hb : Below B w2 w) (hg : B ≤ g) : Below B w2 (w.setCell ⟨g, i, none⟩ v) := hb.setCell hg _
section
variable {text T : List Int} {ent : Int}
theorem rowZ_left {L : List (List Int)} {l : List Int} {k : Nat} (h : k < L.length) : rowZ (L ++ [l]) k = rowZ L k := by
  unfold rowZ
  rw [List.getD_eq_getElem?_getD, List.getD_eq_getElem?_getD, List.getElem?_append_left h]
theorem rowZ_last {L : List (List Int)} {l : List Int} : rowZ (L ++ [l]) L.length = l := by simp [rowZ]
theorem FlJ.start0 (h0 : ¬ 0 < (lpL text ent).length) : FlJ text ent T (edgT T ent (blkL text ent).length ++ [[]]) 0 := by
  have hl : (edgT T ent (blkL text ent).length).length = (blkL text ent).length := edgT_len _ _ _
  refine ⟨by simp [hl], fun k hk _ => rowZ_left (by omega), fun t ht => by omega, ?_⟩
  rw [if_neg h0]
  have := rowZ_last (L := edgT T ent (blkL text ent).length) (l := [])
  rwa [hl] at this
theorem FlJ.start1 (h0 : 0 < (lpL text ent).length) : FlJ text ent T ((edgT T ent (blkL text ent).length ++ [[]]).set (blkL text ent).length (rowZ (edgT T ent (blkL text ent).length) (nth (lpL text ent) 0).toNat)) 0 := by
  have hl : (edgT T ent (blkL text ent).length).length = (blkL text ent).length := edgT_len _ _ _
  refine ⟨by simp [hl], fun k hk _ => ?_, fun t ht => by omega, ?_⟩
  · rw [rowZ_setL (by simp [hl]; omega), if_neg (by omega)]
    exact rowZ_left (by omega)
  · rw [rowZ_setL (by simp [hl]), if_pos rfl, if_pos h0]
theorem FlJ.none {M : List (List Int)} (h : FlJ text ent T M (lpL text ent).length) (hx : ¬ ∃ k, k < (blkL text ent).length ∧ lpB text ent k = true) : rowZ M (blkL text ent).length = [] := by
  rw [h.hub, if_neg]
  intro h0
  obtain ⟨k, hk, _, hl⟩ := lp_at h0
  exact hx ⟨k, hk, hl⟩
end
/-- What flow answers. -/
def LfP (text : List Int) (ent : Int) (w : World) (e : Ending) (w' : World) : Prop := ∃ (A : Option Addr) (c : Nat) (M : List (List Int)), e = .returned (.slice A M.length c) ∧ IntsZ w' A M ∧ Hub (edgT text ent (blkL text ent).length) M (blkL text ent).length (lpB text ent) ∧ (∀ k, k < M.length → (rowZ M k).length ≤ 65536) ∧ Below w.heap.size w w'
theorem LfP.mk {text T : List Int} {ent : Int} {w w' : World} {base c jj : Nat} {A : Option Addr} {vs : List Value} {M : List (List Int)} (hl : (blkL text ent).length ≤ 16384) (hz : RowsZ w' base (.slice A ((blkL text ent).length + 1) c) vs M) (hf : FlJ text ent T M (lpL text ent).length) (hT : OneJ text ent T jj) (hb : Below w.heap.size w w') : LfP text ent w (.returned (.slice A ((blkL text ent).length + 1) c)) w' := by
  have hh := hf.is hT
  refine ⟨A, c, M, by rw [hf.len], hz.ints, hh, fun k hk => ?_, hb⟩
  have := hh.rowlen hf.none k (by rw [← hf.len]; exact hk)
  omega
theorem infoZ : ∃ i, Tryz.prog.info? 72 = some i ∧ i.zero = some (.slice none 0 0) ∧ i.size = 1 ∧ i.bytes = 24 :=
  ⟨(Tryz.prog.info? 72).get (by kernel_rfl), by kernel_rfl, by kernel_rfl, by kernel_rfl, by kernel_rfl⟩

end Go.Proofs.YtfnicgihpelhhaaGreat

namespace Go.Proofs.YtfnicgihpelhhaaGreat
open Go.RowKit

/-- A row of bools, to be read. -/
def BolsAt (w : World) (A : Option Addr) (n : Nat) (F : Int → Bool) : Prop := ∀ i : Nat, i < n → ∃ a : Addr, A = some a ∧ w.cell? (a.add i) = some (.bool (F (i : Int)))
theorem BolsAt.keep {w w1 : World} {A : Option Addr} {n : Nat} {F : Int → Bool} (h : BolsAt w A n F) (hb : Below w.heap.size w w1) : BolsAt w1 A n F := fun i hi => by
  obtain ⟨a, e, c⟩ := h i hi
  exact ⟨a, e, lkeep hb c⟩
theorem BlsAt.bols {w : World} {g n : Nat} {F : Int → Bool} (h : BlsAt w g n F) : BolsAt w (some ⟨g, 0, none⟩) n F := fun i hi => ⟨_, rfl, by rw [add0]; exact h.cellN hi⟩

end Go.Proofs.YtfnicgihpelhhaaGreat

namespace Go.Proofs.YtfnicgihpelhhaaGreat
open Go.RowKit

/-- Lists beside a code. -/
def ZE (E : Int) (L : List (List Int)) (w : World) (e : Ending) (w' : World) : Prop := ∃ (A : Option Addr) (c : Nat), e = .returned (.tuple #[.slice A L.length c, .int .i64 E]) ∧ IntsZ w' A L ∧ Below w.heap.size w w'
def ZR (L : List (List Int)) (w : World) (e : Ending) (w' : World) : Prop := ∃ (A : Option Addr) (c : Nat), e = .returned (.slice A L.length c) ∧ IntsZ w' A L ∧ Below w.heap.size w w'
def BE (E : Int) (n : Nat) (F : Int → Bool) (w : World) (e : Ending) (w' : World) : Prop := ∃ (A : Option Addr) (c : Nat), e = .returned (.tuple #[.slice A n c, .int .i64 E]) ∧ BolsAt w' A n F ∧ Below w.heap.size w w'
def outE (text : List Int) (ml : Nat) (ent : Int) : List (List Int) := if (checkI text ml ent).1 = 0 then edgT text ent (blkL text ent).length else []
def outN (text : List Int) (ml : Nat) (ent : Int) : Nat := if (checkI text ml ent).1 = 0 then (blkL text ent).length else 0
noncomputable def outR (text : List Int) (ent : Int) : Int → Bool := rchF (edgT text ent (blkL text ent).length) (ofB (blkL text ent) ent)
def EdgesOK : Prop := ∀ (A1 A2 : Option Addr) (c1 ml c2 : Nat) (ent : Int) (text : List Int) (w : World), IntsAt w A1 .u32 text → (∀ i, i < text.length → 0 ≤ nth text i ∧ nth text i < 4294967296) → text.length ≤ 1048576 → ml ≤ 1048576 →
  Calls Tryz.prog 75 #[.agg #[.slice A1 text.length c1, .int .i64 ent, .slice A2 ml c2]] w (ZE (checkI text ml ent).1 (outE text ml ent) w)
def BackOK : Prop := ∀ (A : Option Addr) (ca : Nat) (L : List (List Int)) (w : World), IntsZ w A L → L.length ≤ 65536 → (∀ i, i < L.length → (rowZ L i).length ≤ 65536) →
  Calls Tryz.prog 48 #[.slice A L.length ca] w (ZR (backT L L.length) w)
theorem ZP.lists {L : List (List Int)} {w w' : World} {e : Ending} (h : ZP L w e w') : ZR L w e w' := by
  obtain ⟨A, c, vs, he, hz, hb⟩ := h
  exact ⟨A, c, he, hz.ints, hb⟩



end Go.Proofs.YtfnicgihpelhhaaGreat
