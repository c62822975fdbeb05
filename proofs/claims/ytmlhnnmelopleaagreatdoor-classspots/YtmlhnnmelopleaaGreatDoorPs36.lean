/-
  grow of package live: from the empty sets to the least ones. The document marks labels. What Places and Blocks of the document answer. Blocks of the document, by what it answers, of an image that may be.
-/
import Derived.Test.YtmlhnnmelopleaaGreatDoorProg
import Derived.WalkKit
import Derived.WalkSpells
import Derived.WalkLawsBesides
import Derived.RowKit3
import Derived.Below
import Derived.Deep.QuietTactic
import Derived.BigQuiet
import Derived.WalkSmall
import Derived.Laws.Rows
import Derived.Deep.LoopGhost
import Derived.Test.YtmlhnnmelopleaaGreatDoorPs35
import Derived.Test.YtmlhnnmelopleaaGreatDoorPs11
import Derived.Test.YtmlhnnmelopleaaGreatDoorPs20
import Derived.Test.YtmlhnnmelopleaaGreatDoorPs23
import Derived.Test.YtmlhnnmelopleaaGreatDoorPs04
namespace Go.Proofs.YtmlhnnmelopleaaGreatDoor
open Go.RowKit

theorem wpList_mks_len (w : World) {ops : Array Oper} {rest : List Oper} {o : Oper} {a : Act} {Q : Exit → Act → World → Prop} (hg : o.guard = none) (m : Operand) (hop : o.op = Op.call { callee := Callee.builtin Builtin.len, args := #[m], argTypes := #[158] })
    (b n : Nat) (f : Int → Bool) (hk : Mks w b n f) (hm : a.eval m = .map (some b))
    (hK : ∀ z : Nat, z ≤ n → (z = 0 → ∀ x, f x = false) → wpList Tryz.prog ops Q rest (a.put o.dst (.int .i64 (z : Int))) w) : wpList Tryz.prog ops Q (o :: rest) a w := by
  obtain ⟨D, h, h3⟩ := hk
  refine wpList_plain hg fun K' hK' => ?_
  have hrun := h.len mapW o.type
  unfold Oper.wp
  simp [execOp, hop, resolve, invoke, builtin, hm, hrun, Result.andThen]
  exact hK' _ _ (hK _ h.size_le fun hz x => by rw [← h3]; exact size_none h hz x)
/-- How many rounds at most are left. -/
def grN (G : Int → Nat) (N n : Nat) : Nat := 2 * lowS G N + min n 1
def GrP (w0 : World) (M : List (List Int)) (P : Nat) (A : Option Addr) (c N gr gw gi go : Nat) (R W : Int → Nat) (e : Ending) (w' : World) : Prop := ∃ (F G : Int → Nat), e = .returned (.tuple #[]) ∧ SetsAt w' P A c N gr gw gi go R W F G ∧ Lst M (fun j => R (j : Int)) (fun j => W (j : Int)) N F G ∧ (∀ x, G x < 65536) ∧ Below w0.heap.size w0 w'
theorem Gp.again {M : List (List Int)} {N : Nat} {R W F G : Int → Nat} {f : Int → Bool} {na L0 : Nat} (h : Gp M N R W F G f noF na L0) : Gp M N R W F G f noF 0 (lowS G N) := ⟨h.wk, h.inb, by omega⟩
theorem Gp.end {M : List (List Int)} {N : Nat} {R W F G : Int → Nat} {f : Int → Bool} {na L0 : Nat} (h : Gp M N R W F G f noF na L0) (hI : Inn M N) (hf : ∀ x, f x = false) : Lst M (fun j => R (j : Int)) (fun j => W (j : Int)) N F G := h.wk.lst hI fun k _ => by
  unfold orB
  rw [hf]; rfl
set_option maxRecDepth 100000 in
set_option maxHeartbeats 8000000 in
theorem grow_any (w0 : World) (M : List (List Int)) (P : Nat) (A : Option Addr) (c N gr gw gi go : Nat) (R W : Int → Nat) (w : World) (hZ : IntsZ w0 A (backT M N)) (hMl : M.length = N) (hI : Inn M N) (hN : N ≤ 1048576) (hS : SetsAt w P A c N gr gw gi go R W zeroS zeroS) (hB : Below w0.heap.size w0 w) (hR : ∀ x, R x < 65536) (hW : ∀ x, W x < 65536) (hi : w0.heap.size ≤ gi ∧ w0.heap.size ≤ go) :
    Calls Tryz.prog 102 #[.pointer (some ⟨P, 0, none⟩)] w (GrP w0 M P A c N gr gw gi go R W) := by
  have hmm := mkW
  obtain ⟨X, HX⟩ : ∃ X, Hid (w.alloc (.map #[] 0) = X) := ⟨_, rfl⟩
  have HBX : Hid (Below w.heap.size w X) := by unfold Hid; rw [← HX.out]; exact lb_alloc (Below.refl _ _) _
  have HKX : Hid (Mks X w.heap.size 0 noF) := by unfold Hid; rw [← HX.out]; exact Mks.made w
  have HSX : Hid (SetsAt X P A c N gr gw gi go R W zeroS zeroS) := hS.keep HBX.out
  have HBl : Hid (Below w0.heap.size w0 X) := lb_trans hB HBX.out
  have Hzw : Hid (w0.heap.size ≤ w.heap.size) := hB.size
  have CT := fun (b n : Nat) (F G : Int → Nat) (f : Int → Bool) (wx : World) (h1 : SetsAt wx P A c N gr gw gi go R W F G) (h2 : Mks wx b n f) (h3 : Gp M N R W F G f noF 0 (lowS G N)) (h4 : Below w0.heap.size w0 wx) (h5 : w0.heap.size ≤ b) => through_any w0 M P A c N gr gw gi go b n R W F G f wx hZ hMl hN h1 h2 h3 h4 hR hW ⟨hi.1, hi.2, h5⟩
  have HI : Hid (Inn M N) := hI
  clear hZ hMl hI hS hB hR hW hi
  go_enter Tryz.func102, Tryz.ntmps102
  go_upto_region 1 with fail
  rw [HX.out]
  clear HX
  have p4 := HSX.out.cells.2.2.2.2
  go_upto_region 2 with fail
  generalize w.heap.size = b0 at *
  go_loopw [10] (fun i wr => ∃ k : Nat, i = .int .i64 k ∧ k ≤ N ∧ Hid (Mks wr b0 k (fun x => decide (0 ≤ x ∧ x < (k : Int)))) ∧ Hid (SetsAt wr P A c N gr gw gi go R W zeroS zeroS) ∧ Hid (Below w0.heap.size w0 wr)) (fun i _ => N - (intOf i).toNat)
  case atStart =>
    refine ⟨0, rfl, Nat.zero_le _, HKX.out.fit fun x => ?_, HSX, HBl⟩
    unfold noF
    symm
    rw [decide_eq_false_iff_not]
    omega
  case round =>
    clear HKX HSX HBl p4
    obtain ⟨k, rfl, hk, HK, HS, HB⟩ := hrel
    by_cases hlt : k < N
    · have hlt' : (k : Int) < (N : Int) := by omega
      have C1 := wput_any b0 k _ (k : Int) wr HK.out (by omega) (by omega) (by omega)
      go_wp2_with (go_at_call 108; refine C1.mono ?_; rintro e w6 ⟨rfl, hm6, hg6⟩; have HK6 : Hid (Mks w6 b0 (k + 1) (fun x => decide (0 ≤ x ∧ x < ((k + 1 : Nat) : Int)))) := hm6.fit (fun x => by unfold setF; rw [Bool.eq_iff_iff]; simp; omega); have HS6 : Hid (SetsAt w6 P A c N gr gw gi go R W zeroS zeroS) := HS.out.kept hg6 HK.out.obj; have HB6 : Hid (Below w0.heap.size w0 w6) := grown_belowR HB.out hg6 Hzw.out HB.out.size; clear hm6 hg6)
      go_roundw
      case rel => exact ⟨k + 1, by go_num, by omega, HK6, HS6, HB6⟩
      case measure => simp [intOf]; omega
    · have e : N = k := by omega
      subst e
      have HG0 : Hid (Gp M N R W zeroS zeroS (fun x => decide (0 ≤ x ∧ x < (N : Int))) noF 0 (lowS zeroS N)) := ⟨Wk.zero (fun j hj => (by unfold orB; simp; omega)), (fun x hx => (by
        rcases hx with hx | hx
        · simpa using hx
        · cases hx)), (by omega)⟩
      generalize (fun x : Int => decide (0 ≤ x ∧ x < (N : Int))) = f0 at *
      go_wp2
      go_loopg [2] (grN zeroS N N) (fun gn v wr => ∃ (b n : Nat) (F G : Int → Nat) (f : Int → Bool), v = .map (some b) ∧ Hid (Mks wr b n f) ∧ Hid (SetsAt wr P A c N gr gw gi go R W F G) ∧ Hid (Gp M N R W F G f noF 0 (lowS G N)) ∧ Hid (Below w0.heap.size w0 wr) ∧ Hid (w0.heap.size ≤ b) ∧ Hid (gn = grN G N n))
      case atStart => exact ⟨b0, N, zeroS, zeroS, f0, rfl, HK, HS, HG0, HB, Hzw, rfl⟩
      case round =>
        clear HK HS HG0 HB
        obtain ⟨b, n, F, G, f, rfl, HK, HS, HG, HB, Hb, Hn⟩ := hrel
        have C := CT b n F G f wr HS.out HK.out HG.out HB.out Hb.out
        go_wp2_with (first
          | (at_len; refine wpList_mks_len _ rfl _ rfl b n f HK.out rfl ?_; intro z hz1 hz2; have HZ1 : Hid (z ≤ n) := hz1; have HZ2 : Hid (z = 0 → ∀ x, f x = false) := hz2; clear hz1 hz2)
          | (go_at_call 109; refine C.mono ?_; rintro e w6 ⟨b6, n6, F6, G6, f6, rfl, hk6, hs6, hg6, hb6, hl6⟩; have HK6 : Hid (Mks w6 b6 n6 f6) := hk6; have HS6 : Hid (SetsAt w6 P A c N gr gw gi go R W F6 G6) := hs6; have HG6 : Hid (Gp M N R W F6 G6 f6 noF n6 (lowS G N)) := hg6; have HB6 : Hid (Below w0.heap.size w0 w6) := hb6; have Hl6 : Hid (w0.heap.size ≤ b6) := hl6; clear hk6 hs6 hg6 hb6 hl6))
        · rename_i h0
          go_roundg (grN G6 N n6)
          case measure =>
            rw [Hn.out]
            have := HG6.out.low
            have := HZ1.out
            unfold grN
            omega
          case rel => exact ⟨b6, n6, F6, G6, f6, rfl, HK6, HS6, HG6.out.again, HB6, Hl6, rfl⟩
        · rename_i h0
          refine bodyPost_end (v := .tuple #[]) (by simp [results, Tryz.results102, go_sem]) rfl ⟨F, G, rfl, HS.out, HG.out.end HI.out (HZ2.out (by omega)), fun x => (HG.out.lt x).2, HB.out⟩


end Go.Proofs.YtmlhnnmelopleaaGreatDoor

namespace Go.Proofs.YtmlhnnmelopleaaGreatDoor
open Go.RowKit

theorem fieldIns0R (a b c d e : Value) (w : World) : (Instr.field 67 (.agg #[a, b, c, d, e]) 0).run Tryz.prog w = .ok a w := by kernel_rfl

set_option maxRecDepth 100000 in
set_option maxHeartbeats 4000000 in
theorem refmark0_any (A1 A2 : Option Addr) (c1 ml c2 : Nat) (ent : Int) (text : List Int) (w : World) (hT : IntsAt w A1 .u32 text) (hR : ∀ i, i < text.length → 0 ≤ nth text i ∧ nth text i < 4294967296) (hM : MayI text ml ent) :
    Calls Tryz.prog 59 #[.agg #[.slice A1 text.length c1, .int .i64 ent, .slice A2 ml c2], .int .i64 0] w (MarkP text.length (labF text ent) w) := by
  have hfl := fieldIns0R
  have hl : text.length ≤ 16384 := hM.past.len
  have he0 := hM.past.ent0
  have he1 := hM.past.ent1
  have hmk := make_bls text.length (by omega)
  obtain ⟨W, HW⟩ : ∃ W, Hid ((w.alloc (.cells #[.slice A1 text.length c1, .int .i64 ent, .slice A2 ml c2] 31)).alloc (.cells (madeCells #[.bool false] text.length) 4) = W) := ⟨_, rfl⟩
  have HB : Hid (Below w.heap.size w W) := by unfold Hid; rw [← HW.out]; exact lb_alloc (lb_alloc (Below.refl _ _) _) _
  have HS : Hid (BlsAt W (w.heap.size + 1) text.length noF) := by
    have := BlsAt.made (w.alloc (.cells #[.slice A1 text.length c1, .int .i64 ent, .slice A2 ml c2] 31)) text.length
    rw [HW.out] at this
    simpa [Hid] using this
  have i0 : W.cell? ⟨w.heap.size, 0, none⟩ = some (.slice A1 text.length c1) := by rw [← HW.out]; simp [go_sem]
  have i1 : W.cell? ⟨w.heap.size, 1, none⟩ = some (.int .i64 ent) := by rw [← HW.out]; simp [go_sem]
  have hZ : w.heap.size + 1 < W.heap.size := by rw [← HW.out]; simp
  have HT : Hid (IntsAt w A1 .u32 text) := hT
  have HM : Hid (MayI text ml ent) := hM
  have HR : Hid _ := hR
  clear hT hR hM
  go_enter Tryz.func59, Tryz.ntmps59
  go_upto_region 2 with fail
  rw [HW.out]
  clear HW hmk
  go_wp2
  go_loopw [6] (fun i wr => ∃ k : Nat, i = .int .i64 k ∧ k ≤ text.length ∧ Hid (BlsAt wr (w.heap.size + 1) text.length (addK noF (gLab text) k)) ∧ Hid (W.grownBy wr (some (w.heap.size + 1)))) (fun i _ => text.length - (intOf i).toNat)
  case atStart => exact ⟨0, rfl, Nat.zero_le _, HS.out.fit fun y => (addK_zero _ _ y).symm, World.grownBy.refl _ _⟩
  case round =>
    clear HS
    obtain ⟨k, rfl, hk, HS, HG⟩ := hrel
    have j0 := cell_other HG.out i0 (show w.heap.size ≠ w.heap.size + 1 by omega)
    have j1 := cell_other HG.out i1 (show w.heap.size ≠ w.heap.size + 1 by omega)
    have HBr : Hid (Below w.heap.size w wr) := grown_belowR HB.out HG.out (by omega) HB.out.size
    by_cases hlt : k < text.length
    · obtain ⟨a, rfl, q⟩ := (HT.out.keep HBr.out) k hlt
      obtain ⟨hv0, hv1⟩ := HR.out k hlt
      have C1 := refdecode_any (nth text k) hv0 hv1 wr
      have C2 := fun wx => reftarget_any (nth text k) hv0 hv1 wx

      have HY : Hid (isT (nth text k) = true → gLab text k = some (tgV (nth text k)) ∧ 0 ≤ tgV (nth text k) ∧ tgV (nth text k) < (text.length : Int)) := fun h => ⟨gLab_yes h, (tg_pos h).1, far_in (HM.out.far k hlt) h⟩
      have HN : Hid (isT (nth text k) = false → gLab text k = none) := gLab_no
      generalize nth text k = v at *
      generalize isT v = t at *
      generalize tgV v = z at *
      generalize dOp v = x at *
      generalize dD v = x1 at *
      generalize dA v = x2 at *
      generalize dB v = x3 at *
      generalize dN v = x4 at *
      cases t with
      | false =>
        have HG0 : Hid (gLab text k = none) := HN.out rfl
        clear HY HN
        go_wp2_with (first
          | (go_at_call 31; refine C1.mono ?_; rintro e w2 ⟨rfl, hb2⟩; have m0 := lkeep hb2 j0; have m1 := lkeep hb2 q)
          | (go_at_call 32; refine (C2 _).mono ?_; rintro e w3 ⟨rfl, hb3⟩))
        go_roundw
        case rel => exact ⟨k + 1, by go_num, by omega, ((HS.out.keep hb2).keep hb3).fit (addK_none HG0.out), grown_on (grown_on HG.out hb2) hb3⟩
        case measure => simp [intOf]; omega
      | true =>
        obtain ⟨hg, hz0, hz1⟩ := HY.out rfl
        have HG0 : Hid (gLab text k = some z) := hg
        clear HY HN hg
        go_wp2_with (first
          | (go_at_call 31; refine C1.mono ?_; rintro e w2 ⟨rfl, hb2⟩; have m0 := lkeep hb2 j0; have m1 := lkeep hb2 q)
          | (go_at_call 32; refine (C2 _).mono ?_; rintro e w3 ⟨rfl, hb3⟩; have HS3 : Hid (BlsAt w3 (w.heap.size + 1) text.length (addK noF (gLab text) k)) := (HS.out.keep hb2).keep hb3; have s0 := HS3.out.cell hz0 hz1; have s1 := HS3.out.fro z.toNat))
        go_roundw
        case rel => exact ⟨k + 1, by go_num, by omega, (HS3.out.set hz0 hz1).fit (addK_some HG0.out), (grown_on (grown_on HG.out hb2) hb3).trans (gset11 _ _ _ _)⟩
        case measure => simp [intOf]; omega
    · obtain rfl : k = text.length := by omega
      have s0 := HS.out.cell he0 he1
      have s1 := HS.out.fro ent.toNat
      go_wp2
      go_ret
      exact ⟨w.heap.size + 1, rfl, (HS.out.set he0 he1).fit (lab_set text ent), HBr.out.setCell (by simp) _⟩




end Go.Proofs.YtmlhnnmelopleaaGreatDoor

namespace Go.Proofs.YtmlhnnmelopleaaGreatDoor
open Go.RowKit

def PlcP (ps : List Int) (w : World) (e : Ending) (w' : World) : Prop := ∃ (A : Option Addr) (c : Nat), e = .returned (.slice A ps.length c) ∧ IntsAt w' A .i64 ps ∧ Below w.heap.size w w'
def RelP (l : List Rel) (w : World) (e : Ending) (w' : World) : Prop := ∃ (A : Option Addr) (c : Nat), e = .returned (.slice A l.length c) ∧ RelsAt w' A l ∧ Below w.heap.size w w'
theorem BlsAt.kept {w w1 : World} {g n : Nat} {F : Int → Bool} {base : Nat} {e : TypeId} {sz : Nat} {v : Value} {m : Nat} {xs : List Value} (h : BlsAt w g n F) (hr : w.ownsRow base e sz v m xs) (he : e ≠ 4) (hg : w.grownBy w1 v.ownBlock) : BlsAt w1 g n F := by
  obtain ⟨cs, h1, h2⟩ := h
  refine ⟨cs, ?_, h2⟩
  rw [hg.block g (Array.getElem?_eq_some_iff.1 h1).1 ?_]
  · exact h1
  · rcases hr.2 with ⟨rfl, _⟩ | ⟨g2, cap, cur, rfl, _, hg2, _⟩
    · intro e; cases e
    · intro e
      cases e
      rw [h1] at hg2
      injection hg2 with hg2
      injection hg2 with a b
      exact he b.symm




end Go.Proofs.YtmlhnnmelopleaaGreatDoor

namespace Go.Proofs.YtmlhnnmelopleaaGreatDoor
open Go.RowKit

theorem zip_more {f : Int → Bool} {k : Nat} {L : List Rel} {fr : Int} (h0 : f 0 = true) (h : ∀ x, L ++ [(fr, x)] = zipN (plcT f (k + 1)) x) (hf : f ((k : Int) + 1) = true) (x : Int) : (L ++ [(fr, (k : Int) + 1)]) ++ [((k : Int) + 1, x)] = zipN (plcT f (k + 1 + 1)) x := by
  have hn : plcT f (k + 1) ≠ [] := fun e => by
    have := (plc_first (f := f) (n := k + 1) (by omega) h0).1
    rw [e] at this
    simp at this
  rw [h, plcT_yes (k := k + 1) (by rw [← hf]; rfl), show (((k + 1 : Nat)) : Int) = (k : Int) + 1 by omega, zipN_snoc _ _ _ hn]
theorem zip_same {f : Int → Bool} {k : Nat} {L : List Rel} {fr : Int} (h : ∀ x, L ++ [(fr, x)] = zipN (plcT f (k + 1)) x) (hf : f ((k : Int) + 1) = false) (x : Int) : L ++ [(fr, x)] = zipN (plcT f (k + 1 + 1)) x := by
  rw [h, plcT_no (k := k + 1) (by rw [← hf]; rfl)]
/-- How far the document has come. -/
def Come (text : List Int) (ent : Int) (L : List Rel) (fr : Int) (k : Nat) : Prop := (k < text.length ∧ ∀ x, L ++ [(fr, x)] = zipN (plcT (begF text ent) (k + 1)) x) ∨ (k = text.length ∧ L = blkL text ent)
theorem come_zero (text : List Int) (ent : Int) (h : 0 < text.length) : Come text ent [] 0 0 := .inl ⟨h, fun x => by rw [plcT_yes (k := 0) (beg_zero text ent)]; rfl⟩
theorem come_len {text : List Int} {ent : Int} {L : List Rel} {fr : Int} {k : Nat} (h : Come text ent L fr k) (hk : k < text.length) : L.length ≤ k := by
  rcases h with ⟨_, h⟩ | ⟨h, _⟩
  · have e := congrArg List.length (h 0)
    rw [zipN_len] at e
    have := plcT_len (begF text ent) (k + 1)
    simp at e
    omega
  · omega
theorem come_end {text : List Int} {ent : Int} {L : List Rel} {fr : Int} {k : Nat} (h : Come text ent L fr k) (hk : k + 1 = text.length) : Come text ent (L ++ [(fr, (k : Int) + 1)]) ((k : Int) + 1) (k + 1) := by
  rcases h with ⟨_, h⟩ | ⟨h, _⟩
  · refine .inr ⟨hk, ?_⟩
    rw [h]
    unfold blkL
    rw [← hk, show (((k + 1 : Nat)) : Int) = (k : Int) + 1 by omega]
  · omega
theorem come_more {text : List Int} {ent : Int} {L : List Rel} {fr : Int} {k : Nat} (h : Come text ent L fr k) (hk : k + 1 < text.length) (hf : begF text ent ((k : Int) + 1) = true) : Come text ent (L ++ [(fr, (k : Int) + 1)]) ((k : Int) + 1) (k + 1) := by
  rcases h with ⟨_, h⟩ | ⟨h, _⟩
  · exact .inl ⟨hk, zip_more (beg_zero text ent) h hf⟩
  · omega
theorem come_same {text : List Int} {ent : Int} {L : List Rel} {fr : Int} {k : Nat} (h : Come text ent L fr k) (hk : k + 1 < text.length) (hf : begF text ent ((k : Int) + 1) = false) : Come text ent L fr (k + 1) := by
  rcases h with ⟨_, h⟩ | ⟨h, _⟩
  · exact .inl ⟨hk, zip_same h hf⟩
  · omega
set_option maxRecDepth 100000 in
set_option maxHeartbeats 4000000 in
theorem refblocks_any (A1 A2 : Option Addr) (c1 ml c2 : Nat) (ent : Int) (text : List Int) (w : World) (hT : IntsAt w A1 .u32 text) (hR : ∀ i, i < text.length → 0 ≤ nth text i ∧ nth text i < 4294967296) (hM : MayI text ml ent) :
    Calls Tryz.prog 37 #[.agg #[.slice A1 text.length c1, .int .i64 ent, .slice A2 ml c2]] w (RelP (blkL text ent) w) := by
  obtain ⟨iB, hi, hz0, hz1, hz2⟩ := infoB
  have hl : text.length ≤ 16384 := hM.past.len
  have hpos : 0 < text.length := hM.past.pos
  obtain ⟨W, HW⟩ : ∃ W, Hid (w.alloc (.cells #[.slice A1 text.length c1, .int .i64 ent, .slice A2 ml c2] 31) = W) := ⟨_, rfl⟩
  have HB : Hid (Below w.heap.size w W) := by unfold Hid; rw [← HW.out]; exact lb_alloc (Below.refl _ _) _
  have i0 : W.cell? ⟨w.heap.size, 0, none⟩ = some (.slice A1 text.length c1) := by rw [← HW.out]; simp [go_sem]
  have i1 : W.cell? ⟨w.heap.size, 1, none⟩ = some (.int .i64 ent) := by rw [← HW.out]; simp [go_sem]
  have i2 : W.cell? ⟨w.heap.size, 2, none⟩ = some (.slice A2 ml c2) := by rw [← HW.out]; simp [go_sem]
  have hZ : w.heap.size < W.heap.size := by rw [← HW.out]; simp
  have C := refmark0_any A1 A2 c1 ml c2 ent text W (hT.keep HB.out) hR hM
  have HT : Hid (IntsAt w A1 .u32 text) := hT
  have HR : Hid _ := hR
  clear hT hR hM
  go_enter Tryz.func37, Tryz.ntmps37
  go_upto_region 2 with fail
  rw [HW.out]
  clear HW
  go_wp2_with fail
  refine C.mono ?_
  rintro e w1 ⟨g, rfl, hbls, hb1⟩
  have HB1 : Hid (Below w.heap.size w w1) := lb_trans HB.out hb1
  have HS1 : Hid (BlsAt w1 g text.length (labF text ent)) := hbls
  have HX1 : Hid (w1.cell? ⟨w.heap.size, 0, none⟩ = some (.slice A1 text.length c1)) := lkeep hb1 i0
  have HZ1 : Hid (w.heap.size < w1.heap.size) := Nat.lt_of_lt_of_le hZ hb1.size
  clear C hb1 hbls i0 i1 i2
  go_wp2
  go_loopw [3, 5, 6] (fun v fv i wr => ∃ (k : Nat) (O : Option Addr) (c : Nat) (L : List Rel) (fr : Int), i = .int .i64 ((k : Int) + 1) ∧ fv = .int .i64 fr ∧ v = .slice O L.length c ∧ k ≤ text.length ∧ Hid (Come text ent L fr k) ∧ Hid (wr.ownsRow (w.heap.size + 1) 84 2 v L.length (dNews L)) ∧ Hid (BlsAt wr g text.length (labF text ent)) ∧ Hid (Below (w.heap.size + 1) w1 wr)) (fun _ _ i _ => text.length + 1 - (intOf i).toNat)
  case atStart => exact ⟨0, none, 0, [], 0, rfl, rfl, rfl, Nat.zero_le _, come_zero text ent hpos, World.ownsRow_nil _ _ _ _, HS1, Below.refl _ _⟩
  case round =>
    clear HS1
    obtain ⟨k, O, c, L, fr, rfl, rfl, rfl, hk, HC, HRw, HS, HBr⟩ := hrel
    have x0 : wr.cell? ⟨w.heap.size, 0, none⟩ = some (.slice A1 text.length c1) := by rw [HBr.out.cell (p := ⟨w.heap.size, 0, none⟩) (Nat.lt_succ_self _)]; exact HX1.out
    have HBw : Hid (Below w.heap.size w wr) := HB1.out.trans (HBr.out.mono (Nat.le_succ _))
    have HQ : Hid (w.heap.size + 1 ≤ wr.heap.size) := Nat.le_trans HZ1.out HBr.out.size
    by_cases hlt : k < text.length
    · have hLl := come_len HC.out hlt
      obtain ⟨a, rfl, q⟩ := (HT.out.keep HBw.out) k hlt
      by_cases he : k + 1 = text.length
      · have he' : ((k : Int) + 1 == (text.length : Int)) = true := by rw [beq_iff_eq]; omega
        have HC2 : Hid (Come text ent (L ++ [(fr, (k : Int) + 1)]) ((k : Int) + 1) (k + 1)) := come_end HC.out he
        have HBx : Hid (Below wr.heap.size wr (wr.alloc (.cells #[.int .i64 fr, .int .i64 ((k : Int) + 1)] 84))) := lb_alloc (Below.refl _ _) _; have HBa : Hid (Below (w.heap.size + 1) w1 (wr.alloc (.cells #[.int .i64 fr, .int .i64 ((k : Int) + 1)] 84))) := HBr.out.trans (HBx.out.mono HQ.out); have HQa : Hid (w.heap.size + 1 ≤ (wr.alloc (.cells #[.int .i64 fr, .int .i64 ((k : Int) + 1)] 84)).heap.size) := Nat.le_trans HQ.out HBx.out.size; have HRa : Hid ((wr.alloc (.cells #[.int .i64 fr, .int .i64 ((k : Int) + 1)] 84)).ownsRow (w.heap.size + 1) 84 2 (.slice O L.length c) L.length (dNews L)) := row_keep HRw.out HBx.out; have HSa : Hid (BlsAt (wr.alloc (.cells #[.int .i64 fr, .int .i64 ((k : Int) + 1)] 84)) g text.length (labF text ent)) := HS.out.keep HBx.out
        clear he
        go_upto_region 6 with (at_builtin; go_loud (refine wpList_append_own _ rfl (.tmp 36) (.tmp 40) 44 rfl (w.heap.size + 1) 84 iB (.agg #[.int .i64 0, .int .i64 0]) 2 16 Tryz.underlying44 hi hz0 hz1 hz2 rfl (by decide) (.slice O L.length c) L.length (dNews L) rfl HRa.out ⟨wr.heap.size, 0, none⟩ 1 1 [.int .i64 fr, .int .i64 ((k : Int) + 1)] rfl rfl (fun j u hu => World.news_of_block (newAtK rfl) j u hu) two_oneI (by unfold maxLen; omega) (by omega) HQa.out ?_; intro v3 w4 hown hgrow _; have HR3 : Hid (w4.ownsRow (w.heap.size + 1) 84 2 v3 (L ++ [(fr, (k : Int) + 1)]).length (dNews (L ++ [(fr, (k : Int) + 1)]))) := (by rw [Hid, dNews_snoc, List.length_append]; exact hown); have HB3 : Hid (Below (w.heap.size + 1) w1 w4) := HBa.out.grown hgrow HQa.out (fun b hb => (HRa.out.lt b hb).1); have HS4 : Hid (BlsAt w4 g text.length (labF text ent)) := HSa.out.kept HRa.out (by decide) hgrow; clear hown hgrow))
        obtain ⟨A5, c5, e5⟩ := own_sl HR3.out
        subst e5
        go_wp2
        go_roundw
        case rel => exact ⟨k + 1, A5, c5, _, _, by go_num, rfl, rfl, by omega, HC2, HR3, HS4, HB3⟩
        case measure => simp [intOf]; omega
      · have he' : ((k : Int) + 1 == (text.length : Int)) = false := by rw [beq_eq_false_iff_ne]; omega
        have hlt2 : (k : Int) + 1 < (text.length : Int) := by omega
        have hlt3 : k + 1 < text.length := by omega
        have s0 := HS.out.cellN hlt3
        rw [show (((k + 1 : Nat)) : Int) = (k : Int) + 1 by omega] at s0
        clear he
        cases hb : labF text ent ((k : Int) + 1) with
        | true =>
          have HC2 : Hid (Come text ent (L ++ [(fr, (k : Int) + 1)]) ((k : Int) + 1) (k + 1)) := come_more HC.out hlt3 (beg_lab hb)
          rw [hb] at s0
          clear hb
          have HBx : Hid (Below wr.heap.size wr (wr.alloc (.cells #[.int .i64 fr, .int .i64 ((k : Int) + 1)] 84))) := lb_alloc (Below.refl _ _) _; have HBa : Hid (Below (w.heap.size + 1) w1 (wr.alloc (.cells #[.int .i64 fr, .int .i64 ((k : Int) + 1)] 84))) := HBr.out.trans (HBx.out.mono HQ.out); have HQa : Hid (w.heap.size + 1 ≤ (wr.alloc (.cells #[.int .i64 fr, .int .i64 ((k : Int) + 1)] 84)).heap.size) := Nat.le_trans HQ.out HBx.out.size; have HRa : Hid ((wr.alloc (.cells #[.int .i64 fr, .int .i64 ((k : Int) + 1)] 84)).ownsRow (w.heap.size + 1) 84 2 (.slice O L.length c) L.length (dNews L)) := row_keep HRw.out HBx.out; have HSa : Hid (BlsAt (wr.alloc (.cells #[.int .i64 fr, .int .i64 ((k : Int) + 1)] 84)) g text.length (labF text ent)) := HS.out.keep HBx.out
          go_upto_region 6 with (at_builtin; go_loud (refine wpList_append_own _ rfl (.tmp 36) (.tmp 40) 44 rfl (w.heap.size + 1) 84 iB (.agg #[.int .i64 0, .int .i64 0]) 2 16 Tryz.underlying44 hi hz0 hz1 hz2 rfl (by decide) (.slice O L.length c) L.length (dNews L) rfl HRa.out ⟨wr.heap.size, 0, none⟩ 1 1 [.int .i64 fr, .int .i64 ((k : Int) + 1)] rfl rfl (fun j u hu => World.news_of_block (newAtK rfl) j u hu) two_oneI (by unfold maxLen; omega) (by omega) HQa.out ?_; intro v3 w4 hown hgrow _; have HR3 : Hid (w4.ownsRow (w.heap.size + 1) 84 2 v3 (L ++ [(fr, (k : Int) + 1)]).length (dNews (L ++ [(fr, (k : Int) + 1)]))) := (by rw [Hid, dNews_snoc, List.length_append]; exact hown); have HB3 : Hid (Below (w.heap.size + 1) w1 w4) := HBa.out.grown hgrow HQa.out (fun b hb => (HRa.out.lt b hb).1); have HS4 : Hid (BlsAt w4 g text.length (labF text ent)) := HSa.out.kept HRa.out (by decide) hgrow; clear hown hgrow))
          obtain ⟨A5, c5, e5⟩ := own_sl HR3.out
          subst e5
          go_wp2
          go_roundw
          case rel => exact ⟨k + 1, A5, c5, _, _, by go_num, rfl, rfl, by omega, HC2, HR3, HS4, HB3⟩
          case measure => simp [intOf]; omega
        | false =>
          have HF : Hid (begF text ent ((k : Int) + 1) = endsB (dOp (nth text k))) := by rw [Hid, beg_succ hlt, hb, Bool.false_or]
          rw [hb] at s0
          clear hb
          obtain ⟨hv0, hv1⟩ := HR.out k hlt
          have C := refends_any (nth text k) hv0 hv1 wr
          generalize nth text k = v at *
          generalize endsB (dOp v) = t at *
          cases t with
          | true =>
            have HC2 : Hid (Come text ent (L ++ [(fr, (k : Int) + 1)]) ((k : Int) + 1) (k + 1)) := come_more HC.out hlt3 HF.out
            go_upto_region 6 with (first
              | (go_at_call 30; refine C.mono ?_; rintro e w5 ⟨rfl, hb5⟩; have HBx : Hid (Below wr.heap.size wr (w5.alloc (.cells #[.int .i64 fr, .int .i64 ((k : Int) + 1)] 84))) := lb_alloc hb5 _; have HBa : Hid (Below (w.heap.size + 1) w1 (w5.alloc (.cells #[.int .i64 fr, .int .i64 ((k : Int) + 1)] 84))) := HBr.out.trans (HBx.out.mono HQ.out); have HQa : Hid (w.heap.size + 1 ≤ (w5.alloc (.cells #[.int .i64 fr, .int .i64 ((k : Int) + 1)] 84)).heap.size) := Nat.le_trans HQ.out HBx.out.size; have HRa : Hid ((w5.alloc (.cells #[.int .i64 fr, .int .i64 ((k : Int) + 1)] 84)).ownsRow (w.heap.size + 1) 84 2 (.slice O L.length c) L.length (dNews L)) := row_keep HRw.out HBx.out; have HSa : Hid (BlsAt (w5.alloc (.cells #[.int .i64 fr, .int .i64 ((k : Int) + 1)] 84)) g text.length (labF text ent)) := HS.out.keep HBx.out)
              | (at_builtin; go_loud (refine wpList_append_own _ rfl (.tmp 36) (.tmp 40) 44 rfl (w.heap.size + 1) 84 iB (.agg #[.int .i64 0, .int .i64 0]) 2 16 Tryz.underlying44 hi hz0 hz1 hz2 rfl (by decide) (.slice O L.length c) L.length (dNews L) rfl HRa.out ⟨w5.heap.size, 0, none⟩ 1 1 [.int .i64 fr, .int .i64 ((k : Int) + 1)] rfl rfl (fun j u hu => World.news_of_block (newAtK rfl) j u hu) two_oneI (by unfold maxLen; omega) (by omega) HQa.out ?_; intro v3 w4 hown hgrow _; have HR3 : Hid (w4.ownsRow (w.heap.size + 1) 84 2 v3 (L ++ [(fr, (k : Int) + 1)]).length (dNews (L ++ [(fr, (k : Int) + 1)]))) := (by rw [Hid, dNews_snoc, List.length_append]; exact hown); have HB3 : Hid (Below (w.heap.size + 1) w1 w4) := HBa.out.grown hgrow HQa.out (fun b hb => (HRa.out.lt b hb).1); have HS4 : Hid (BlsAt w4 g text.length (labF text ent)) := HSa.out.kept HRa.out (by decide) hgrow; clear hown hgrow)))
            obtain ⟨A5, c5, e5⟩ := own_sl HR3.out
            subst e5
            go_wp2
            go_roundw
            case rel => exact ⟨k + 1, A5, c5, _, _, by go_num, rfl, rfl, by omega, HC2, HR3, HS4, HB3⟩
            case measure => simp [intOf]; omega
          | false =>
            have HC2 : Hid (Come text ent L fr (k + 1)) := come_same HC.out hlt3 HF.out
            go_wp2_with (go_at_call 30; refine C.mono ?_; rintro e w5 ⟨rfl, hb5⟩)
            go_roundw
            case rel => exact ⟨k + 1, O, c, _, _, by go_num, rfl, rfl, by omega, HC2, row_keep HRw.out hb5, HS.out.keep hb5, HBr.out.trans (hb5.mono HQ.out)⟩
            case measure => simp [intOf]; omega
    · obtain rfl : k = text.length := by omega
      have HL : Hid (L = blkL text ent) := by
        rcases HC.out with ⟨h, _⟩ | ⟨_, h⟩
        · omega
        · exact h
      go_wp2
      go_ret
      refine ⟨O, c, by rw [← HL.out]; rfl, by rw [← HL.out]; exact drow_rels HRw.out, HBw.out⟩




end Go.Proofs.YtmlhnnmelopleaaGreatDoor
