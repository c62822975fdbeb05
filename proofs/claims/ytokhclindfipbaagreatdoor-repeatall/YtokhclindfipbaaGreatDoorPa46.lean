/-
  All that an iterator tells.
-/
import Derived.Test.YtokhclindfipbaaGreatDoorProg
import Derived.WalkKit
import Derived.WalkSpells
import Derived.WalkLawsBesides
import Derived.RowKit3
import Derived.Below
import Derived.Deep.QuietTactic
import Derived.BigQuiet
import Derived.WalkSmall
import Derived.Laws.Rows
import Derived.RangeFuncNested
import Derived.RangeFuncBound
import Derived.RangeFuncCalls
import Derived.RangeFuncLeaves
import Derived.Shelf.Abstract
import Derived.Shelf.RegionOpen
import Derived.OwnWalkIn
import Derived.TacticsInMore
import Derived.LoopNIn
import Derived.LoopIn
import Derived.Maps.AppendAt
import Derived.RangeFuncBox
import Derived.Test.YtokhclindfipbaaGreatDoorPa45
namespace Go.Proofs.YtokhclindfipbaaGreatDoor
open Go.RowKit

attribute [local go_sem] Oper.semAt_some

/-- A told sequence: its length, its places, and where they lie. -/
abbrev Tp := (Nat × List Nat) × (Option Addr × Nat)
def tpV (p : Tp) : Value := .slice p.2.1 p.1.2.length p.2.2
def dTp : List Tp → List Value
  | [] => []
  | p :: l => .int .i64 (p.1.1 : Int) :: tpV p :: dTp l
theorem dTp_append : ∀ a b : List Tp, dTp (a ++ b) = dTp a ++ dTp b
  | [], _ => rfl
  | p :: a, b => by simp only [List.cons_append, dTp, dTp_append a b]
theorem dTp_len : ∀ l : List Tp, (dTp l).length = l.length * 2
  | [] => rfl
  | p :: l => by simp only [dTp, List.length_cons, dTp_len l]; omega
def TpAt (W : World) (b : Nat) (l : List Tp) : Prop := ∀ p ∈ l, W.ownsRow b 3 1 (tpV p) p.1.2.length (iVals .i64 (nV64 p.1.2))
/-- The told ones as they are told. -/
def tdL (nm : List Int) (en : Nat → Nat) (T : List (Nat × Nat)) : List (Nat × List Nat) := T.map fun r => (r.1, plcS nm en r.2 r.1)
theorem row_off {W W' : World} {b g n : Nat} {e t : TypeId} {sz : Nat} {v : Value} {xs : List Value} {cs : Array Value} {m : Nat × Nat} (hr : W.ownsRow b e sz v n xs) (hg : W.heap[g]? = some (.cells cs t m)) (ht : t ≠ e) (h : W.grownBy W' (some g)) : W'.ownsRow b e sz v n xs := by
  obtain ⟨h1, h2⟩ := hr
  refine ⟨h1, ?_⟩
  rcases h2 with h2 | ⟨g', cap, cur, rfl, h2, h3, h4⟩
  · exact .inl h2
  · refine .inr ⟨g', cap, cur, rfl, h2, (h.block g' (Array.getElem?_eq_some_iff.1 h3).1 (fun e2 => ?_)).trans h3, h4⟩
    cases e2
    rw [hg] at h3
    injection h3 with h3
    injection h3 with _ e3 _
    exact ht e3
theorem row_none {W W' : World} {b n : Nat} {e : TypeId} {sz : Nat} {v : Value} {xs : List Value} (hr : W.ownsRow b e sz v n xs) (h : W.grownBy W' none) : W'.ownsRow b e sz v n xs := by
  obtain ⟨h1, h2⟩ := hr
  refine ⟨h1, ?_⟩
  rcases h2 with h2 | ⟨g', cap, cur, rfl, h2, h3, h4⟩
  · exact .inl h2
  · exact .inr ⟨g', cap, cur, rfl, h2, (h.block g' (Array.getElem?_eq_some_iff.1 h3).1 (by simp)).trans h3, h4⟩
/-- A row of one type stays where a row of another one grows. -/
theorem row_past {W W' : World} {b n b2 n2 sz2 : Nat} {e t : TypeId} {sz : Nat} {v v2 : Value} {xs xs2 : List Value} (hr : W.ownsRow b e sz v n xs) (h2 : W.ownsRow b2 t sz2 v2 n2 xs2) (ht : t ≠ e) (h : W.grownBy W' v2.ownBlock) : W'.ownsRow b e sz v n xs := by
  cases hv : v2.ownBlock with
  | none => rw [hv] at h; exact row_none hr h
  | some g =>
    obtain ⟨cs, hc⟩ := own_blockR h2 hv
    rw [hv] at h
    exact row_off hr hc ht h
theorem cells_past {W W' : World} {B b2 n2 sz2 : Nat} {t t2 : TypeId} {cs : Array Value} {v2 : Value} {xs2 : List Value} (hb : W.heap[B]? = some (.cells cs t (0, 0))) (h2 : W.ownsRow b2 t2 sz2 v2 n2 xs2) (ht : t2 ≠ t) (h : W.grownBy W' v2.ownBlock) : W'.heap[B]? = some (.cells cs t (0, 0)) := by
  refine (h.block B (Array.getElem?_eq_some_iff.1 hb).1 (fun e => ?_)).trans hb
  obtain ⟨cs2, hc⟩ := own_blockR h2 e.symm
  rw [hb] at hc
  injection hc with hc
  injection hc with _ e3 _
  exact ht e3.symm
theorem Kept.row {n0 n1 : Nat} {W W' : World} {base : Nat} {e : TypeId} {size : Nat} {v : Value} {k : Nat} {xs : List Value} (hr : W.ownsRow base e size v k xs) (hg : W.grownBy W' v.ownBlock) (hb : n0 ≤ base) (hw : n0 ≤ W.heap.size) : Kept n0 n1 W W' := by
  cases hv : v.ownBlock with
  | none => rw [hv] at hg; exact Kept.grown0 hg hw
  | some g =>
    obtain ⟨cur, hc⟩ := own_blockR hr hv
    rw [hv] at hg
    exact Kept.grown hg hc (Nat.le_trans hb (hr.lt g hv).1)
theorem Kept.set {n0 n1 B : Nat} {t : TypeId} {v : Value} {W : World} (hb : Boxed W B t v) (hn : n0 ≤ B) (u : Value) : Kept n0 n1 W (W.setCell ⟨B, 0, none⟩ u) :=
  Kept.grown (grownBy_setCell' W B u) hb hn
theorem preE_len {nm : List Int} {en : Nat → Nat} : ∀ k : Nat, (preE nm en k).length ≤ k * (nm.length + 1)
  | 0 => by simp [preE]
  | k + 1 => by
    rw [preE, List.length_append, Nat.add_mul]
    have := preE_len (nm := nm) (en := en) k
    have h2 : (rowE nm en k (nm.length + 1)).length ≤ nm.length + 1 := by
      unfold rowE
      rw [List.length_map]
      refine Nat.le_trans (List.length_filter_le _ _) ?_
      rw [List.length_range]
      exact Nat.le_refl _
    omega
theorem eachL_few {nm : List Int} {en : Nat → Nat} (hl : nm.length ≤ 2048) : (eachL nm en).length ≤ 4200000 := by
  have h := preE_len (nm := nm) (en := en) nm.length
  have h2 : nm.length * (nm.length + 1) ≤ 2048 * 2049 := Nat.mul_le_mul hl (by omega)
  refine Nat.le_trans h ?_
  omega
theorem infoR : ∃ i, Tryz.prog.info? 69 = some i ∧ i.zero = some (.agg #[.int .i64 0, .slice none 0 0]) ∧ i.size = 2 ∧ i.bytes = 32 :=
  ⟨(Tryz.prog.info? 69).get (by kernel_rfl), by kernel_rfl, by kernel_rfl, by kernel_rfl, by kernel_rfl⟩
theorem each_nil (B : Nat) (w : World) : (binOp BinOp.eql 43 (.func (.func 37) #[.pointer (some ⟨B, 0, none⟩)] #[]) .nilFunc).run Tryz.prog w = .ok (.bool false) w := by kernel_rfl
/-- No two of them lie in one block. -/
def SepT (PT : List Tp) : Prop := PT.Pairwise fun p q => ∀ g, (tpV p).ownBlock = some g → (tpV q).ownBlock ≠ some g
theorem SepT.snoc {PT : List Tp} {p : Tp} (h : SepT PT) (hp : ∀ q ∈ PT, ∀ g, (tpV q).ownBlock = some g → (tpV p).ownBlock ≠ some g) : SepT (PT ++ [p]) :=
  List.pairwise_append.2 ⟨h, List.pairwise_singleton _ _, fun a ha b hb => by rw [List.mem_singleton.1 hb]; exact hp a ha⟩
def GonP (T : List (Nat × List Nat)) (w : World) (e : Ending) (w' : World) : Prop := ∃ (PT : List Tp) (O : Option Addr) (c : Nat), e = .returned (.tuple #[.slice O PT.length c, .int .i64 0]) ∧ PT.map (fun p => p.1) = T ∧ w'.ownsRow w.heap.size 69 2 (.slice O PT.length c) PT.length (dTp PT) ∧ TpAt w' w.heap.size PT ∧ SepT PT ∧ Below w.heap.size w w'
def GonN (E : Int) (w : World) (e : Ending) (w' : World) : Prop := e = .returned (.tuple #[.slice none 0 0, .int .i64 E]) ∧ Below w.heap.size w w'

set_option maxRecDepth 100000 in
set_option maxHeartbeats 4000000 in
theorem gone_no (A1 A2 : Option Addr) (c1 ml c2 : Nat) (ent most : Int) (text : List Int) (w : World) (hT : IntsAt w A1 .u32 text) (hR : ∀ i, i < text.length → 0 ≤ nth text i ∧ nth text i < 4294967296) (hl : text.length ≤ 1048576) (hm : ml ≤ 1048576) (hE : (checkI text ml ent).1 ≠ 0) :
    Calls Tryz.prog 7 #[.agg #[.slice A1 text.length c1, .int .i64 ent, .slice A2 ml c2], .int .i64 most] w (GonN (checkI text ml ent).1 w) := by
  obtain ⟨X, hX⟩ : ∃ X, (w.alloc (.cells #[.slice A1 text.length c1, .int .i64 ent, .slice A2 ml c2] 25)).alloc (.cells #[.int .i64 most] 3) = X := ⟨_, rfl⟩
  have HB : Hid (Below w.heap.size w X) := by unfold Hid; rw [← hX]; exact lb_alloc (lb_alloc (Below.refl _ _) _) _
  have i0 : X.cell? ⟨w.heap.size, 0, none⟩ = some (.slice A1 text.length c1) := by rw [← hX]; simp [go_sem]
  have i1 : X.cell? ⟨w.heap.size, 1, none⟩ = some (.int .i64 ent) := by rw [← hX]; simp [go_sem]
  have i2 : X.cell? ⟨w.heap.size, 2, none⟩ = some (.slice A2 ml c2) := by rw [← hX]; simp [go_sem]
  have C := all_no A1 A2 c1 ml c2 ent text X (hT.keep HB.out) hR hl hm hE
  have hne : ((checkI text ml ent).1 != 0) = true := by simpa using hE
  have HX : Hid _ := hX
  clear hT hR hX hE
  generalize (checkI text ml ent).1 = E at *
  go_enter Tryz.func7, Tryz.ntmps7
  go_upto_region 1 with fail
  rw [HX.out]
  clear HX
  go_wp2_with (go_at_call 17; refine C.mono ?_; rintro e w1 ⟨rfl, hb1⟩; have HB1 : Hid (Below w.heap.size w w1) := lb_trans HB.out hb1; clear hb1)
  go_ret2
  exact ⟨rfl, HB1.out⟩
/-- What gone's own cells hold, between two rounds. -/
structure GonI (nm : List Int) (en : Nat → Nat) (Bl n0 : Nat) (w2 : World) (T : List (Nat × Nat)) (W : World) : Prop where
  ex : ∃ (PT : List Tp) (O : Option Addr) (c : Nat), PT.map (fun p => p.1) = tdL nm en T ∧ Boxed W Bl 29 (.slice O PT.length c) ∧ W.ownsRow n0 69 2 (.slice O PT.length c) PT.length (dTp PT) ∧ TpAt W n0 PT ∧ SepT PT
  low : Below n0 w2 W
theorem GonI.turn {nm : List Int} {en : Nat → Nat} {Bl n0 n : Nat} {w2 W W' : World} {T : List (Nat × Nat)} (h : GonI nm en Bl n0 w2 T W) (t : Turn n W W') (hn : n0 ≤ n) : GonI nm en Bl n0 w2 T W' := by
  obtain ⟨PT, O, c, h1, h2, h3, h4, h5⟩ := h.ex
  exact ⟨⟨PT, O, c, h1, t.box h2, t.row h3, fun p hp => t.row (h4 p hp), h5⟩, t.below h.low hn⟩
theorem TpAt.past {W W' : World} {b b2 n2 sz2 : Nat} {v2 : Value} {xs2 : List Value} {l : List Tp} (h : TpAt W b l) (h2 : W.ownsRow b2 69 sz2 v2 n2 xs2) (hg : W.grownBy W' v2.ownBlock) : TpAt W' b l := fun p hp => row_past (h p hp) h2 (by decide) hg
theorem two_one {n : Int} {O : Option Addr} {k c : Nat} : ∀ u ∈ [Value.int .i64 n, Value.slice O k c], u.oneCell' = true := fun u hu => by
  rcases List.mem_cons.1 hu with rfl | hu
  · rfl
  · rw [List.mem_singleton.1 hu]; rfl
set_option maxRecDepth 100000 in
set_option maxHeartbeats 8000000 in
theorem gone_ok (A1 A2 : Option Addr) (c1 ml c2 : Nat) (ent most : Int) (text : List Int) (w : World) (hT : IntsAt w A1 .u32 text) (hR : ∀ i, i < text.length → 0 ≤ nth text i ∧ nth text i < 4294967296) (hl : text.length ≤ 2048) (hm : ml ≤ 1048576) (hE : (checkI text ml ent).1 = 0) (h0 : 0 < text.length)
    (nm : List Int) (hnm : numL text text.length = nm) (en : Nat → Nat) (hen : enK (begF text ent) text.length = en) (hmo : ∀ k : Nat, 1 ≤ k → k ≤ (eachL nm en).length → (k : Int) ≠ most) :
    Calls Tryz.prog 7 #[.agg #[.slice A1 text.length c1, .int .i64 ent, .slice A2 ml c2], .int .i64 most] w (GonP (tdL nm en (eachL nm en)) w) := by
  have HEn : Hid (EnP nm en) := by
    have := enK_ok (f := begF text ent) (nm := nm)
    rw [← hnm, numL_len, hen, hnm] at this
    exact this
  have hnl : nm.length = text.length := by rw [← hnm, numL_len]
  have HF : Hid ((eachL nm en).length ≤ 4200000) := eachL_few (by omega)
  have HMO : Hid _ := hmo
  have HNl : Hid (nm.length ≤ 2048) := by unfold Hid; omega
  obtain ⟨X, hX⟩ : ∃ X, (w.alloc (.cells #[.slice A1 text.length c1, .int .i64 ent, .slice A2 ml c2] 25)).alloc (.cells #[.int .i64 most] 3) = X := ⟨_, rfl⟩
  have HB : Hid (Below w.heap.size w X) := by unfold Hid; rw [← hX]; exact lb_alloc (lb_alloc (Below.refl _ _) _) _
  have i0 : X.cell? ⟨w.heap.size, 0, none⟩ = some (.slice A1 text.length c1) := by rw [← hX]; simp [go_sem]
  have i1 : X.cell? ⟨w.heap.size, 1, none⟩ = some (.int .i64 ent) := by rw [← hX]; simp [go_sem]
  have i2 : X.cell? ⟨w.heap.size, 2, none⟩ = some (.slice A2 ml c2) := by rw [← hX]; simp [go_sem]
  have i3 : X.cell? ⟨w.heap.size + 1, 0, none⟩ = some (.int .i64 most) := by rw [← hX]; simp [go_sem]
  have hXs : X.heap.size = w.heap.size + 2 := by rw [← hX]; simp
  have C := all_ok A1 A2 c1 ml c2 ent text X (hT.keep HB.out) hR hl hm hE h0
  unfold AllOk at C
  rw [hnm, hen] at C
  have HX : Hid _ := hX
  obtain ⟨iR, hi, hz0, hz1, hz2⟩ := infoR
  clear hT hR hX hE hmo hnm hen hnl
  refine (callsIn_wide (n := 5)).1 ?_
  refine callsIn_of_wp_marks Tryz.func7 rfl trivial ?_ rfl
  simp only [Tryz.ntmps7, List.size_toArray, List.length_cons, List.length_nil, Nat.reduceAdd, Nat.reduceSub, Array.replicate_succ, Array.replicate_zero, List.push_toArray, List.append_toArray, List.nil_append, List.cons_append]
  gi_upto_region 1 with fail
  rw [HX.out]
  clear HX
  gi_wp2_with fail
  refine ⟨trivial, (callsIn_wide.2 C).mono ?_⟩
  rintro e w1 ⟨B, S1, S2, S3, S4, k1, k2, k3, k4, rfl, hB, hS, -, hb1⟩
  have HB1 : Hid (Below X.heap.size X w1) := hb1
  have HS : Hid (RwS w1 B S1 S2 S3 S4 k1 k2 k3 k4 nm en) := hS
  have hs1 := hb1.size
  have j3 : w1.cell? ⟨w.heap.size + 1, 0, none⟩ = some (.int .i64 most) := lkeep hb1 i3
  have hen := each_nil B
  obtain ⟨w2, hw2⟩ : ∃ w2, w1.alloc (.cells #[.slice none 0 0] 29) = w2 := ⟨_, rfl⟩
  have hb2 : Below w1.heap.size w1 w2 := by rw [← hw2]; exact lb_alloc (Below.refl _ _) _
  have hw2s : w2.heap.size = w1.heap.size + 1 := by rw [← hw2]; simp
  have hI0 : GonI nm en w1.heap.size w1.heap.size w2 [] w2 := ⟨⟨[], none, 0, rfl, by rw [← hw2]; exact Boxed.new _ _ _, World.ownsRow_nil _ _ _ _, (fun p hp => by cases hp), List.Pairwise.nil⟩, Below.refl _ _⟩
  have HW2 : Hid _ := hw2
  have HB2 : Hid (Below w1.heap.size w1 w2) := hb2
  have j3' : w2.cell? ⟨w.heap.size + 1, 0, none⟩ = some (.int .i64 most) := lkeep hb2 j3
  have hlt3 : w.heap.size + 1 < w1.heap.size := by omega
  have HJ3 : Hid (∀ W, Below w1.heap.size w2 W → W.cell? ⟨w.heap.size + 1, 0, none⟩ = some (.int .i64 most)) := fun W hb => (hb.cell (p := ⟨w.heap.size + 1, 0, none⟩) hlt3).trans j3'
  clear hb1 hS i0 i1 i2 i3 C hB hw2 hb2 j3 j3'
  gi_wp2_with fail
  rw [HW2.out]
  clear HW2
  refine range_eachF 5 (by decide) 0 w1.heap.size B S1 S2 S3 S4 k1 k2 k3 k4 nm en HEn.out HNl.out rfl rfl (by omega) (GonI nm en w1.heap.size w1.heap.size w2) (fun _ _ => False) (fun T W h => HS.out.keep (HB2.out.trans h.low)) (fun T W W' h t => h.turn t (by omega)) (fun _ _ _ h _ => h.elim) hI0 (fun l0 m O k c a1 W W1 => W1 = W.alloc (.cells #[.int .i64 (m : Int), .slice O k c] 69) ∧ a1 = { tmps := #[.agg #[.slice A1 text.length c1, .int .i64 ent, .slice A2 ml c2], .int .i64 most, .pointer (some ⟨w.heap.size, 0, none⟩), .pointer (some ⟨w.heap.size + 1, 0, none⟩), .slice none 0 0, .int .i64 0, .func (.func 37) #[.pointer (some ⟨B, 0, none⟩)] #[], .int .i64 0, .pointer (some ⟨w1.heap.size, 0, none⟩), .pointer (some ⟨W.heap.size, 0, none⟩), .tuple #[.func (.func 37) #[.pointer (some ⟨B, 0, none⟩)] #[], .int .i64 0], .agg #[.slice A1 text.length c1, .int .i64 ent, .slice A2 ml c2], .tuple #[.func (.func 37) #[.pointer (some ⟨B, 0, none⟩)] #[], .int .i64 0], .func (.func 37) #[.pointer (some ⟨B, 0, none⟩)] #[], .int .i64 0, .int .i64 0, .bool false, .bool false, .func (.func 37) #[.pointer (some ⟨B, 0, none⟩)] #[], .bool false, .bool false, undef, .func (.func 37) #[.pointer (some ⟨B, 0, none⟩)] #[], .agg #[.int .i64 (m : Int), .slice O k c], undef, undef, undef, undef, undef, undef, undef, undef, undef, undef], defers := [] }) ?assign (fun l0 m O k c a1 W W1 h => by rw [h.1]; exact lb_alloc (Below.refl _ _) _) ?body ?done (fun _ _ _ _ _ h _ => h.elim)
  case assign =>
    intro l0 m O k c W K hK
    have HK : Hid _ := hK
    clear hK
    unfold repV
    gi_wp2
    exact HK.out _ _ ⟨rfl, rfl⟩
  case body =>
    rintro l0 T r O c W W1 W3 Wq a1 hp hs ⟨rfl, rfl⟩ tn hIq hzq tq hrowq
    obtain ⟨PT, O2, k2, e1, e2, e3, e4, e5⟩ := hIq.ex
    have HSp : Hid (SepT (PT ++ [((r.1, plcS nm en r.2 r.1), (O, c))])) := e5.snoc fun q hq g hg hg2 => by
      have h1 := ((e4 q hq).lt g hg).2
      have h2 := (hrowq.lt g hg2).1
      omega
    have hlow := tq.below hIq.low (by omega)
    replace e2 : Boxed W3 w1.heap.size 29 (.slice O2 PT.length k2) := tq.box e2
    replace e3 := tq.row e3
    have e4 : TpAt W3 w1.heap.size PT := fun p hp => tq.row (e4 p hp)
    have hrow : W3.ownsRow w1.heap.size 3 1 (.slice O (plcS nm en r.2 r.1).length c) (plcS nm en r.2 r.1).length (iVals .i64 (nV64 (plcS nm en r.2 r.1))) := ownsRow_mono hrowq (by omega)
    have hbx : W3.heap[W.heap.size]? = some (.cells #[.int .i64 (r.1 : Int), .slice O (plcS nm en r.2 r.1).length c] 69) := tn.box (heap_alloc_new W _)
    have v0 : W3.cell? ⟨W.heap.size, 0, none⟩ = some (.int .i64 (r.1 : Int)) := by simp [World.cell?, hbx]
    have v1 : W3.cell? ⟨W.heap.size, 1, none⟩ = some (.slice O (plcS nm en r.2 r.1).length c) := by simp [World.cell?, hbx]
    have HLow : Hid (Below w1.heap.size w2 W3) := hlow
    have jm := HJ3.out W3 hlow
    have q0 := e2.cell
    have q1 := e2.frozen
    have hPT : PT.length = T.length := by
      have := congrArg List.length e1
      rw [List.length_map] at this
      rw [this]
      unfold tdL
      rw [List.length_map]
    have hTl : T.length + 1 ≤ (eachL nm en).length := by
      have := hp.length_le
      rw [List.length_append] at this
      exact this
    have hm1 := HMO.out (PT.length + 1) (by omega) (by omega)
    have hne : ¬ ((PT.length : Int) + 1 = most) := by omega
    have hne2 : (((PT.length : Int) + 1) == most) = false := by simpa using hne
    have hPf : PT.length ≤ 4200000 := by have := HF.out; omega
    have HE1 : Hid ((PT ++ [((r.1, plcS nm en r.2 r.1), (O, c))]).map (fun p => p.1) = tdL nm en (T ++ [r])) := by
      unfold Hid tdL
      rw [List.map_append, e1, List.map_append]
      rfl
    have hws : w1.heap.size ≤ W3.heap.size := by have := hlow.size; omega
    have HR3 : Hid (W3.ownsRow w1.heap.size 69 2 (.slice O2 PT.length k2) PT.length (dTp PT)) := e3
    have HE2 : Hid (Boxed W3 w1.heap.size 29 (.slice O2 PT.length k2)) := e2
    have HE4 : Hid (TpAt W3 w1.heap.size PT) := e4
    have HRW : Hid (W3.ownsRow w1.heap.size 3 1 (.slice O (plcS nm en r.2 r.1).length c) (plcS nm en r.2 r.1).length (iVals .i64 (nV64 (plcS nm en r.2 r.1)))) := hrow
    clear hbx tn hIq tq hrowq hzq e1 e2 e3 e4 e5 hrow hlow hPT hTl hm1 hp
    generalize plcS nm en r.2 r.1 = L at *
    gi_wp2_with (gi_at_builtin; go_loud (refine wpListIn_append_own _ rfl _ _ 29 rfl w1.heap.size 69 iR (.agg #[.int .i64 0, .slice none 0 0]) 2 32 Tryz.underlying29 hi hz0 hz1 hz2 rfl (by decide) _ _ _ rfl (HR3.out.alloc _) ⟨W3.heap.size, 0, none⟩ 1 1 [.int .i64 (r.1 : Int), .slice O L.length c] rfl rfl (fun j u hu => World.news_of_block (newAtK rfl) j u hu) two_one (by unfold maxLen; omega) (by omega) (by simp; omega) ?_; intro v' w5 hown' hgrow _; obtain ⟨g5, k5, rfl⟩ := ownsRow_succ hown'; have bx5 : Boxed w5 w1.heap.size 29 (.slice O2 PT.length k2) := cells_past (HE2.out.alloc _) (HR3.out.alloc _) (by decide) hgrow; have HT5 : Hid (TpAt w5 w1.heap.size PT) := TpAt.past (fun p hp => (HE4.out p hp).alloc _) (HR3.out.alloc _) hgrow; have HN5 : Hid (w5.ownsRow w1.heap.size 3 1 (.slice O L.length c) L.length (iVals .i64 (nV64 L))) := row_past (HRW.out.alloc _) (HR3.out.alloc _) (by decide) hgrow; have HK5 : Hid (Kept w1.heap.size w2.heap.size W3 w5) := (Kept.of (lb_alloc (Below.refl _ _) _) hws).trans (Kept.row (HR3.out.alloc _) hgrow (Nat.le_refl _) (by simp; omega)); have HO5 : Hid (w5.ownsRow w1.heap.size 69 2 (.slice (some ⟨g5, 0, none⟩) (PT.length + 1) k5) (PT.length + 1) (dTp PT ++ [.int .i64 (r.1 : Int), .slice O L.length c])) := hown'; have HX5 : Hid (Boxed w5 w1.heap.size 29 (.slice O2 PT.length k2)) := bx5; have c5 := bx5.cell; have f5 := bx5.frozen; have K6 : Kept w1.heap.size w2.heap.size W3 (w5.setCell ⟨w1.heap.size, 0, none⟩ (.slice (some ⟨g5, 0, none⟩) (PT.length + 1) k5)) := HK5.out.trans (Kept.set bx5 (Nat.le_refl _) _); have jm6 := HJ3.out _ (HLow.out.trans K6.low); have HK6 : Hid _ := K6; clear hown' hgrow bx5 K6))
    have HK : Hid (Kept w1.heap.size w2.heap.size W3 (w5.setCell ⟨w1.heap.size, 0, none⟩ (.slice (some ⟨g5, 0, none⟩) (PT.length + 1) k5))) := HK5.out.trans (Kept.set HX5.out (Nat.le_refl _) _)
    have hg6 := grownBy_setCell' w5 w1.heap.size (.slice (some ⟨g5, 0, none⟩) (PT.length + 1) k5)
    refine ⟨HK.out, ⟨⟨PT ++ [((r.1, L), (O, c))], some ⟨g5, 0, none⟩, k5, HE1.out, ?_, ?_, ?_, HSp.out⟩, HLow.out.trans HK.out.low⟩⟩
    · rw [List.length_append]
      exact HX5.out.set _
    · rw [List.length_append, dTp_append]
      exact row_off HO5.out HX5.out (by decide) hg6
    · intro p hp
      rcases List.mem_append.1 hp with hp | hp
      · exact row_off (HT5.out p hp) HX5.out (by decide) hg6
      · rw [List.mem_singleton.1 hp]
        exact row_off HN5.out HX5.out (by decide) hg6
  case done =>
    intro D W hD hI hK
    obtain ⟨PT, O2, k2, e1, e2, e3, e4, e5⟩ := hI.ex
    have HSp : Hid (SepT PT) := e5
    have q0 := e2.cell
    have HD : Hid (W.heap[D]? = some (.deferred (some []))) := hK
    have HE1 : Hid _ := e1
    have HE3 : Hid (W.ownsRow w1.heap.size 69 2 (.slice O2 PT.length k2) PT.length (dTp PT)) := e3
    have HE4 : Hid (TpAt W w1.heap.size PT) := e4
    have HLow : Hid (Below w1.heap.size w2 W) := hI.low
    clear hI hK e1 e2 e3 e4 e5
    gi_wp2
    refine ⟨by simp, .inl ⟨_, _, rfl, run_takeDeferred HD.out, ?_⟩⟩
    refine ⟨.tuple #[.slice O2 PT.length k2, .int .i64 0], by simp [results, Tryz.results7, go_sem], ?_⟩
    have hw1 : w.heap.size ≤ w1.heap.size := by omega
    refine ⟨PT, O2, k2, rfl, HE1.out, ownsRow_mono (ownsRow_putObj HE3.out _ HD.out rfl) hw1, fun p hp => ownsRow_mono (ownsRow_putObj (HE4.out p hp) _ HD.out rfl) hw1, HSp.out, ?_⟩
    have h12 : Below w.heap.size w w2 := (lb_trans HB.out HB1.out).trans (HB2.out.mono hw1)
    exact (h12.trans (HLow.out.mono hw1)).trans (belowK_b (w := w1) hw1 W D _ _ (by omega) HD.out rfl rfl)


end Go.Proofs.YtokhclindfipbaaGreatDoor
