/-
  The program's text. A world in which some blocks have been written over; no Go in sight. The names that were learnt, as plain mathematics; no Go in sight. A map of meanings in memory: what it knows of each name.
-/
import Derived.Test.YthpkekpojhmaaaaGreatDoorProg
import Derived.WalkKit
import Derived.WalkSpells
import Derived.WalkLawsBesides
import Derived.RowKit3
import Derived.Below
import Derived.Deep.QuietTactic
import Derived.BigQuiet
import Derived.WalkSmall
import Derived.Laws.Rows
import Derived.RangeFuncNested
import Derived.RangeFuncBound
import Derived.RangeFuncCalls
import Derived.RangeFuncLeaves
import Derived.Shelf.Abstract
import Derived.Shelf.RegionOpen
import Derived.OwnWalkIn
import Derived.TacticsInMore
import Derived.LoopNIn
import Derived.LoopIn
import Derived.Maps.AppendAt
import Derived.Sort.CutIn
import Derived.OneCell
import Derived.Test.YthpkekpojhmaaaaGreatDoorP24
import Derived.Test.YthpkekpojhmaaaaGreatDoorP29
import Derived.Test.YthpkekpojhmaaaaGreatDoorP20
import Derived.Maps.OwnSet
import Derived.Maps.Own
import Derived.Maps.OwnOps
namespace Go.Proofs.YthpkekpojhmaaaaGreatDoor
open Go.RowKit

attribute [local go_sem] Oper.semAt_some

theorem wpListIn_app {F : Fence} {n : Nat} {P : Program} {w w' : World} {ops : Array Oper} {rest : List Oper} {o : Oper} {a : Act} {Q : Exit → Act → World → Prop} (hg : o.guard = none) (s x : Operand) (t u : TypeId) (hop : o.op = Op.call { callee := Callee.builtin Builtin.append, args := #[s, x], argTypes := #[t, u] }) (vs vx : Value) (hs : a.eval s = vs) (hx : a.eval x = vx) {v' : Value} (hrun : (Builtin.append_ #[t, u] o.type #[vs, vx]).run P w = .ok v' w') (hK : wpListIn F n P ops Q rest (a.put o.dst v') w') : wpListIn F n P ops Q (o :: rest) a w := by
  refine wpListIn_plain hg fun K hK' => ?_
  unfold Oper.wpIn
  refine ⟨?_, ?_⟩
  · simp [Oper.about, hop, resolve, Target.leads, Sem.run_pure]
  · rw [Oper.semAt_plain F _ _ (by rw [hop]; intro c hc'; cases hc')]
    simp [execOp, hop, resolve, invoke, builtin, hs, hx, hrun, Result.andThen]
    exact hK' _ _ hK
theorem one_u {x : Int} : ∀ u ∈ [Value.int .u32 x], u.oneCell' = true := fun u hu => by
  simp only [List.mem_cons, List.not_mem_nil, or_false] at hu
  rw [hu]; rfl
/-- The object's code behind the text. -/
theorem app_code {O : Option Addr} {n c b : Nat} {p : Pl} {o : Ob} {W : World} {zs : List Int} {ty : TypeId} (hr : W.ownsRow b 78 1 (.slice O n c) n (vU zs)) (hO : ObIn W p o) (hn : n ≤ 67108928) (hb : b ≤ W.heap.size) : ∃ O' c' W', (Builtin.append_ #[168, 26] ty #[.slice O n c, .slice p.A1 o.code.length p.c1]).run Tryz.prog W = .ok (.slice O' (n + o.code.length) c') W' ∧ W'.ownsRow b 78 1 (.slice O' (n + o.code.length) c') (n + o.code.length) (vU (zs ++ o.code)) ∧ W.grownBy W' (Value.slice O n c).ownBlock := by
  obtain ⟨i0, hi0, hz0, hz1, hz2⟩ := infoU
  obtain ⟨_, c2, e2, hc⟩ := own_any hr
  cases e2
  have hcl := hO.hc
  cases hA : p.A1 with
  | none =>
    have h0 : o.code = [] := by
      cases hcd : o.code with
      | nil => rfl
      | cons x xs =>
        obtain ⟨a, e, -⟩ := hO.cd 0 (by rw [hcd]; simp)
        rw [hA] at e
        cases e
    rw [h0]
    refine ⟨O, c, W, append_zero Tryz.underlying168 Tryz.underlying26 hi0 hc, by simpa using hr, ⟨rfl, rfl, rfl, Nat.le_refl _, fun _ _ _ => rfl⟩⟩
  | some ad =>
    obtain ⟨v', W', h1, h2, h3, -⟩ := run_append_own (P := Tryz.prog) W b 168 ty 78 i0 (.int .u32 0) 1 4 Tryz.underlying168 hi0 hz0 hz1 hz2 rfl (by decide) (.slice O n c) n (vU zs) hr ad o.code.length p.c1 (vU o.code) (by simp [vU]) (fun j u hj => by
      have hl : j < o.code.length := by have := (List.getElem?_eq_some_iff.1 hj).1; simpa [vU] using this
      obtain ⟨a, e, hcj⟩ := hO.cd j hl
      rw [hA] at e
      cases e
      rw [hcj]
      simp [vU, hl] at hj
      rw [← hj]
      simp [nth, List.getD, hl]) all_u (by unfold maxLen; omega) (by omega) hb
    obtain ⟨O', c', e', -⟩ := own_any h2
    subst e'
    exact ⟨O', c', W', by rw [append_mix Tryz.underlying168 Tryz.underlying26]; exact h1, by rw [vU_app]; exact h2, h3⟩
theorem blk_past {W W' : World} {base : Nat} {e t : TypeId} {size B : Nat} {v : Value} {k : Nat} {xs : List Value} {cs : Array Value} (hb : W.heap[B]? = some (.cells cs t (0, 0))) (hr : W.ownsRow base e size v k xs) (hg : W.grownBy W' v.ownBlock) (h : t ≠ e) : W'.heap[B]? = some (.cells cs t (0, 0)) := by
  refine (hg.block B (Array.getElem?_eq_some_iff.1 hb).1 (fun e2 => ?_)).trans hb
  obtain ⟨cur, hc⟩ := own_block hr e2.symm
  rw [hb] at hc
  cases hc
  exact h rfl
/-- Behind the two appends and the store. -/
theorem join_start {l : List Ob} {A : Option Addr} {ca : Nat} {B : Option Addr} {cB : Nat} {D : Option Addr} {cD : Nat} {q : Nat → Pl} {w W W1 W2 W3 : World} {n1 k g c c0 c1 : Nat} {O O1 : Option Addr} (hI : JoinI l A ca B cB D cD w k W) (hs : w.heap.size + 1 + 1 + 1 + 1 + 1 ≤ W.heap.size) (h1 : Boxed W (w.heap.size + 1 + 1 + 1) 168 (.slice O (bsF l k) c0)) (h2 : W.ownsRow w.heap.size 78 1 (.slice O (bsF l k) c0) (bsF l k) (vU (textF l k)))
    (hb : Below W.heap.size W W1) (hC : CopyAt W1 W.heap.size (q k) (ob l k)) (hO : W2.ownsRow w.heap.size 78 1 (.slice O1 (bsF l k + (ob l k).code.length) c1) (bsF l k + (ob l k).code.length) (vU (textF l k ++ (ob l k).code))) (hg : W1.grownBy W2 (Value.slice O (bsF l k) c0).ownBlock)
    (h3 : W3.ownsRow w.heap.size 78 1 (.slice (some ⟨g, 0, none⟩) (bsF l k + (ob l k).code.length + 1) c) (bsF l k + (ob l k).code.length + 1) (vU (textF l k ++ (ob l k).code) ++ [.int .u32 0])) (hg3 : (W2.alloc (.cells #[.int .u32 0] 78)).grownBy W3 (Value.slice O1 (bsF l k + (ob l k).code.length) c1).ownBlock) :
    Boxed W3 (w.heap.size + 1 + 1 + 1) 168 (.slice O (bsF l k) c0) ∧ JoinP l A ca B cB D cD q w n1 k g c W.heap.size W (movF l k 0) (W3.setCell ⟨w.heap.size + 1 + 1 + 1, 0, none⟩ (.slice (some ⟨g, 0, none⟩) (bsF l (k + 1)) c)) := by
  have r1 := own_keep h2 hb
  have r2 := hO.alloc (.cells #[.int .u32 0] 78)
  have go : ∀ {B : Nat} {t : TypeId} {u : Value}, Boxed W B t u → t ≠ 78 → Boxed W3 B t u := fun h ht =>
    blk_past (old_at (blk_past ((hb.block _ h.lt).trans h) r1 hg ht)) r2 hg3 ht
  have cp : W3.heap[W.heap.size]? = _ := blk_past (old_at (blk_past hC r1 hg (by decide))) r2 hg3 (by decide)
  have bt := go h1 (by decide)
  have hl := hI.low.size
  have hbs := hb.size
  have hgs := hg.size
  have kp : Kept w.heap.size n1 W (W3.setCell ⟨w.heap.size + 1 + 1 + 1, 0, none⟩ (.slice (some ⟨g, 0, none⟩) (bsF l (k + 1)) c)) := ((((Kept.of hb (by omega)).trans (Kept.row r1 hg (by decide) (Nat.le_refl _) (by omega))).trans (Kept.of (lb_alloc (Below.refl _ _) _) (by omega))).trans (Kept.row r2 hg3 (by decide) (Nat.le_refl _) (by simp; omega))).trans (Kept.set bt (by decide) (by omega) _)
  refine ⟨bt, (go hI.b0 (by decide)).other (by omega) _, (go hI.b1 (by decide)).other (by omega) _, (go hI.b2 (by decide)).other (by omega) _, bt.set _, ?_, hI.low.trans kp.low, kp, row_off cp (by omega) _⟩
  refine ownsRow_setCell_other (a := ⟨w.heap.size + 1 + 1 + 1, 0, none⟩) ?_ ?_ _
  · rw [rowL_start, ← List.append_assoc, vU_app]
    exact h3
  · exact fun e => bt.not_row (by decide) h3 e.symm
set_option maxRecDepth 100000 in
set_option maxHeartbeats 16000000 in
theorem join_any (A : Option Addr) (ca : Nat) (q : Nat → Pl) (l : List Ob) (B : Option Addr) (cB : Nat) (D : Option Addr) (cD : Nat) (w : World) (hA : ObsIn w A q l) (hR : Res l) (hF : farL l = none) (hB : IntsAt w B .i64 (basT l l.length)) (hD : RowsAt w D (rowsT l l.length)) :
    Calls Tryz.prog 39 #[.slice A l.length ca, .slice B l.length cB, .slice D l.length cD] w fun e w' => ∃ (O : Option Addr) (c : Nat), e = .returned (.slice O (bsF l l.length) c) ∧ w'.ownsRow w.heap.size 78 1 (.slice O (bsF l l.length) c) (bsF l l.length) (vU (textF l l.length)) ∧ Below w.heap.size w w' := by
  have HA : Hid (ObsIn w A q l) := hA
  have HR : Hid (Res l) := hR
  have HF : Hid (farL l = none) := hF
  have HBs : Hid (IntsAt w B .i64 (basT l l.length)) := hB
  have HDs : Hid (RowsAt w D (rowsT l l.length)) := hD
  obtain ⟨i0, hi0, hz0, hz1, hz2⟩ := infoU
  have hf := hA.few
  have HC : Hid (∀ j, j < l.length → (ob l j).code.length ≤ 1048576) := fun j hj => (hA.each j hj).hc
  clear hA hR hF hB hD
  refine (callsIn_wide (n := 5)).1 ?_
  refine callsIn_of_wp_marks Tryz.func39 rfl trivial ?_ rfl
  simp only [Tryz.ntmps39, List.size_toArray, List.length_cons, List.length_nil, Nat.reduceAdd, Nat.reduceSub, Array.replicate_succ, Array.replicate_zero, List.push_toArray, List.append_toArray, List.nil_append, List.cons_append]
  gi_wp2_with fail
  refine ⟨trivial, (callsIn_wide.2 (layout_any _ _ _ _)).mono ?_⟩
  rintro e w' ⟨rfl, rfl⟩
  obtain ⟨W0, hW0⟩ : ∃ W0, W0 = ((((w.alloc (.cells #[.slice A l.length ca] 22)).alloc (.cells #[.slice B l.length cB] 33)).alloc (.cells #[.slice D l.length cD] 65)).alloc (.cells #[.slice none 0 0] 168)).alloc (.cells #[.slice A l.length ca] 22) := ⟨_, rfl⟩
  have hB0 : Below w.heap.size w W0 := by rw [hW0]; exact lb_alloc (lb_alloc (lb_alloc (lb_alloc (lb_alloc (Below.refl _ _) _) _) _) _) _
  have hS0 : W0.heap.size = w.heap.size + 1 + 1 + 1 + 1 + 1 := by rw [hW0]; simp
  have hI0 : JoinI l A ca B cB D cD w 0 W0 := by
    rw [hW0]
    exact ⟨(((((box_new rfl).alloc _).alloc _).alloc _).alloc _), ((((box_new (by simp)).alloc _).alloc _).alloc _), (((box_new (by simp)).alloc _).alloc _), ⟨none, 0, (box_new (by simp)).alloc _, World.ownsRow_nil _ _ _ _⟩, hW0 ▸ hB0⟩
  have hBx : W0.cell? ⟨w.heap.size + 1 + 1 + 1 + 1, 0, none⟩ = some (.slice A l.length ca) := by rw [hW0]; simp [go_sem]
  gi_wp2_with fail
  rw [← hW0]
  clear hW0
  refine range_layout 5 (by decide) w.heap.size (w.heap.size + 1 + 1 + 1 + 1) A ca q l w rfl hBx rfl (fun W h => HA.out.keep h) (by omega) (JoinI l A ca B cB D cD w) (fun _ _ => False) (fun k W W' h t => h.turn t (by omega)) (fun k W W' h _ => h) (fun k W h => h.low) hI0 (fun k => { tmps := #[.slice A l.length ca, .slice B l.length cB, .slice D l.length cD, .pointer (some ⟨w.heap.size, 0, none⟩), .pointer (some ⟨w.heap.size + 1, 0, none⟩), .pointer (some ⟨w.heap.size + 1 + 1, 0, none⟩), .slice none 0 0, .pointer (some ⟨w.heap.size + 1 + 1 + 1, 0, none⟩), .int .i64 (k : Int), .int .i64 (bsF l k : Int), undef, undef, undef, undef, .slice A l.length ca, .func (.func 142) #[] #[.pointer (some ⟨w.heap.size + 1 + 1 + 1 + 1, 0, none⟩)], .int .i64 (k : Int), .int .i64 (bsF l k : Int), undef, undef, undef, undef, undef, undef, undef, undef, undef, undef, undef, undef, undef, undef, undef, undef, undef, undef, undef, undef, undef, undef, undef, undef, undef, undef, undef, undef, undef, undef, undef, undef, undef, undef, undef, undef, undef, undef, undef, undef, undef, undef, undef, undef, undef, undef, undef, undef], defers := [] }) ?assign ?body ?done ?stop
  case assign =>
    intro l0 k W K hK
    gi_wp2
    exact hK
  case stop =>
    intro D' k W _ _ h _
    exact h.elim
  case done =>
    intro D' W hD' hI hK
    have HI : Hid (JoinI l A ca B cB D cD w l.length W) := hI
    obtain ⟨O, c, r1, r2⟩ := hI.row
    have HR2 : Hid (W.ownsRow w.heap.size 78 1 (.slice O (bsF l l.length) c) (bsF l l.length) (vU (textF l l.length))) := r2
    have hb5 := r1.cell
    have HK : Hid (W.heap[D']? = some (.deferred (some []))) := hK
    clear hI r1 r2 hK
    gi_wp2
    refine ⟨by simp, .inl ⟨_, _, rfl, run_takeDeferred HK.out, ?_⟩⟩
    exact ⟨_, results_tmp rfl _ _ _, O, c, rfl, ownsRow_putObj HR2.out _ HK.out rfl, HI.out.low.trans (belowK_b (w := w) (Nat.le_refl _) W D' _ _ (by omega) HK.out rfl rfl)⟩
  case body =>
    intro l0 k W hk hs0 hI
    have hs : w.heap.size + 1 + 1 + 1 + 1 + 1 ≤ W.heap.size := by omega
    have HI : Hid (JoinI l A ca B cB D cD w k W) := hI
    obtain ⟨O, c0, r1, r2⟩ := hI.row
    have HR1 : Hid (Boxed W (w.heap.size + 1 + 1 + 1) 168 (.slice O (bsF l k) c0)) := r1
    have HR2 : Hid (W.ownsRow w.heap.size 78 1 (.slice O (bsF l k) c0) (bsF l k) (vU (textF l k))) := r2
    have hb0 := hI.b0.cell
    have hk' : (k : Int) < (l.length : Int) := by omega
    obtain ⟨a, ea, x0, x1, x2, x3, x4, x5⟩ := (HA.out.keep hI.low).cells.six (Below.refl _ _) k hk
    have hcl := HC.out k hk
    have hsf := sum_fits HC.out hf (Nat.le_of_lt hk)
    have hsf1 : bsF l (k + 1) ≤ 67108928 := sum_fits HC.out hf hk
    subst ea
    clear hS0 hs0 hI0 hBx hI r1 r2
    -- the object's copy
    obtain ⟨W1, hW1⟩ : ∃ W1, W1 = W.alloc (.cells #[.string (ob l k).nm, .slice (q k).A1 (ob l k).code.length (q k).c1, .int .i64 (ob l k).dA, .slice (q k).A2 (ob l k).data.length (q k).c2, .slice (q k).A3 (ob l k).ss.length (q k).c3, .slice (q k).A4 (ob l k).rs.length (q k).c4] 75) := ⟨_, rfl⟩
    have hb1 : Below W.heap.size W W1 := by rw [hW1]; exact lb_alloc (Below.refl _ _) _
    have HC1 : Hid (CopyAt W1 W.heap.size (q k) (ob l k)) := by rw [Hid, hW1]; exact heap_alloc_new _ _
    have HB1 : Hid (Below W.heap.size W W1) := hb1
    have hw1 : w.heap.size ≤ W1.heap.size := by have := hb1.size; omega
    obtain ⟨O1, c1, W2, hrun, hown, hgrow⟩ := app_code (ty := 168) (own_keep HR2.out hb1) ((HA.out.keep (lb_trans HI.out.low hb1)).each k hk) hsf hw1
    have HO2 : Hid (W2.ownsRow w.heap.size 78 1 (.slice O1 (bsF l k + (ob l k).code.length) c1) (bsF l k + (ob l k).code.length) (vU (textF l k ++ (ob l k).code))) := hown
    have HG2 : Hid (W1.grownBy W2 (Value.slice O (bsF l k) c0).ownBlock) := hgrow
    have hb5 : W1.cell? ⟨w.heap.size + 1 + 1 + 1, 0, none⟩ = some (.slice O (bsF l k) c0) := lkeep hb1 HR1.out.cell
    obtain ⟨y1, -, -, -⟩ := HC1.out.cells
    clear hown hgrow
    gi_upto_region 6 with fail
    rw [← hW1]
    clear hW1 x0 x1 x2 x3 x4 x5 hb0
    gi_upto_region 7 with (first | (gi_at_builtin; refine wpListIn_app rfl _ _ 168 26 rfl _ _ rfl rfl hrun ?_) | (gi_at_builtin; go_loud (refine wpListIn_append_own _ rfl _ _ 168 rfl w.heap.size 78 i0 (.int .u32 0) 1 4 Tryz.underlying168 hi0 hz0 hz1 hz2 rfl (by decide) _ _ _ rfl (HO2.out.alloc _) ⟨W2.heap.size, 0, none⟩ 1 1 [.int .u32 0] rfl rfl (cell_one_new _ _ _) one_u (by unfold maxLen; omega) (by omega) (by have := HG2.out.size; simp; omega) ?_; intro v' W3 hown' hgrow' _; obtain ⟨g, c, rfl⟩ := ownsRow_succ hown'; obtain ⟨hv1, hP⟩ := join_start (n1 := W0.heap.size) HI.out hs HR1.out HR2.out HB1.out HC1.out HO2.out HG2.out hown' hgrow'; have hc1 := hv1.cell; have hf1 := hv1.frozen)))
    rw [show bsF l k + (ob l k).code.length + 1 = bsF l (k + 1) from rfl]
    obtain ⟨W4, hW4⟩ : ∃ W4, W4 = W3.setCell ⟨w.heap.size + 1 + 1 + 1, 0, none⟩ (.slice (some ⟨g, 0, none⟩) (bsF l (k + 1)) c) := ⟨_, rfl⟩
    rw [← hW4] at hP ⊢
    have HP : Hid (JoinP l (some a) ca B cB D cD q w W0.heap.size k g c W.heap.size W (movF l k 0) W4) := hP
    clear hW4 hP hown' hgrow' hv1 hc1 hf1 hrun y1 hb5 hb1
    obtain ⟨y1, -, -, -⟩ := HP.out.copy.cells
    gi_wp2
    clear y1
    gi_loopw [31] (fun i wz => ∃ j : Nat, i = .int .i64 j ∧ j ≤ (ob l k).code.length ∧ Hid (JoinP l (some a) ca B cB D cD q w W0.heap.size k g c W.heap.size W (movF l k j) wz)) (fun i _ => (ob l k).code.length - (intOf i).toNat)
    case atStart => exact ⟨0, rfl, Nat.zero_le _, HP⟩
    case round =>
      clear HP
      obtain ⟨j, rfl, hj, HP⟩ := hrel
      by_cases hjl : j < (ob l k).code.length
      · have hjl' : (j : Int) < ((ob l k).code.length : Int) := by omega
        have hbx := HP.out.b3.cell
        obtain ⟨p, hp⟩ : ∃ p : Nat, (bsF l k : Int) + (j : Int) = (p : Int) := ⟨bsF l k + j, by omega⟩
        have HPp : Hid (bsF l k + j = p) := by rw [Hid]; omega
        have hpn : p < bsF l (k + 1) := by rw [bsF]; omega
        obtain ⟨z1, z2⟩ := HP.out.cell hjl
        rw [HPp.out] at z1 z2
        have hmf : movF l k j j = nth (ob l k).code j := by unfold movF; rw [if_neg (by omega)]
        rw [hmf] at z1
        obtain ⟨v0, v1⟩ := (HA.out.each k hk).cr j hjl
        have C := patch_mov g (bsF l (k + 1)) c p (bsF l k) (nth (ob l k).code j) v0 v1 hsf wr hpn hsf1 z1 z2
        clear z1 z2 hmf
        gi_wp2_with fail
        refine ⟨trivial, (CallsIn.inRound l0 (callsIn_wide.2 C)).mono ?_⟩
        rintro e w2 ⟨rfl, w3, hb3, rfl⟩
        have HP2 : Hid (JoinP l (some a) ca B cB D cD q w W0.heap.size k g c W.heap.size W (movF l k (j + 1)) (w3.setCell ⟨g, p, none⟩ (.int .u32 (movV (nth (ob l k).code j) (bsF l k))))) := (HP.out.below hb3 HP.out.low.size).patch hpn (by rw [← HPp.out]; exact rowL_mov hjl)
        clear C hbx hb3
        gi_wp2
        go_roundw
        case rel => exact ⟨j + 1, by go_num, by omega, HP2⟩
        case measure => simp [intOf]; omega
      · have hjl' : ¬ (j : Int) < ((ob l k).code.length : Int) := by omega
        obtain rfl : j = (ob l k).code.length := by omega
        have HP3 : Hid (JoinP l (some a) ca B cB D cD q w W0.heap.size k g c W.heap.size W (relF l k 0) wr) := by
          have := HP.out
          exact ⟨this.b0, this.b1, this.b2, this.b3, by rw [← rowL_moved]; exact this.row, this.low, this.kept, this.copy⟩
        clear HP
        obtain ⟨-, -, -, y5⟩ := HP3.out.copy.cells
        have hrl := (HA.out.each k hk).hl
        gi_wp2
        clear y5
        gi_loopw [44] (fun i wz => ∃ r : Nat, i = .int .i64 r ∧ r ≤ (ob l k).rs.length ∧ Hid (JoinP l (some a) ca B cB D cD q w W0.heap.size k g c W.heap.size W (relF l k r) wz)) (fun i _ => (ob l k).rs.length - (intOf i).toNat)
        case atStart => exact ⟨0, rfl, Nat.zero_le _, HP3⟩
        case round =>
          clear HP3
          obtain ⟨r, rfl, hr, HP⟩ := hrel
          by_cases hrl2 : r < (ob l k).rs.length
          · have hrl' : (r : Int) < ((ob l k).rs.length : Int) := by omega
            obtain ⟨a4, e4, g0, g1⟩ := ((HA.out.keep HP.out.low).each k hk).rl r hrl2
            have g1' : wr.cell? ⟨(a4.add (r * 2)).block, (a4.add (r * 2)).off + 1, none⟩ = some (.int .i64 (rSym (ob l k).rs r)) := g1
            obtain ⟨p0, p1, -, s0, s1, hT, ht⟩ := rel_parts.1 ((HR.out.may k hk).2.2.1 r hrl2)
            obtain ⟨i, hi⟩ : ∃ i : Nat, rAt (ob l k).rs r = (i : Int) := ⟨(rAt (ob l k).rs r).toNat, by omega⟩
            obtain ⟨sy, hsy⟩ : ∃ sy : Nat, rSym (ob l k).rs r = (sy : Int) := ⟨(rSym (ob l k).rs r).toNat, by omega⟩
            have HIi : Hid (rAt (ob l k).rs r = (i : Int)) := hi
            have HSy : Hid (rSym (ob l k).rs r = (sy : Int)) := hsy
            rw [hi] at g0
            rw [hsy] at g1'
            rw [e4]
            clear e4 g1 hi hsy
            obtain ⟨x, y, est, hx, hy0, hy1, -⟩ := HR.out.stand hk (k := sy) (by have := HSy.out; omega)
            have hx' : (x : Int) < (l.length : Int) := by omega
            have hcx := HC.out x hx
            have hsx := sum_fits HC.out hf (Nat.le_of_lt hx)
            have HE : Hid (standS l k sy = ((x : Int), y)) := est
            obtain ⟨aD, R, kc, eD, cDc, rR⟩ := HDs.out k (by rw [rowsT_len]; exact hk)
            rw [rowsT_at l hk] at cDc rR
            rw [rowT_len] at cDc
            have hsl : sy < (ob l k).ss.length := by have := HSy.out; omega
            have hsl' : (sy : Int) < ((ob l k).ss.length : Int) := by omega
            obtain ⟨aE, eE, d0, d1⟩ := rR sy (by rw [rowT_len]; exact hsl)
            rw [(rowT_at hsl).1, est] at d0
            rw [(rowT_at hsl).2, est] at d1
            subst eD
            subst eE
            have d1' : w.cell? ⟨(aE.add (sy * 2)).block, (aE.add (sy * 2)).off + 1, none⟩ = some (.int .i64 y) := d1
            have hgl : g < wr.heap.size := (HP.out.row.lt g rfl).2
            have hgw : w.heap.size ≤ g := (HP.out.row.lt g rfl).1
            obtain ⟨cur, hcur⟩ := own_block HP.out.row (b := g) rfl
            have ne1 : w.heap.size + 1 ≠ g := fun e => by have := HP.out.b1; rw [e] at this; rw [show wr.heap[g]? = _ from this] at hcur; cases hcur
            have ne2 : w.heap.size + 1 + 1 ≠ g := fun e => by have := HP.out.b2; rw [e] at this; rw [show wr.heap[g]? = _ from this] at hcur; cases hcur
            have ne3 : w.heap.size + 1 + 1 + 1 ≠ g := fun e => by have := HP.out.b3; rw [e] at this; rw [show wr.heap[g]? = _ from this] at hcur; cases hcur
            have neD : (aD.add k).block ≠ g := by have := zcell_lt cDc; omega
            have neE : (aE.add (sy * 2)).block ≠ g := by have := zcell_lt d0; omega
            obtain ⟨W5, hW5⟩ : ∃ W5, W5 = wr.alloc (.cells #[.int .i64 (i : Int), .int .i64 (sy : Int)] 83) := ⟨_, rfl⟩
            have hb5 : Below wr.heap.size wr W5 := by rw [hW5]; exact lb_alloc (Below.refl _ _) _
            have hbw : Below w.heap.size w W5 := lb_trans HP.out.low hb5
            have q0 : W5.cell? ⟨wr.heap.size, 0, none⟩ = some (.int .i64 (i : Int)) := by rw [hW5]; simp [go_sem]
            have q1 : W5.cell? ⟨wr.heap.size, 1, none⟩ = some (.int .i64 (sy : Int)) := by rw [hW5]; simp [go_sem]
            have hS5 : (fun X : World => X.cell? ⟨w.heap.size + 1 + 1 + 1, 0, none⟩ = some (.slice (some ⟨g, 0, none⟩) (bsF l (k + 1)) c) ∧ X.cell? ⟨wr.heap.size, 0, none⟩ = some (.int .i64 (i : Int)) ∧ X.cell? ⟨wr.heap.size, 1, none⟩ = some (.int .i64 (sy : Int)) ∧ X.cell? ⟨w.heap.size + 1 + 1, 0, none⟩ = some (.slice (some aD) l.length cD) ∧ X.cell? (aD.add k) = some (.slice (some aE) (ob l k).ss.length kc) ∧ X.cell? (aE.add (sy * 2)) = some (.int .i64 (x : Int)) ∧ X.cell? ⟨(aE.add (sy * 2)).block, (aE.add (sy * 2)).off + 1, none⟩ = some (.int .i64 y) ∧ X.cell? ⟨w.heap.size + 1, 0, none⟩ = some (.slice B l.length cB)) W5 :=
              ⟨lkeep hb5 HP.out.b3.cell, q0, q1, lkeep hb5 HP.out.b2.cell, lkeep hbw cDc, lkeep hbw d0, lkeep hbw d1', lkeep hb5 HP.out.b1.cell⟩
            have HP5 : Hid (JoinP l (some a) ca B cB (some aD) cD q w W0.heap.size k g c W.heap.size W (relF l k r) W5) := HP.out.below hb5 HP.out.low.size
            obtain ⟨p, hp⟩ : ∃ p : Nat, (bsF l k : Int) + (i : Int) = (p : Int) := ⟨bsF l k + i, by omega⟩
            have HPp : Hid (bsF l k + i = p) := by rw [Hid]; omega
            have hil : i < (ob l k).code.length := by have := HIi.out; omega
            have hpn : p < bsF l (k + 1) := by rw [bsF]; omega
            have hwp : IntKind.i64.wrap (p : Int) = (p : Int) := wrapI64 (by omega) (by omega)
            gi_upto_region 15 with fail
            rw [← hW5]
            clear hW5 g0 g1' q0 q1 d0 d1 d1' cDc rR est
            refine round_any (S := fun X : World => X.cell? ⟨w.heap.size + 1 + 1 + 1, 0, none⟩ = some (.slice (some ⟨g, 0, none⟩) (bsF l (k + 1)) c) ∧ X.cell? ⟨wr.heap.size, 0, none⟩ = some (.int .i64 (i : Int)) ∧ X.cell? ⟨wr.heap.size, 1, none⟩ = some (.int .i64 (sy : Int)) ∧ X.cell? ⟨w.heap.size + 1 + 1, 0, none⟩ = some (.slice (some aD) l.length cD) ∧ X.cell? (aD.add k) = some (.slice (some aE) (ob l k).ss.length kc) ∧ X.cell? (aE.add (sy * 2)) = some (.int .i64 (x : Int)) ∧ X.cell? ⟨(aE.add (sy * 2)).block, (aE.add (sy * 2)).off + 1, none⟩ = some (.int .i64 y) ∧ X.cell? ⟨w.heap.size + 1, 0, none⟩ = some (.slice B l.length cB)) (by kernel_rfl) (noDefer_spec (by kernel_rfl)) (fun ⟨_, _, h⟩ => h) hS5 (fun hHeld => ?_)
            refine wpAnyH_take (i := 0) (oi := { dst := some 48, op := Op.load 168 (Operand.tmp 7), type := 168, pos := "text.go:32", after := #[], guard := none }) (v := ?_) rfl (by kernel_rfl) (by kernel_rfl) (by kernel_rfl) (fun _ _ _ h => h) (Or.inl ⟨by rfl, ?_⟩) hHeld ?_
            rotate_left
            · intro X hSX
              go_simp
              first | done | with_reducible rfl
            simp only [Act.put, List.setIfInBounds_toArray, List.set_cons_zero, List.set_cons_succ]
            refine wpAnyH_take (i := 1) (oi := { dst := some 49, op := Op.move (Operand.tmp 9), type := 3, pos := "text.go:32", after := #[], guard := none }) (v := ?_) rfl (by kernel_rfl) (by kernel_rfl) (by kernel_rfl) (fun _ _ _ h => h) (Or.inl ⟨by rfl, ?_⟩) hHeld ?_
            rotate_left
            · intro X hSX
              go_simp
              first | done | with_reducible rfl
            simp only [Act.put, List.setIfInBounds_toArray, List.set_cons_zero, List.set_cons_succ]
            refine wpAnyH_take (i := 2) (oi := { dst := some 50, op := Op.fieldAddr 83 (Operand.tmp 13) 0, type := 0, pos := "text.go:32", after := #[], guard := none }) (v := ?_) rfl (by kernel_rfl) (by kernel_rfl) (by kernel_rfl) (fun _ _ _ h => h) (Or.inl ⟨by rfl, ?_⟩) hHeld ?_
            rotate_left
            · intro X hSX
              go_simp
              first | done | with_reducible rfl
            simp only [Act.put, List.setIfInBounds_toArray, List.set_cons_zero, List.set_cons_succ]
            refine wpAnyH_take (i := 3) (oi := { dst := some 51, op := Op.load 3 (Operand.tmp 50), type := 3, pos := "text.go:32", after := #[{ on := 2, ground := Ground.data }], guard := none }) (v := ?_) rfl (by kernel_rfl) (by kernel_rfl) (by kernel_rfl) (fun _ _ _ h => h) (Or.inl ⟨by rfl, ?_⟩) hHeld ?_
            rotate_left
            · intro X hSX
              go_simp
              first | done | with_reducible rfl
            simp only [Act.put, List.setIfInBounds_toArray, List.set_cons_zero, List.set_cons_succ]
            refine wpAnyH_take (i := 4) (oi := { dst := some 52, op := Op.binOp BinOp.add 3 (Operand.tmp 49) (Operand.tmp 51) 3, type := 3, pos := "text.go:32", after := #[{ on := 1, ground := Ground.data }, { on := 3, ground := Ground.data }], guard := none }) (v := ?_) rfl (by kernel_rfl) (by kernel_rfl) (by kernel_rfl) (fun _ _ _ h => h) (Or.inl ⟨by rfl, ?_⟩) hHeld ?_
            rotate_left
            · intro X hSX
              go_simp
              first | done | with_reducible rfl
            simp only [Act.put, List.setIfInBounds_toArray, List.set_cons_zero, List.set_cons_succ]
            refine wpAnyH_take (i := 5) (oi := { dst := some 53, op := Op.load 65 (Operand.tmp 5), type := 65, pos := "text.go:32", after := #[], guard := none }) (v := ?_) rfl (by kernel_rfl) (by kernel_rfl) (by kernel_rfl) (fun _ _ _ h => h) (Or.inl ⟨by rfl, ?_⟩) hHeld ?_
            rotate_left
            · intro X hSX
              go_simp
              first | done | with_reducible rfl
            simp only [Act.put, List.setIfInBounds_toArray, List.set_cons_zero, List.set_cons_succ]
            refine wpAnyH_take (i := 6) (oi := { dst := some 54, op := Op.move (Operand.tmp 8), type := 3, pos := "text.go:32", after := #[], guard := none }) (v := ?_) rfl (by kernel_rfl) (by kernel_rfl) (by kernel_rfl) (fun _ _ _ h => h) (Or.inl ⟨by rfl, ?_⟩) hHeld ?_
            rotate_left
            · intro X hSX
              go_simp
              first | done | with_reducible rfl
            simp only [Act.put, List.setIfInBounds_toArray, List.set_cons_zero, List.set_cons_succ]
            refine wpAnyH_take (i := 7) (oi := { dst := some 55, op := Op.indexAddr 65 (Operand.tmp 53) (Operand.tmp 54), type := 0, pos := "text.go:32", after := #[{ on := 5, ground := Ground.data }, { on := 6, ground := Ground.data }], guard := none }) (v := ?_) rfl (by kernel_rfl) (by kernel_rfl) (by kernel_rfl) (fun _ _ _ h => h) (Or.inl ⟨by rfl, ?_⟩) hHeld ?_
            rotate_left
            · intro X hSX
              go_simp
              first | done | with_reducible rfl
            simp only [Act.put, List.setIfInBounds_toArray, List.set_cons_zero, List.set_cons_succ]
            refine wpAnyH_take (i := 8) (oi := { dst := some 56, op := Op.load 77 (Operand.tmp 55), type := 77, pos := "text.go:32", after := #[{ on := 7, ground := Ground.data }], guard := none }) (v := ?_) rfl (by kernel_rfl) (by kernel_rfl) (by kernel_rfl) (fun _ _ _ h => h) (Or.inl ⟨by rfl, ?_⟩) hHeld ?_
            rotate_left
            · intro X hSX
              go_simp
              first | done | with_reducible rfl
            simp only [Act.put, List.setIfInBounds_toArray, List.set_cons_zero, List.set_cons_succ]
            refine wpAnyH_take (i := 9) (oi := { dst := some 57, op := Op.fieldAddr 83 (Operand.tmp 13) 1, type := 0, pos := "text.go:32", after := #[], guard := none }) (v := ?_) rfl (by kernel_rfl) (by kernel_rfl) (by kernel_rfl) (fun _ _ _ h => h) (Or.inl ⟨by rfl, ?_⟩) hHeld ?_
            rotate_left
            · intro X hSX
              go_simp
              first | done | with_reducible rfl
            simp only [Act.put, List.setIfInBounds_toArray, List.set_cons_zero, List.set_cons_succ]
            refine wpAnyH_take (i := 10) (oi := { dst := some 58, op := Op.load 3 (Operand.tmp 57), type := 3, pos := "text.go:32", after := #[{ on := 9, ground := Ground.data }], guard := none }) (v := ?_) rfl (by kernel_rfl) (by kernel_rfl) (by kernel_rfl) (fun _ _ _ h => h) (Or.inl ⟨by rfl, ?_⟩) hHeld ?_
            rotate_left
            · intro X hSX
              go_simp
              first | done | with_reducible rfl
            simp only [Act.put, List.setIfInBounds_toArray, List.set_cons_zero, List.set_cons_succ]
            refine wpAnyH_take (i := 11) (oi := { dst := some 59, op := Op.indexAddr 77 (Operand.tmp 56) (Operand.tmp 58), type := 0, pos := "text.go:32", after := #[{ on := 8, ground := Ground.data }, { on := 10, ground := Ground.data }], guard := none }) (v := ?_) rfl (by kernel_rfl) (by kernel_rfl) (by kernel_rfl) (fun _ _ _ h => h) (Or.inl ⟨by rfl, ?_⟩) hHeld ?_
            rotate_left
            · intro X hSX
              go_simp
              first | done | with_reducible rfl
            simp only [Act.put, List.setIfInBounds_toArray, List.set_cons_zero, List.set_cons_succ]
            refine wpAnyH_take (i := 12) (oi := { dst := some 60, op := Op.load 69 (Operand.tmp 59), type := 69, pos := "text.go:32", after := #[{ on := 11, ground := Ground.data }], guard := none }) (v := ?_) rfl (by kernel_rfl) (by kernel_rfl) (by kernel_rfl) (fun _ _ _ h => h) (Or.inl ⟨by rfl, ?_⟩) hHeld ?_
            rotate_left
            · intro X hSX
              go_simp
              first | done | with_reducible rfl
            simp only [Act.put, List.setIfInBounds_toArray, List.set_cons_zero, List.set_cons_succ]
            refine wpAnyH_take (i := 13) (oi := { dst := some 61, op := Op.load 33 (Operand.tmp 4), type := 33, pos := "text.go:32", after := #[], guard := none }) (v := ?_) rfl (by kernel_rfl) (by kernel_rfl) (by kernel_rfl) (fun _ _ _ h => h) (Or.inl ⟨by rfl, ?_⟩) hHeld ?_
            rotate_left
            · intro X hSX
              go_simp
              first | done | with_reducible rfl
            simp only [Act.put, List.setIfInBounds_toArray, List.set_cons_zero, List.set_cons_succ]
            have hbd : Below W5.heap.size W5 W5.drew := ⟨rfl, rfl, rfl, Nat.le_refl _, fun _ _ => rfl⟩
            have HPd : Hid (JoinP l (some a) ca B cB (some aD) cD q w W0.heap.size k g c W.heap.size W (relF l k r) W5.drew) := HP5.out.below hbd HP5.out.low.size
            have C14 := placeOf_any l x y B cB W5.drew (HBs.out.keep (lb_trans hbw hbd)) hx hsx ⟨hy0, by omega⟩
            have hgd : wr.heap.size < W5.drew.heap.size := by have := zcell_lt hHeld.2.1; exact this
            generalize W5.drew = X5 at hHeld hbd HPd C14 hgd ⊢
            refine wpAnyH_ready (rs := [14]) (by kernel_rfl) (by simp) (AllReadyH.cons (o := { dst := some 62, op := Op.call { callee := Callee.value (Operand.func 40), args := #[Operand.tmp 60, Operand.tmp 61], argTypes := #[69, 33] }, type := 3, pos := "text.go:32", after := #[{ on := 12, ground := Ground.data }, { on := 13, ground := Ground.data }], guard := none }) rfl (fun K hK => ?_) AllReadyH.nil)
            go_simp
            refine C14.mono ?_
            rintro e X6 ⟨rfl, hb6⟩
            try simp only []
            refine hK.out _ _ ⟨lkeep hb6 hHeld.1, lkeep hb6 hHeld.2.1, lkeep hb6 hHeld.2.2.1, lkeep hb6 hHeld.2.2.2.1, lkeep hb6 hHeld.2.2.2.2.1, lkeep hb6 hHeld.2.2.2.2.2.1, lkeep hb6 hHeld.2.2.2.2.2.2.1, lkeep hb6 hHeld.2.2.2.2.2.2.2⟩ (fun hHeld2 => ?_)
            clear hK K C14
            try simp only [Act.put, List.setIfInBounds_toArray, List.set_cons_zero, List.set_cons_succ]
            have HP6 : Hid (JoinP l (some a) ca B cB (some aD) cD q w W0.heap.size k g c W.heap.size W (relF l k r) X6) := HPd.out.below hb6 HPd.out.low.size
            have hai : atR (ob l k).rs (i : Int) = r := by rw [← HIi.out]; exact may_at (HR.out.may k hk) r hrl2
            have hrf : relF l k r i = movV (nth (ob l k).code i) (bsF l k) := by unfold relF; rw [if_neg (by omega)]
            obtain ⟨z1, z2⟩ := HP6.out.cell hil
            rw [HPp.out, hrf] at z1
            rw [HPp.out] at z2
            obtain ⟨v0, v1⟩ := (HA.out.each k hk).cr i hil
            obtain ⟨m0, m1⟩ := movV_range (b := bsF l k) v0 v1
            have C15 := patch_aim g (bsF l (k + 1)) c p ((bsF l x : Int) + y) (movV (nth (ob l k).code i) (bsF l k)) m0 m1 X6 hpn hsf1 z1 z2
            have HW : Hid (aimV (movV (nth (ob l k).code i) (bsF l k)) ((bsF l x : Int) + y) = wordF l k i) := by
              have := rel_word HR.out HF.out hk hrl2 (by rw [HSy.out]; simpa using HE.out) hx hy0 hy1
              rw [HIi.out] at this
              rw [Hid]
              simpa using this
            refine wpAnyH_ready (rs := [15]) (by kernel_rfl) (by simp) (AllReadyH.cons (o := { dst := some 63, op := Op.call { callee := Callee.value (Operand.func 93), args := #[Operand.tmp 48, Operand.tmp 52, Operand.func 95, Operand.tmp 62], argTypes := #[168, 3, 254, 3] }, type := 0, pos := "text.go:32", after := #[{ on := 0, ground := Ground.data }, { on := 4, ground := Ground.data }, { on := 14, ground := Ground.data }, { on := 14, ground := Ground.chain }], guard := none }) rfl (fun K hK => ?_) AllReadyH.nil)
            go_simp
            refine C15.mono ?_
            rintro e X7 ⟨rfl, X8, hb8, rfl⟩
            try simp only []
            refine hK.out _ _ ⟨cell_set_ne (lkeep hb8 hHeld2.1) ne3, cell_set_ne (lkeep hb8 hHeld2.2.1) (Nat.ne_of_gt hgl), cell_set_ne (lkeep hb8 hHeld2.2.2.1) (Nat.ne_of_gt hgl), cell_set_ne (lkeep hb8 hHeld2.2.2.2.1) ne2, cell_set_ne (lkeep hb8 hHeld2.2.2.2.2.1) neD, cell_set_ne (lkeep hb8 hHeld2.2.2.2.2.2.1) neE, cell_set_ne (lkeep hb8 hHeld2.2.2.2.2.2.2.1) neE, cell_set_ne (lkeep hb8 hHeld2.2.2.2.2.2.2.2) ne1⟩ (fun _ => ?_)
            clear hK K C15
            have HP7 : Hid (JoinP l (some a) ca B cB (some aD) cD q w W0.heap.size k g c W.heap.size W (relF l k (r + 1)) (X8.setCell ⟨g, p, none⟩ (.int .u32 (aimV (movV (nth (ob l k).code i) (bsF l k)) ((bsF l x : Int) + y))))) := by
              rw [Hid, HW.out]
              exact (HP6.out.below hb8 HP6.out.low.size).patch hpn (by rw [← HPp.out]; exact rowL_rel hil hai)
            try simp only [Act.put, List.setIfInBounds_toArray, List.set_cons_zero, List.set_cons_succ]
            refine wpAnyH_done (by kernel_rfl) ?_ _
            clear hHeld hHeld2 z1 z2 hb6 hb8 hS5
            gi_wp2
            go_roundw
            case rel => exact ⟨r + 1, by go_num, by omega, HP7⟩
            case measure => simp [intOf]; omega
          · have hrl' : ¬ (r : Int) < ((ob l k).rs.length : Int) := by omega
            obtain rfl : r = (ob l k).rs.length := by omega
            have HI2 : Hid (JoinI l (some a) ca B cB D cD w (k + 1) wr) := ⟨HP.out.b0, HP.out.b1, HP.out.b2, ⟨_, _, HP.out.b3, by rw [← rowL_end]; exact HP.out.row⟩, HP.out.low⟩
            have HKp : Hid (Kept w.heap.size W0.heap.size W wr) := HP.out.kept
            clear HP
            gi_wp2
            exact ⟨HKp.out, HI2.out⟩

end Go.Proofs.YthpkekpojhmaaaaGreatDoor

namespace Go.Proofs.YthpkekpojhmaaaaGreatDoor
open Go.RowKit

/-- Blocks of places, between two numbers, may have been written over. -/
structure Mk (TD : TypeId) (s1 s2 : Nat) (w0 w : World) : Prop where
  os : w.os = w0.os
  tape : w.tape = w0.tape
  output : w.output = w0.output
  size : w.heap.size = w0.heap.size
  block : ∀ b : Nat, ¬ (s1 ≤ b ∧ b < s2) → w.heap[b]? = w0.heap[b]?
  typ : ∀ (b : Nat) (cur0 : Array Value) (t : TypeId), w0.heap[b]? = some (.cells cur0 t (0, 0)) → ∃ cur : Array Value, w.heap[b]? = some (.cells cur t (0, 0)) ∧ cur.size = cur0.size ∧ (t ≠ TD → cur = cur0)
theorem Mk.refl (TD : TypeId) (s1 s2 : Nat) (w : World) : Mk TD s1 s2 w w := ⟨rfl, rfl, rfl, rfl, fun _ _ => rfl, fun _ cur _ h => ⟨cur, h, rfl, fun _ => rfl⟩⟩
theorem set_rowM {w : World} {g k : Nat} {cur : Array Value} {t : TypeId} (h : w.heap[g]? = some (.cells cur t (0, 0))) (u : Value) : (w.setCell ⟨g, k, none⟩ u).heap[g]? = some (.cells (cur.setIfInBounds k u) t (0, 0)) := by
  simp [World.setCell, Array.getElem?_modify, h]
theorem Mk.set {TD : TypeId} {s1 s2 : Nat} {w0 w : World} (h : Mk TD s1 s2 w0 w) {g p : Nat} {cur : Array Value} (hg : w.heap[g]? = some (.cells cur TD (0, 0))) (h1 : s1 ≤ g) (h2 : g < s2) (u : Value) : Mk TD s1 s2 w0 (w.setCell ⟨g, p, none⟩ u) := by
  have hoff : ∀ b : Nat, b ≠ g → (w.setCell ⟨g, p, none⟩ u).heap[b]? = w.heap[b]? := fun b hb => Below.heap_setCell _ _ _ _ (fun e => hb (by first | exact e | exact e.symm))
  refine ⟨h.os, h.tape, h.output, by rw [← h.size]; simp [World.setCell], fun b hb => ?_, fun b cur0 t h0 => ?_⟩
  · rw [hoff b (fun e => hb (by rw [e]; exact ⟨h1, h2⟩))]
    exact h.block b hb
  · obtain ⟨c, hc, hs, ht⟩ := h.typ b cur0 t h0
    by_cases he : b = g
    · subst he
      rw [hg] at hc
      simp only [Option.some.injEq, Obj.cells.injEq] at hc
      obtain ⟨rfl, rfl, _⟩ := hc
      exact ⟨_, set_rowM hg u, by rw [Array.size_setIfInBounds]; exact hs, fun hn => absurd rfl hn⟩
    · exact ⟨c, by rw [hoff b he]; exact hc, hs, ht⟩
theorem Mk.below {TD : TypeId} {s1 s2 n : Nat} {W w0 w : World} (h : Mk TD s1 s2 w0 w) (hb : Below n W w0) (hn : n ≤ s1) : Below n W w :=
  ⟨by rw [h.os]; exact hb.os, by rw [h.tape]; exact hb.tape, by rw [h.output]; exact hb.output, by rw [h.size]; exact hb.size, fun k hk => by rw [h.block k (by omega)]; exact hb.block k hk⟩
theorem Mk.own {TD : TypeId} {s1 s2 base n size : Nat} {e : TypeId} {v : Value} {xs : List Value} {w0 w : World} (h : Mk TD s1 s2 w0 w) (ho : w0.ownsRow base e size v n xs) (hs : s2 ≤ base) : w.ownsRow base e size v n xs := by
  refine ⟨ho.1, ?_⟩
  rcases ho.2 with hn | ⟨g, cap, cur, hv, hb, hg, rest⟩
  · exact .inl hn
  · exact .inr ⟨g, cap, cur, hv, hb, by rw [h.block g (by omega)]; exact hg, rest⟩
theorem Mk.rows {TD : TypeId} {s1 s2 base : Nat} {TS TE : TypeId} {V : Value} {vs : List Value} {rows : List (List Rel)} {w0 w : World} (h : Mk TD s1 s2 w0 w) (ho : RowsD w0 base TS TE V vs rows) (hs : s2 ≤ base) : RowsD w base TS TE V vs rows := ⟨h.own ho.bag hs, fun i hi => h.own (ho.row i hi) hs⟩
theorem RowsD.all {w : World} {base c : Nat} {TS TD : TypeId} {A : Option Addr} {n : Nat} {vs : List Value} {rows : List (List Rel)} (h : RowsD w base TS TD (.slice A n c) vs rows) : RowsAt w A rows := fun i hi => h.at i hi
/-- What a loop that writes over an answer meets. -/
theorem Mk.bag {TS TD : TypeId} {s1 s2 base c n : Nat} {A : Option Addr} {vs : List Value} {rows : List (List Rel)} {w0 w : World} (h : Mk TD s1 s2 w0 w) (ho : RowsD w0 base TS TD (.slice A n c) vs rows) (hT : TS ≠ TD) (i : Nat) (hi : i < rows.length) : ∃ g, A = some ⟨g, 0, none⟩ ∧ w.cell? ⟨g, i, none⟩ = some (vn vs i) := by
  obtain ⟨g, e, _, _, hc, cur, hg⟩ := ho.blk i hi
  obtain ⟨c2, h2, _, h3⟩ := h.typ g cur TS hg
  refine ⟨g, e, ?_⟩
  rw [h3 hT] at h2
  rw [← hc]
  simp [World.cell?, h2, hg]
theorem Mk.row {TS TD : TypeId} {s1 s2 : Nat} {V : Value} {vs : List Value} {rows : List (List Rel)} {w0 w w3 : World} (h : Mk TD s1 s2 w0 w) (ho : RowsD w3 s1 TS TD V vs rows) (hs : w3.heap.size = s2) (hk : Below w3.heap.size w3 w0) (i : Nat) (hi : i < rows.length) (hp : 0 < (rowN rows i).length) : ∃ g c cur, vn vs i = .slice (some ⟨g, 0, none⟩) (rowN rows i).length c ∧ s1 ≤ g ∧ g < s2 ∧ w.heap[g]? = some (.cells cur TD (0, 0)) ∧ (rowN rows i).length * 2 ≤ cur.size := by
  obtain ⟨g, c, cur, e, hb, hg, hz, _⟩ := drow_blk (ho.row i hi) hp
  have hlt : g < w3.heap.size := (Array.getElem?_eq_some_iff.1 hg).1
  obtain ⟨c2, h2, h3, _⟩ := h.typ g cur TD (by rw [hk.block g hlt]; exact hg)
  exact ⟨g, c, c2, e, hb, by omega, h2, by omega⟩
theorem cell_at {w : World} {g p : Nat} {cur : Array Value} {t : TypeId} (h : w.heap[g]? = some (.cells cur t (0, 0))) (hp : p < cur.size) : ∃ u, w.cell? ⟨g, p, none⟩ = some u ∧ w.frozen? ⟨g, p, none⟩ = false := by
  exact ⟨cur[p], by simp [World.cell?, h, hp], by simp [World.frozen?, h]⟩
/-- Few and short: an answer. -/
theorem few_res {w : World} {A : Option Addr} {q : Nat → Pl} {l : List Ob} (h : ObsIn w A q l) : FewR (resL l) := by
  unfold resL
  split
  · exact ⟨by simp, fun i hi => by simp at hi⟩
  · refine ⟨by rw [rowsT_len]; exact h.few, fun i hi => ?_⟩
    rw [rowsT_len] at hi
    rw [rowsT_at l hi, rowT_len]
    exact (h.each i hi).hs



end Go.Proofs.YthpkekpojhmaaaaGreatDoor

namespace Go.Proofs.YthpkekpojhmaaaaGreatDoor
open Go.RowKit

theorem fst_congr {β : Type} {f g : Nat → Option β} : ∀ {n : Nat}, (∀ j, j < n → f j = g j) → fstN f n = fstN g n
  | 0, _ => rfl
  | n + 1, h => by rw [fstN, fstN, fst_congr (fun j hj => h j (by omega)), h n (by omega)]
theorem rowF_succ (nm : ByteArray) (kd : Int) (ss : List Sym) (n : Nat) : rowF nm kd ss (n + 1) = match rowF nm kd ss n with
    | some a => some a
    | none => hitS nm kd ss n := by unfold rowF; rw [fstN]; cases fstN (hitS nm kd ss) n <;> rfl
theorem hitO_other (nm : ByteArray) (kd : Int) (l : List Ob) {o s o' s' i : Nat} (h : upTo l o s i = upTo l o' s' i) : hitO nm kd l o s i = hitO nm kd l o' s' i := by unfold hitO; rw [h]
/-- One symbol more. -/
theorem firstF_step (nm : ByteArray) (kd : Int) (l : List Ob) {i k : Nat} (hi : i < l.length) (hk : k < (ob l i).ss.length) : firstF nm kd l i (k + 1) = match firstF nm kd l i k with
    | some x => some x
    | none => (hitS nm kd (ob l i).ss k).map fun a => (i, a) := by
  unfold firstF
  rw [show min l.length (i + 1) = i + 1 by omega, fstN, fstN]
  rw [fst_congr (f := hitO nm kd l i (k + 1)) (g := hitO nm kd l i k) (fun j hj => hitO_other _ _ _ (by unfold upTo; rw [if_neg (by omega), if_neg (by omega)]))]
  cases fstN (hitO nm kd l i k) i with
  | some b => rfl
  | none =>
    show hitO nm kd l i (k + 1) i = match hitO nm kd l i k i with
      | some x => some x
      | none => _
    unfold hitO
    rw [show upTo l i (k + 1) i = k + 1 by unfold upTo; rw [if_pos rfl]; omega, show upTo l i k i = k by unfold upTo; rw [if_pos rfl]; omega, rowF_succ]
    cases rowF nm kd (ob l i).ss k <;> rfl
/-- The next object. -/
theorem firstF_next (nm : ByteArray) (kd : Int) (l : List Ob) {i : Nat} (hi : i < l.length) : firstF nm kd l (i + 1) 0 = firstF nm kd l i (ob l i).ss.length := by
  unfold firstF
  rw [show min l.length (i + 1) = i + 1 by omega]
  have key : fstN (hitO nm kd l (i + 1) 0) (i + 1) = fstN (hitO nm kd l i (ob l i).ss.length) (i + 1) := fst_congr (fun j hj => hitO_other _ _ _ (by
    unfold upTo
    rw [if_neg (by omega)]
    split
    · next h => subst h; omega
    · rfl))
  by_cases h : i + 1 < l.length
  · rw [show min l.length (i + 1 + 1) = i + 1 + 1 by omega, fstN, key]
    cases fstN (hitO nm kd l i (ob l i).ss.length) (i + 1) with
    | some b => rfl
    | none =>
      show hitO nm kd l (i + 1) 0 (i + 1) = none
      unfold hitO
      rw [show upTo l (i + 1) 0 (i + 1) = 0 by unfold upTo; rw [if_pos rfl]; omega]
      rfl
  · rw [show min l.length (i + 1 + 1) = i + 1 by omega, key]
theorem firstF_zero (nm : ByteArray) (kd : Int) (l : List Ob) : firstF nm kd l 0 0 = none := by
  unfold firstF
  refine fst_none fun j hj => ?_
  obtain rfl : j = 0 := by omega
  unfold hitO
  rw [show upTo l 0 0 0 = 0 by unfold upTo; rw [if_pos rfl]; omega]
  rfl
/-- What a name stands for below a place, and the kind of the symbol that says so. -/
def seenF (nm : ByteArray) (l : List Ob) (o s : Nat) : Option ((Nat × Int) × Int) := match firstF nm 1 l o s with
  | some x => some (x, 1)
  | none => (firstF nm 2 l o s).map fun x => (x, 2)
def mI : Option ((Nat × Int) × Int) → Nat
  | some x => x.1.1
  | none => 0
def mA : Option ((Nat × Int) × Int) → Int
  | some x => x.1.2
  | none => 0
def mK : Option ((Nat × Int) × Int) → Int
  | some x => x.2
  | none => 0
theorem seen_zero (nm : ByteArray) (l : List Ob) : seenF nm l 0 0 = none := by
  unfold seenF
  rw [firstF_zero, firstF_zero]
  rfl
theorem seen_next (nm : ByteArray) (l : List Ob) {i : Nat} (hi : i < l.length) : seenF nm l (i + 1) 0 = seenF nm l i (ob l i).ss.length := by
  unfold seenF
  rw [firstF_next _ _ _ hi, firstF_next _ _ _ hi]
theorem seen_kind (nm : ByteArray) (l : List Ob) (o s : Nat) : (mK (seenF nm l o s) == 1) = (firstF nm 1 l o s).isSome := by
  unfold seenF
  cases firstF nm 1 l o s with
  | some x => rfl
  | none => cases firstF nm 2 l o s <;> rfl
theorem seen_find (nm : ByteArray) (l : List Ob) : (seenF nm l l.length 0).isSome = (findF nm l).isSome ∧ mI (seenF nm l l.length 0) = dfI (findF nm l) ∧ mA (seenF nm l l.length 0) = dfA (findF nm l) := by
  unfold seenF findF
  cases firstF nm 1 l l.length 0 with
  | some x => exact ⟨rfl, rfl, rfl⟩
  | none => cases firstF nm 2 l l.length 0 <;> exact ⟨rfl, rfl, rfl⟩
/-- A symbol of another name. -/
theorem seen_other {nm : ByteArray} {l : List Ob} {i k : Nat} (hi : i < l.length) (hk : k < (ob l i).ss.length) (h : ((sName (ob l i).ss k).toList == nm.toList) = false) : seenF nm l i (k + 1) = seenF nm l i k := by
  unfold seenF
  rw [firstF_step nm 1 l hi hk, firstF_step nm 2 l hi hk, hitS_no (kd := 1) (Or.inl h), hitS_no (kd := 2) (Or.inl h)]
  cases firstF nm 1 l i k with
  | some x => rfl
  | none => cases firstF nm 2 l i k <;> rfl
/-- What is kept, once a symbol was met. -/
def learnV (v : Option ((Nat × Int) × Int)) (i : Nat) (at_ kd : Int) : Option ((Nat × Int) × Int) := if (kd == 1) = true ∨ (kd == 2) = true ∧ v.isSome = false then some ((i, at_), kd) else v
theorem seen_same {nm : ByteArray} {l : List Ob} {i k : Nat} (hi : i < l.length) (hk : k < (ob l i).ss.length) (h : ((sName (ob l i).ss k).toList == nm.toList) = true) (hg : (sKind (ob l i).ss k == 1) = true → (firstF nm 1 l i k).isSome = false) : seenF nm l i (k + 1) = learnV (seenF nm l i k) i (sAt (ob l i).ss k) (sKind (ob l i).ss k) := by
  unfold seenF learnV
  rw [firstF_step nm 1 l hi hk, firstF_step nm 2 l hi hk]
  cases h1 : (sKind (ob l i).ss k == 1) with
  | true =>
    have := hg h1
    rw [hitS_yes h h1]
    cases hf : firstF nm 1 l i k with
    | some x => rw [hf] at this; cases this
    | none =>
      rw [if_pos (Or.inl rfl)]
      have e : sKind (ob l i).ss k = 1 := by simpa using h1
      rw [e]
      rfl
  | false =>
    rw [hitS_no (kd := 1) (Or.inr h1)]
    cases hf : firstF nm 1 l i k with
    | some x =>
      rw [if_neg (by simp)]
    | none =>
      cases h2 : (sKind (ob l i).ss k == 2) with
      | true =>
        rw [hitS_yes h h2]
        have e : sKind (ob l i).ss k = 2 := by simpa using h2
        cases hf2 : firstF nm 2 l i k with
        | some x => rw [if_neg (by simp)]; rfl
        | none => rw [if_pos (by simp), e]; rfl
      | false =>
        rw [hitS_no (kd := 2) (Or.inr h2), if_neg (by simp)]
        cases hf2 : firstF nm 2 l i k <;> rfl
/-- A map's meaning with one name's turned. -/
def putF (f : ByteArray → Option ((Nat × Int) × Int)) (s : ByteArray) (v : Option ((Nat × Int) × Int)) (x : ByteArray) : Option ((Nat × Int) × Int) := if (s.toList == x.toList) = true then v else f x
theorem bytes_eq {a b : ByteArray} (h : (a.toList == b.toList) = true) : a = b := by
  have h : a.toList = b.toList := by simpa using h
  rw [ByteArray.toList_eq, ByteArray.toList_eq] at h
  cases a; cases b; simp at h; congr
/-- All names, one symbol more. -/
theorem seen_put {l : List Ob} {i k : Nat} {f : ByteArray → Option ((Nat × Int) × Int)} (hi : i < l.length) (hk : k < (ob l i).ss.length) (hf : ∀ x, f x = seenF x l i k) (ht : twS l i k = none) (x : ByteArray) : putF f (sName (ob l i).ss k) (learnV (f (sName (ob l i).ss k)) i (sAt (ob l i).ss k) (sKind (ob l i).ss k)) x = seenF x l i (k + 1) := by
  unfold putF
  cases hx : ((sName (ob l i).ss k).toList == x.toList) with
  | false =>
    rw [if_neg (by simp), seen_other hi hk hx]
    exact hf x
  | true =>
    rw [if_pos rfl]
    have e := bytes_eq hx
    rw [seen_same hi hk hx, hf, e]
    intro hg
    unfold twS at ht
    split at ht
    · cases ht
    · next hn =>
      cases hs : (firstF x 1 l i k).isSome with
      | false => rfl
      | true => rw [e] at hn; exact absurd ⟨hg, hs⟩ hn
theorem learn_no {v : Option ((Nat × Int) × Int)} {i : Nat} {a kd : Int} (h1 : (kd == 1) = false) (h2 : (kd == 2) = false ∨ v.isSome = true) : learnV v i a kd = v := by
  unfold learnV
  rw [if_neg]
  rintro (h | ⟨h, h'⟩)
  · rw [h1] at h; cases h
  · rcases h2 with h2 | h2
    · rw [h2] at h; cases h
    · rw [h2] at h'; cases h'
theorem learn_yes {v : Option ((Nat × Int) × Int)} {i : Nat} {a kd : Int} (h : (kd == 1) = true ∨ (kd == 2) = true ∧ v.isSome = false) : learnV v i a kd = some ((i, a), kd) := by
  unfold learnV
  rw [if_pos h]
theorem putF_same (f : ByteArray → Option ((Nat × Int) × Int)) (s x : ByteArray) : putF f s (f s) x = f x := by
  unfold putF
  split
  · next h => rw [bytes_eq h]
  · rfl
/-- What was found stays found. -/
theorem firstF_row {nm : ByteArray} {kd : Int} {l : List Ob} {i j : Nat} {x : Nat × Int} (hi : i < l.length) (h : firstF nm kd l i j = some x) : ∀ d, j + d ≤ (ob l i).ss.length → firstF nm kd l i (j + d) = some x
  | 0, _ => h
  | d + 1, hd => by rw [show j + (d + 1) = j + d + 1 by omega, firstF_step nm kd l hi (by omega), firstF_row hi h d (by omega)]
theorem firstF_objs {nm : ByteArray} {kd : Int} {l : List Ob} {i : Nat} {x : Nat × Int} (h : firstF nm kd l i 0 = some x) : ∀ d, i + d ≤ l.length → firstF nm kd l (i + d) 0 = some x
  | 0, _ => h
  | d + 1, hd => by
    rw [show i + (d + 1) = i + d + 1 by omega, firstF_next nm kd l (by omega)]
    have := firstF_row (by omega) (firstF_objs h d (by omega)) (ob l (i + d)).ss.length (by omega)
    rwa [Nat.zero_add] at this
theorem firstF_full {nm : ByteArray} {kd : Int} {l : List Ob} {i j : Nat} {x : Nat × Int} (hi : i < l.length) (hj : j ≤ (ob l i).ss.length) (h : firstF nm kd l i j = some x) : firstF nm kd l l.length 0 = some x := by
  have a := firstF_row hi h ((ob l i).ss.length - j) (by omega)
  rw [show j + ((ob l i).ss.length - j) = (ob l i).ss.length by omega, ← firstF_next nm kd l hi] at a
  have b := firstF_objs a (l.length - (i + 1)) (by omega)
  rwa [show i + 1 + (l.length - (i + 1)) = l.length by omega] at b
theorem firstF_same {nm : ByteArray} {kd : Int} {l : List Ob} {i k : Nat} (hi : i < l.length) (hk : k < (ob l i).ss.length) (h : hitS nm kd (ob l i).ss k = none) (h0 : firstF nm kd l i k = none) : firstF nm kd l i (k + 1) = none := by
  rw [firstF_step nm kd l hi hk, h0, h]
  rfl
/-- Find's own state. -/
theorem find_put {nm : ByteArray} {l : List Ob} {i k : Nat} {f : ByteArray → Option ((Nat × Int) × Int)} (hi : i < l.length) (hk : k < (ob l i).ss.length) (hn : ((sName (ob l i).ss k).toList == nm.toList) = true) (hf : f nm = seenF nm l i k) (h1 : firstF nm 1 l i k = none) : putF f (sName (ob l i).ss k) (learnV (f (sName (ob l i).ss k)) i (sAt (ob l i).ss k) (sKind (ob l i).ss k)) nm = seenF nm l i (k + 1) := by
  unfold putF
  rw [if_pos hn, bytes_eq hn, hf, seen_same hi hk hn (fun _ => by rw [h1]; rfl)]
theorem find_hit {nm : ByteArray} {l : List Ob} {i k : Nat} (hi : i < l.length) (hk : k < (ob l i).ss.length) (hn : ((sName (ob l i).ss k).toList == nm.toList) = true) (h1 : firstF nm 1 l i k = none) (hg : (sKind (ob l i).ss k == 1) = true) : firstF nm 1 l i (k + 1) = some (i, sAt (ob l i).ss k) := by
  rw [firstF_step nm 1 l hi hk, h1, hitS_yes hn hg]
  rfl
/-- What the map tells is what the name stands for. -/
def Tells (v : Option ((Nat × Int) × Int)) (x : Option (Nat × Int)) : Prop := v.isSome = x.isSome ∧ mI v = dfI x ∧ mA v = dfA x
theorem tells_hit {nm : ByteArray} {l : List Ob} {i k : Nat} (hi : i < l.length) (hk : k < (ob l i).ss.length) (hn : ((sName (ob l i).ss k).toList == nm.toList) = true) (h1 : firstF nm 1 l i k = none) (hg : (sKind (ob l i).ss k == 1) = true) : Tells (seenF nm l i (k + 1)) (findF nm l) := by
  have a := find_hit hi hk hn h1 hg
  have b := firstF_full hi (by omega) a
  unfold seenF findF
  rw [a, b]
  exact ⟨rfl, rfl, rfl⟩
theorem tells_full (nm : ByteArray) (l : List Ob) : Tells (seenF nm l l.length 0) (findF nm l) := seen_find nm l


end Go.Proofs.YthpkekpojhmaaaaGreatDoor

namespace Go.Proofs.YthpkekpojhmaaaaGreatDoor
open Go.RowKit

open Go.Maps Go.WideMaps
/-- How a meaning reads. -/
def meanElem (v : Value) : Option (DataW Unit × List MemPlace) := match v with
  | .agg xs => match xs.toList with
    | [.int .i64 a, .int .i64 b, .int .i8 k] => some (.agg [.lit (.int .i64 a), .lit (.int .i64 b), .lit (.int .i8 k)], [])
    | _ => none
  | _ => none
theorem mean_inv {v : Value} {z : DataW Unit × List MemPlace} (h : meanElem v = some z) : ∃ a b k : Int, v = .agg #[.int .i64 a, .int .i64 b, .int .i8 k] ∧ z = (.agg [.lit (.int .i64 a), .lit (.int .i64 b), .lit (.int .i8 k)], []) := by
  unfold meanElem at h
  split at h
  · next xs =>
    split at h
    · next a b k e1 =>
      cases h
      refine ⟨a, b, k, ?_, rfl⟩
      have x1 : xs = #[.int .i64 a, .int .i64 b, .int .i8 k] := Array.ext' (by rw [e1])
      rw [x1]
    · cases h
  · cases h
def mVal (v : Option ((Nat × Int) × Int)) : Value := .agg #[.int .i64 (mI v), .int .i64 (mA v), .int .i8 (mK v)]
def mDat (v : Option ((Nat × Int) × Int)) : DataW Unit := .agg [.lit (.int .i64 (mI v)), .lit (.int .i64 (mA v)), .lit (.int .i8 (mK v))]
theorem mean_val (v : Option ((Nat × Int) × Int)) : meanElem (mVal v) = some (mDat v, []) := rfl
theorem mean_of {u : Value} {v : Option ((Nat × Int) × Int)} {ps : List MemPlace} (h : meanElem u = some (mDat v, ps)) : u = mVal v := by
  obtain ⟨a, b, k, rfl, e⟩ := mean_inv h
  unfold mDat at e
  injection e with e1 e2
  injection e1 with e1
  injection e1 with a1 e1
  injection e1 with b1 e1
  injection e1 with k1 e1
  injection a1 with a1; injection a1 with _ a1
  injection b1 with b1; injection b1 with _ b1
  injection k1 with k1; injection k1 with _ k1
  unfold mVal
  rw [a1, b1, k1]
theorem law9m : Keyed Tryz.prog 9 := string_keyed Tryz.underlying9
theorem zeroM (w : World) : (zeroValue 134).run Tryz.prog w = .ok (mVal none) w := by kernel_rfl
/-- A map of meanings, of at most n names. -/
def Knows (w : World) (b n : Nat) (f : ByteArray → Option ((Nat × Int) × Int)) : Prop := ∃ D : DataW Unit, w.ownsMap Tryz.prog 9 meanElem b n D ∧ ∀ s : ByteArray, Maps.has D (.string s.data.toList) = (f s).isSome ∧ D.atKey (.string s.data.toList) (mDat none) = mDat (f s)
theorem Knows.made (w : World) : Knows (w.alloc (.map #[] 0)) w.heap.size 0 (fun _ => none) := ⟨_, World.ownsMap_made w Tryz.prog 9 meanElem, fun _s => ⟨rfl, rfl⟩⟩
theorem Knows.lt {w : World} {b n : Nat} {f : ByteArray → Option ((Nat × Int) × Int)} (h : Knows w b n f) : b < w.heap.size := by
  obtain ⟨D, h, _⟩ := h
  exact h.lt
theorem Knows.below {w w1 : World} {B b n : Nat} {f : ByteArray → Option ((Nat × Int) × Int)} (h : Knows w b n f) (hb : Below B w w1) (hB : b < B) : Knows w1 b n f := by
  obtain ⟨D, ⟨es, clock, h1, h2⟩, h3⟩ := h
  exact ⟨D, ⟨es, clock, by rw [hb.block b hB]; exact h1, h2⟩, h3⟩
theorem Knows.keep {w w1 : World} {b n : Nat} {f : ByteArray → Option ((Nat × Int) × Int)} (h : Knows w b n f) (hb : Below w.heap.size w w1) : Knows w1 b n f := h.below hb h.lt
theorem Knows.fit {w : World} {b n : Nat} {f g : ByteArray → Option ((Nat × Int) × Int)} (h : Knows w b n f) (e : ∀ x, f x = g x) : Knows w b n g := by
  obtain ⟨D, h, h3⟩ := h
  exact ⟨D, h, fun s => by rw [← e s]; exact h3 s⟩
theorem Knows.more {w : World} {b n m : Nat} {f : ByteArray → Option ((Nat × Int) × Int)} (h : Knows w b n f) (hn : n ≤ m) : Knows w b m f := by
  obtain ⟨D, h, h3⟩ := h
  exact ⟨D, h.mono hn, h3⟩
theorem key9 {s : ByteArray} (hs : s.size ≤ 140737488355328) : keyOf Tryz.prog 9 (.string s) = some (.string s.data.toList) := keyOf_string_mk Tryz.underlying9 (by unfold maxLen; omega)
theorem Knows.look_ok {w : World} {b n : Nat} {f : ByteArray → Option ((Nat × Int) × Int)} (h : Knows w b n f) {s : ByteArray} (hs : s.size ≤ 140737488355328) : (Instr.lookup 121 (.map (some b)) (.string s) true).run Tryz.prog w = .ok (.tuple #[mVal (f s), .bool (f s).isSome]) w := by
  obtain ⟨D, h, h3⟩ := h
  obtain ⟨v, ps, hrun, hv⟩ := h.look_ok law9m Tryz.underlying121 (zeroM w) (mean_val none) (key9 hs)
  rw [(h3 s).2] at hv
  rw [hrun, mean_of hv, (h3 s).1]
theorem Knows.look {w : World} {b n : Nat} {f : ByteArray → Option ((Nat × Int) × Int)} (h : Knows w b n f) {s : ByteArray} (hs : s.size ≤ 140737488355328) : (Instr.lookup 121 (.map (some b)) (.string s) false).run Tryz.prog w = .ok (mVal (f s)) w := by
  obtain ⟨D, h, h3⟩ := h
  obtain ⟨v, ps, hrun, hv⟩ := h.lookup law9m Tryz.underlying121 (zeroM w) (mean_val none) (key9 hs)
  rw [(h3 s).2] at hv
  rw [hrun, mean_of hv]
theorem Knows.put {w : World} {b n : Nat} {f : ByteArray → Option ((Nat × Int) × Int)} (h : Knows w b n f) (hn : n < 1000000000000) {s : ByteArray} (hs : s.size ≤ 140737488355328) (x : (Nat × Int) × Int) : ∃ w', (Instr.mapUpdate 121 (.map (some b)) (.string s) (mVal (some x))).run Tryz.prog w = .ok () w' ∧ Knows w' b (n + 1) (putF f s (some x)) ∧ w.grownBy w' (some b) := by
  obtain ⟨D, h, h3⟩ := h
  obtain ⟨w', hrun, h1, hg⟩ := h.update law9m Tryz.underlying121 (by unfold maxLen; omega) (key9 hs) (mean_val (some x))
  refine ⟨w', hrun, ⟨_, h1, fun y => ?_⟩, hg⟩
  unfold putF
  cases hy : (s.toList == y.toList) with
  | true =>
    rw [bytes_eq hy, if_pos rfl]
    exact ⟨Maps.has_put_same h.isMap (by simp [WideAt.IsKeyLit]) _, Maps.atKey_put_same h.isMap (by simp [WideAt.IsKeyLit]) _ _⟩
  | false =>
    rw [if_neg (by simp)]
    have hne : (Lit.string y.data.toList) ≠ .string s.data.toList := fun e => by
      injection e with e
      have : y.toList = s.toList := by rw [ByteArray.toList_eq, ByteArray.toList_eq]; exact e
      rw [this] at hy
      simp at hy
    rw [Maps.has_put_other hne, Maps.atKey_put_other hne]
    exact h3 y
/-- The same at the operation. -/
theorem wpList_look_ok (w : World) {ops : Array Oper} {rest : List Oper} {o : Oper} {a : Act} {Q : Exit → Act → World → Prop} (hg : o.guard = none) (m x : Operand) (hop : o.op = Op.lookup 121 m x true)
    (b n : Nat) (f : ByteArray → Option ((Nat × Int) × Int)) (hk : Knows w b n f) (s : ByteArray) (hs : s.size ≤ 140737488355328) (hm : a.eval m = .map (some b)) (hx : a.eval x = .string s)
    (hK : wpList Tryz.prog ops Q rest (a.put o.dst (.tuple #[mVal (f s), .bool (f s).isSome])) w) : wpList Tryz.prog ops Q (o :: rest) a w := by
  refine wpList_plain hg fun K' hK' => ?_
  have hrun := hk.look_ok hs
  unfold Oper.wp
  simp [execOp, hop, hm, hx, hrun, Result.andThen]
  exact hK' _ _ hK
theorem wpList_look_put (w : World) {ops : Array Oper} {rest : List Oper} {o : Oper} {a : Act} {Q : Exit → Act → World → Prop} (hg : o.guard = none) (m x v : Operand) (hop : o.op = Op.mapUpdate 121 m x v)
    (b n : Nat) (f : ByteArray → Option ((Nat × Int) × Int)) (hk : Knows w b n f) (hn : n < 1000000000000) (s : ByteArray) (hs : s.size ≤ 140737488355328) (y : (Nat × Int) × Int) (hm : a.eval m = .map (some b)) (hx : a.eval x = .string s) (hv : a.eval v = mVal (some y))
    (hK : ∀ w', Knows w' b (n + 1) (putF f s (some y)) → w.grownBy w' (some b) → wpList Tryz.prog ops Q rest (a.put o.dst undef) w') : wpList Tryz.prog ops Q (o :: rest) a w := by
  refine wpList_plain hg fun K' hK' => ?_
  obtain ⟨w', hrun, h1, h2⟩ := hk.put hn hs y
  unfold Oper.wp
  simp [execOp, hop, hm, hx, hv, hrun, Result.andThen]
  exact hK' _ _ (hK w' h1 h2)


end Go.Proofs.YthpkekpojhmaaaaGreatDoor
