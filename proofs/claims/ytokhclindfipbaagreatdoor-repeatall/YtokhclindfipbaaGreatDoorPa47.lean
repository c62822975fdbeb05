/-
  Plain: the document's list under way; what tells where the places lie. How many there are. Are two places in just one sequence of a length?
-/
import Derived.Test.YtokhclindfipbaaGreatDoorProg
import Derived.WalkKit
import Derived.WalkSpells
import Derived.WalkLawsBesides
import Derived.RowKit3
import Derived.Below
import Derived.Deep.QuietTactic
import Derived.BigQuiet
import Derived.WalkSmall
import Derived.Laws.Rows
import Derived.Test.YtokhclindfipbaaGreatDoorPa31
import Derived.Test.YtokhclindfipbaaGreatDoorPa46
import Derived.RangeFuncNested
import Derived.RangeFuncBound
import Derived.RangeFuncCalls
import Derived.RangeFuncLeaves
import Derived.Shelf.Abstract
import Derived.Shelf.RegionOpen
import Derived.OwnWalkIn
import Derived.TacticsInMore
import Derived.LoopNIn
import Derived.LoopIn
import Derived.Maps.AppendAt
import Derived.RangeFuncBox
import Derived.Deep.LoopGhost
namespace Go.Proofs.YtokhclindfipbaaGreatDoor
open Go.RowKit

def repK (nm : List Int) (en : Nat → Nat) (i : Nat) : List (Nat × Nat) := (List.range i).flatMap fun j => rowQ nm en j (nm.length + 1)
theorem repK_all (nm : List Int) (en : Nat → Nat) : repK nm en nm.length = repC nm en := rfl
theorem repK_zero (nm : List Int) (en : Nat → Nat) : repK nm en 0 = [] := rfl
theorem repK_succ (nm : List Int) (en : Nat → Nat) (i : Nat) : repK nm en (i + 1) = repK nm en i ++ rowQ nm en i (nm.length + 1) := by
  unfold repK
  rw [List.range_succ, List.flatMap_append]
  simp
theorem rowQ_len (nm : List Int) (en : Nat → Nat) (i n : Nat) : (rowQ nm en i n).length ≤ n := by
  unfold rowQ
  rw [List.length_map]
  refine Nat.le_trans (List.length_filter_le _ _) ?_
  rw [List.length_range]
  exact Nat.le_refl _
theorem repK_len (nm : List Int) (en : Nat → Nat) : ∀ i, (repK nm en i).length ≤ i * (nm.length + 1)
  | 0 => by rw [repK_zero]; simp
  | i + 1 => by
    have h1 := repK_len nm en i
    have h2 := rowQ_len nm en i (nm.length + 1)
    rw [repK_succ, List.length_append, Nat.add_mul]
    omega
theorem repK_few {nm : List Int} {en : Nat → Nat} (hl : nm.length ≤ 512) {i n : Nat} (hi : i < nm.length) (hn : n ≤ nm.length + 1) : (repK nm en i ++ rowQ nm en i n).length ≤ 300000 := by
  have h1 := repK_len nm en i
  have h2 := rowQ_len nm en i n
  have h3 : i * (nm.length + 1) ≤ 512 * 513 := Nat.mul_le_mul (by omega) (by omega)
  rw [List.length_append]
  omega
theorem repC_few {nm : List Int} {en : Nat → Nat} (hl : nm.length ≤ 512) : (repC nm en).length ≤ 300000 := by
  have h1 := repK_len nm en nm.length
  have h3 : nm.length * (nm.length + 1) ≤ 512 * 513 := Nat.mul_le_mul (by omega) (by omega)
  rw [repK_all] at h1
  omega
/-- A place is done. -/
theorem repK_room {nm : List Int} {en : Nat → Nat} {i n : Nat} (h : en i < i + n) (hn : n ≤ nm.length + 1) : repK nm en (i + 1) = repK nm en i ++ rowQ nm en i n := by
  rw [repK_succ, rowQ_rest (fun m hm => rep_room h hm) hn]
theorem repK_lone {nm : List Int} {en : Nat → Nat} (he : EnP nm en) {i n : Nat} (hi : i < nm.length) (hr : i + n ≤ en i) (hf : (plcS nm en i n).length < 2) (hn : n ≤ nm.length + 1) : repK nm en (i + 1) = repK nm en i ++ rowQ nm en i n := by
  rw [repK_succ, rowQ_rest (fun m hm => rep_few he hi hr hf hm) hn]
/-- One more is told there. -/
theorem row_first {nm : List Int} {en : Nat → Nat} (he : EnP nm en) {i n : Nat} (hi : i < nm.length) (hn : 2 ≤ n) (hr : i + n ≤ en i) (h2 : 2 ≤ (plcS nm en i n).length) (hf : snth (plcS nm en i n) 0 = i) : repK nm en i ++ rowQ nm en i (n + 1) = (repK nm en i ++ rowQ nm en i n) ++ [(n, i)] := by
  rw [rowQ_yes (by rw [repB_told he hi hn hr h2]; exact decide_eq_true hf), List.append_assoc]
theorem row_later {nm : List Int} {en : Nat → Nat} (he : EnP nm en) {i n : Nat} (hi : i < nm.length) (hn : 2 ≤ n) (hr : i + n ≤ en i) (h2 : 2 ≤ (plcS nm en i n).length) (hf : snth (plcS nm en i n) 0 ≠ i) : rowQ nm en i (n + 1) = rowQ nm en i n :=
  rowQ_no (by rw [repB_told he hi hn hr h2]; exact decide_eq_false hf)
theorem rth_zero (r : Nat × Nat) (O : List (Nat × Nat)) : rth (r :: O) 0 = r := rfl
theorem rth_succ (r : Nat × Nat) (O : List (Nat × Nat)) (j : Nat) : rth (r :: O) (j + 1) = rth O j := by simp [rth]
/-- A function that tells them. -/
theorem slots_of (nm : List Int) (en : Nat → Nat) : ∀ (O : List (Nat × Nat)) (PT : List Tp), O.Nodup → PT.map (fun p => p.1) = tdL nm en O → ∃ S : Nat × Nat → Value, dTp PT = rNews S O ∧ ∀ r ∈ O, ∃ p ∈ PT, p.1 = (r.1, plcS nm en r.2 r.1) ∧ S r = tpV p
  | [], PT, _, h => by
    obtain rfl : PT = [] := List.map_eq_nil_iff.1 h
    exact ⟨fun _ => .nilFunc, rfl, fun r hr => by cases hr⟩
  | r :: O, PT, hn, h => by
    match PT, h with
    | p :: PT, h =>
      unfold tdL at h
      rw [List.map_cons, List.map_cons] at h
      injection h with h1 h2
      obtain ⟨hr, hn⟩ := List.nodup_cons.1 hn
      obtain ⟨S, e1, e2⟩ := slots_of nm en O PT hn h2
      have hS : rNews (fun x => if x = r then tpV p else S x) O = rNews S O := by
        unfold rNews
        rw [List.flatMap_def, List.flatMap_def]
        congr 1
        refine List.map_congr_left fun x hx => ?_
        show [Value.int .i64 (x.1 : Int), if x = r then tpV p else S x] = _
        rw [if_neg (fun e : x = r => hr (e ▸ hx))]
      refine ⟨fun x => if x = r then tpV p else S x, ?_, fun x hx => ?_⟩
      · show Value.int .i64 (p.1.1 : Int) :: tpV p :: dTp PT = Value.int .i64 (r.1 : Int) :: (if r = r then tpV p else S r) :: rNews (fun x => if x = r then tpV p else S x) O
        rw [if_pos rfl, hS, ← e1, h1]
      · by_cases e : x = r
        · subst e
          exact ⟨p, List.mem_cons_self, h1, if_pos rfl⟩
        · rcases List.mem_cons.1 hx with hx | hx
          · exact absurd hx e
          · obtain ⟨q, q1, q2, q3⟩ := e2 x hx
            exact ⟨q, List.mem_cons_of_mem _ q1, q2, by rw [← q3]; exact if_neg e⟩
theorem at_of {nm : List Int} {en : Nat → Nat} {S : Nat × Nat → Value} {W : World} {b : Nat} {r : Nat × Nat} {p : Tp} (hr : W.ownsRow b 3 1 (tpV p) p.1.2.length (iVals .i64 (nV64 p.1.2))) (e : p.1 = (r.1, plcS nm en r.2 r.1)) (es : S r = tpV p) (h2 : 0 < (plcS nm en r.2 r.1).length) : AtP nm en S W r := by
  obtain ⟨⟨n, L⟩, O, c⟩ := p
  cases e
  obtain ⟨X, rfl, hc⟩ := own_some (A := O) (c := c) hr h2
  exact ⟨X, c, es, row_ints (l := natL (plcS nm en r.2 r.1)) (by rw [natL_len]; exact hr), hc⟩

end Go.Proofs.YtokhclindfipbaaGreatDoor

namespace Go.Proofs.YtokhclindfipbaaGreatDoor
open Go.RowKit

attribute [local go_sem] Oper.semAt_some

theorem box_newR {W : World} {t : TypeId} {v : Value} {n : Nat} (h : n = W.heap.size) : Boxed (W.alloc (.cells #[v] t)) n t v := by subst h; exact Boxed.new _ _ _
theorem Turn.cell {n : Nat} {W W' : World} (h : Turn n W W') {p : Addr} {v : Value} (hc : W.cell? p = some v) : W'.cell? p = some v := by
  unfold World.cell? at hc ⊢
  cases ho : W.heap[p.block]? with
  | none => rw [ho] at hc; cases hc
  | some o =>
    cases o with
    | cells cs t m =>
      rw [h.cells _ _ _ _ ho, ho]
      rw [ho] at hc
      exact hc
    | _ => rw [ho] at hc; cases hc
theorem Turn.ints {n : Nat} {W W' : World} (h : Turn n W W') {A : Option Addr} {K : IntKind} {l : List Int} (hi : IntsAt W A K l) : IntsAt W' A K l := fun i hl => by
  obtain ⟨a, e, c⟩ := hi i hl
  exact ⟨a, e, h.cell c⟩
theorem RwS.turn {n : Nat} {W W' : World} {B : Nat} {A1 A2 A3 A4 : Option Addr} {c1 c2 c3 c4 : Nat} {nm : List Int} {en : Nat → Nat} (h : RwS W B A1 A2 A3 A4 c1 c2 c3 c4 nm en) (t : Turn n W W') : RwS W' B A1 A2 A3 A4 c1 c2 c3 c4 nm en :=
  ⟨t.cell h.f1, t.cell h.f2, t.cell h.f3, t.cell h.f4, t.ints h.r1, t.ints h.r2, t.ints h.r3, t.ints h.r4, h.le⟩
/-- How many places told sequences have together. -/
def smP (T : List (Nat × List Nat)) : Nat := (T.map fun p => p.2.length).sum
theorem smP_snoc (T : List (Nat × List Nat)) (p : Nat × List Nat) : smP (T ++ [p]) = smP T + p.2.length := by simp [smP]
theorem plcS_few (nm : List Int) (en : Nat → Nat) (i n : Nat) : (plcS nm en i n).length ≤ nm.length := by
  unfold plcS
  refine Nat.le_trans (List.length_filter_le _ _) ?_
  simp
theorem smP_few {nm : List Int} {en : Nat → Nat} (hl : nm.length ≤ 2048) : ∀ T : List (Nat × Nat), smP (tdL nm en T) ≤ T.length * 2048
  | [] => by simp [smP, tdL]
  | r :: T => by
    have h1 := smP_few (nm := nm) (en := en) hl T
    have h2 := plcS_few nm en r.2 r.1
    have h3 : smP (tdL nm en (r :: T)) = (plcS nm en r.2 r.1).length + smP (tdL nm en T) := by simp [smP, tdL]
    rw [h3, List.length_cons, Nat.add_mul]
    omega
def CntP (n m : Nat) (w : World) (e : Ending) (w' : World) : Prop := e = .returned (.tuple #[.int .i64 (n : Int), .int .i64 (m : Int), .int .i64 0]) ∧ Below w.heap.size w w'
def CntN (E : Int) (w : World) (e : Ending) (w' : World) : Prop := e = .returned (.tuple #[.int .i64 0, .int .i64 0, .int .i64 E]) ∧ Below w.heap.size w w'
set_option maxRecDepth 100000 in
set_option maxHeartbeats 4000000 in
theorem pcount_no (A1 A2 : Option Addr) (c1 ml c2 : Nat) (ent : Int) (text : List Int) (w : World) (hT : IntsAt w A1 .u32 text) (hR : ∀ i, i < text.length → 0 ≤ nth text i ∧ nth text i < 4294967296) (hl : text.length ≤ 1048576) (hm : ml ≤ 1048576) (hE : (checkI text ml ent).1 ≠ 0) :
    Calls Tryz.prog 9 #[.agg #[.slice A1 text.length c1, .int .i64 ent, .slice A2 ml c2]] w (CntN (checkI text ml ent).1 w) := by
  obtain ⟨X, hX⟩ : ∃ X, ((w.alloc (.cells #[.slice A1 text.length c1, .int .i64 ent, .slice A2 ml c2] 25)).alloc (.cells #[.int .i64 0] 3)).alloc (.cells #[.int .i64 0] 3) = X := ⟨_, rfl⟩
  have hB : Below w.heap.size w X := by rw [← hX]; exact lb_alloc (lb_alloc (lb_alloc (Below.refl _ _) _) _) _
  have i0 : X.cell? ⟨w.heap.size, 0, none⟩ = some (.slice A1 text.length c1) := by rw [← hX]; simp [go_sem]
  have i1 : X.cell? ⟨w.heap.size, 1, none⟩ = some (.int .i64 ent) := by rw [← hX]; simp [go_sem]
  have i2 : X.cell? ⟨w.heap.size, 2, none⟩ = some (.slice A2 ml c2) := by rw [← hX]; simp [go_sem]
  have b2 : Boxed X (w.heap.size + 1) 3 (.int .i64 0) := by rw [← hX]; exact (box_newR (by simp)).alloc _
  have b3 : Boxed X (w.heap.size + 1 + 1) 3 (.int .i64 0) := by rw [← hX]; exact box_newR (by simp)
  have C := all_no A1 A2 c1 ml c2 ent text X (hT.keep hB) hR hl hm hE
  have hne : ((checkI text ml ent).1 != 0) = true := by simpa using hE
  have HX : Hid _ := hX
  have HB : Hid (Below w.heap.size w X) := hB
  have HX2 : Hid (Boxed X (w.heap.size + 1) 3 (.int .i64 0)) := b2
  have HX3 : Hid (Boxed X (w.heap.size + 1 + 1) 3 (.int .i64 0)) := b3
  clear hT hR hX hE hB b2 b3
  generalize (checkI text ml ent).1 = E at *
  go_enter Tryz.func9, Tryz.ntmps9
  go_upto_region 1 with fail
  rw [HX.out]
  clear HX
  go_upto_region 3 with (go_at_call 17; refine C.mono ?_; rintro e w1 ⟨rfl, hb1⟩; have HB1 : Hid (Below X.heap.size X w1) := hb1; clear hb1)
  have B2 : Boxed w1 (w.heap.size + 1) 3 (.int .i64 0) := (HB1.out.block _ HX2.out.lt).trans HX2.out
  have B3 : Boxed w1 (w.heap.size + 1 + 1) 3 (.int .i64 0) := (HB1.out.block _ HX3.out.lt).trans HX3.out
  have HBw : Hid (Below w.heap.size w w1) := lb_trans HB.out HB1.out
  have f2 := B2.frozen
  have f3 := B3.frozen
  have c2' := B2.cell
  have c3' := B3.cell
  have H2 : Hid (Boxed w1 (w.heap.size + 1) 3 (.int .i64 0)) := B2
  have H3 : Hid (Boxed w1 (w.heap.size + 1 + 1) 3 (.int .i64 0)) := B3
  clear B2 B3 HX2 HX3 HB1 HB
  go_wp2
  have z2 := ((H2.out.set (.int .i64 0)).other (B' := w.heap.size + 1 + 1) (by omega) (.int .i64 0)).cell
  have z3 := ((H3.out.other (B' := w.heap.size + 1) (by omega) (.int .i64 0)).set (.int .i64 0)).cell
  refine bodyPost_ret (v := .tuple #[.int .i64 0, .int .i64 0, .int .i64 E]) (by simp [results, Tryz.results9, go_sem, z2, z3]) rfl ⟨rfl, ?_⟩
  exact (HBw.out.setCell (Nat.le_succ _) _).setCell (by show w.heap.size ≤ w.heap.size + 1 + 1; omega) _
/-- What Count's own cells hold, between two rounds. -/
structure CntI (nm : List Int) (en : Nat → Nat) (B : Nat) (A1 A2 A3 A4 : Option Addr) (c1 c2 c3 c4 : Nat) (w : World) (T : List (Nat × Nat)) (W : World) : Prop where
  b2 : Boxed W (w.heap.size + 1) 3 (.int .i64 (T.length : Int))
  b3 : Boxed W (w.heap.size + 1 + 1) 3 (.int .i64 ((smP (tdL nm en T) : Nat) : Int))
  rw : RwS W B A1 A2 A3 A4 c1 c2 c3 c4 nm en
  low : Below w.heap.size w W
theorem CntI.turn {nm : List Int} {en : Nat → Nat} {B : Nat} {A1 A2 A3 A4 : Option Addr} {c1 c2 c3 c4 n : Nat} {w W W' : World} {T : List (Nat × Nat)} (h : CntI nm en B A1 A2 A3 A4 c1 c2 c3 c4 w T W) (t : Turn n W W') (hn : w.heap.size ≤ n) : CntI nm en B A1 A2 A3 A4 c1 c2 c3 c4 w T W' :=
  ⟨t.box h.b2, t.box h.b3, h.rw.turn t, t.below h.low hn⟩
set_option maxRecDepth 100000 in
set_option maxHeartbeats 8000000 in
theorem pcount_ok (A1 A2 : Option Addr) (c1 ml c2 : Nat) (ent : Int) (text : List Int) (w : World) (hT : IntsAt w A1 .u32 text) (hR : ∀ i, i < text.length → 0 ≤ nth text i ∧ nth text i < 4294967296) (hl : text.length ≤ 2048) (hm : ml ≤ 1048576) (hE : (checkI text ml ent).1 = 0) (h0 : 0 < text.length)
    (nm : List Int) (hnm : numL text text.length = nm) (en : Nat → Nat) (hen : enK (begF text ent) text.length = en) :
    Calls Tryz.prog 9 #[.agg #[.slice A1 text.length c1, .int .i64 ent, .slice A2 ml c2]] w (CntP (eachL nm en).length (smP (tdL nm en (eachL nm en))) w) := by
  have HEn : Hid (EnP nm en) := by
    have := enK_ok (f := begF text ent) (nm := nm)
    rw [← hnm, numL_len, hen, hnm] at this
    exact this
  have hnl : nm.length = text.length := by rw [← hnm, numL_len]
  have HF : Hid ((eachL nm en).length ≤ 4200000) := eachL_few (by omega)
  have HNl : Hid (nm.length ≤ 2048) := by unfold Hid; omega
  obtain ⟨X, hX⟩ : ∃ X, ((w.alloc (.cells #[.slice A1 text.length c1, .int .i64 ent, .slice A2 ml c2] 25)).alloc (.cells #[.int .i64 0] 3)).alloc (.cells #[.int .i64 0] 3) = X := ⟨_, rfl⟩
  have hB : Below w.heap.size w X := by rw [← hX]; exact lb_alloc (lb_alloc (lb_alloc (Below.refl _ _) _) _) _
  have i0 : X.cell? ⟨w.heap.size, 0, none⟩ = some (.slice A1 text.length c1) := by rw [← hX]; simp [go_sem]
  have i1 : X.cell? ⟨w.heap.size, 1, none⟩ = some (.int .i64 ent) := by rw [← hX]; simp [go_sem]
  have i2 : X.cell? ⟨w.heap.size, 2, none⟩ = some (.slice A2 ml c2) := by rw [← hX]; simp [go_sem]
  have b2 : Boxed X (w.heap.size + 1) 3 (.int .i64 0) := by rw [← hX]; exact (box_newR (by simp)).alloc _
  have b3 : Boxed X (w.heap.size + 1 + 1) 3 (.int .i64 0) := by rw [← hX]; exact box_newR (by simp)
  have hXs : X.heap.size = w.heap.size + 1 + 1 + 1 := by rw [← hX]; simp
  have C := all_ok A1 A2 c1 ml c2 ent text X (hT.keep hB) hR hl hm hE h0
  unfold AllOk at C
  rw [hnm, hen] at C
  have HX : Hid _ := hX
  have HB : Hid (Below w.heap.size w X) := hB
  have HX2 : Hid (Boxed X (w.heap.size + 1) 3 (.int .i64 0)) := b2
  have HX3 : Hid (Boxed X (w.heap.size + 1 + 1) 3 (.int .i64 0)) := b3
  clear hT hR hX hE hB b2 b3 hnm hen hnl
  refine (callsIn_wide (n := 5)).1 ?_
  refine callsIn_of_wp_marks Tryz.func9 rfl trivial ?_ rfl
  simp only [Tryz.ntmps9, List.size_toArray, List.length_cons, List.length_nil, Nat.reduceAdd, Nat.reduceSub, Array.replicate_succ, Array.replicate_zero, List.push_toArray, List.append_toArray, List.nil_append, List.cons_append]
  gi_upto_region 1 with fail
  rw [HX.out]
  clear HX
  gi_wp2_with fail
  refine ⟨trivial, (callsIn_wide.2 C).mono ?_⟩
  rintro e w1 ⟨B, S1, S2, S3, S4, k1, k2, k3, k4, rfl, hB, hS, hlo, hb1⟩
  have HB1 : Hid (Below w.heap.size w w1) := lb_trans HB.out hb1
  have HS : Hid (RwS w1 B S1 S2 S3 S4 k1 k2 k3 k4 nm en) := hS
  have HLo : Hid (RwAt (w.heap.size + 1 + 1 + 1) B S1 S2 S3 S4) := by unfold Hid; rw [← hXs]; exact hlo
  have hs1 := hb1.size
  have B2 : Boxed w1 (w.heap.size + 1) 3 (.int .i64 0) := (hb1.block _ HX2.out.lt).trans HX2.out
  have B3 : Boxed w1 (w.heap.size + 1 + 1) 3 (.int .i64 0) := (hb1.block _ HX3.out.lt).trans HX3.out
  have hI0 : CntI nm en B S1 S2 S3 S4 k1 k2 k3 k4 w [] w1 := ⟨B2, B3, hS, HB1.out⟩
  clear hb1 hS i0 i1 i2 C hB hlo B2 B3
  gi_wp2_with fail
  refine range_each 5 (by decide) 0 w.heap.size B S1 S2 S3 S4 k1 k2 k3 k4 nm en HEn.out HNl.out rfl rfl (by omega) (CntI nm en B S1 S2 S3 S4 k1 k2 k3 k4 w) (fun _ _ => False) (fun T W h => h.rw) (fun T W W' h t => h.turn t (by omega)) (fun _ _ _ h _ => h.elim) hI0 (fun l0 m O k c a1 W W1 => W1 = W.alloc (.cells #[.int .i64 (m : Int), .slice O k c] 69) ∧ a1 = { tmps := #[.agg #[.slice A1 text.length c1, .int .i64 ent, .slice A2 ml c2], .pointer (some ⟨w.heap.size, 0, none⟩), .pointer (some ⟨w.heap.size + 1, 0, none⟩), .pointer (some ⟨w.heap.size + 1 + 1, 0, none⟩), .int .i64 0, .func (.func 37) #[.pointer (some ⟨B, 0, none⟩)] #[], .pointer (some ⟨W.heap.size, 0, none⟩), .tuple #[.func (.func 37) #[.pointer (some ⟨B, 0, none⟩)] #[], .int .i64 0], .agg #[.slice A1 text.length c1, .int .i64 ent, .slice A2 ml c2], .tuple #[.func (.func 37) #[.pointer (some ⟨B, 0, none⟩)] #[], .int .i64 0], .func (.func 37) #[.pointer (some ⟨B, 0, none⟩)] #[], .int .i64 0, .int .i64 0, .bool false, undef, .func (.func 37) #[.pointer (some ⟨B, 0, none⟩)] #[], .agg #[.int .i64 (m : Int), .slice O k c], undef, undef, undef, undef, undef, undef, undef, undef, undef], defers := [] }) ?assign (fun l0 m O k c a1 W W1 h => by rw [h.1]; exact lb_alloc (Below.refl _ _) _) ?body ?done (fun _ _ _ _ _ h _ => h.elim)
  case assign =>
    intro l0 m O k c W K hK
    have HK : Hid _ := hK
    clear hK
    unfold repV
    gi_wp2
    exact HK.out _ _ ⟨rfl, rfl⟩
  case body =>
    rintro l0 T r O c W W1 W3 a1 hp hs ⟨rfl, rfl⟩ tn hI hrow
    have hbx : W3.heap[W.heap.size]? = some (.cells #[.int .i64 (r.1 : Int), .slice O (plcS nm en r.2 r.1).length c] 69) := tn.box (heap_alloc_new W _)
    have v0 : W3.cell? ⟨W.heap.size, 0, none⟩ = some (.int .i64 (r.1 : Int)) := by simp [World.cell?, hbx]
    have v1 : W3.cell? ⟨W.heap.size, 1, none⟩ = some (.slice O (plcS nm en r.2 r.1).length c) := by simp [World.cell?, hbx]
    have hTl : T.length + 1 ≤ (eachL nm en).length := by
      have := hp.length_le
      rw [List.length_append] at this
      exact this
    have hf := HF.out
    have hsm := smP_few (nm := nm) (en := en) HNl.out T
    have hpf := plcS_few nm en r.2 r.1
    have hnl := HNl.out
    have HS1 : Hid (smP (tdL nm en (T ++ [r])) = smP (tdL nm en T) + (plcS nm en r.2 r.1).length) := by
      unfold Hid
      rw [← smP_snoc (tdL nm en T) (r.1, plcS nm en r.2 r.1)]
      unfold tdL
      rw [List.map_append]
      rfl
    have q2 := hI.b2.cell
    have q3 := hI.b3.cell
    have p2 := hI.b2.frozen
    have p3 := hI.b3.frozen
    have q3' := (hI.b3.other (B' := w.heap.size + 1) (by omega) (.int .i64 ((T.length + 1 : Nat) : Int))).cell
    have HX2 : Hid (Boxed W3 (w.heap.size + 1) 3 (.int .i64 (T.length : Int))) := hI.b2
    have HX3 : Hid (Boxed W3 (w.heap.size + 1 + 1) 3 (.int .i64 ((smP (tdL nm en T) : Nat) : Int))) := hI.b3
    have HRw : Hid (RwS W3 B S1 S2 S3 S4 k1 k2 k3 k4 nm en) := hI.rw
    have HLow : Hid (Below w.heap.size w W3) := hI.low
    have hsf : smP (tdL nm en T) + (plcS nm en r.2 r.1).length ≤ 9000000000 := by omega
    have hWs : w.heap.size + 1 + 1 + 1 ≤ W3.heap.size := by have := HX3.out.lt; omega
    clear hbx tn hI hrow hp hsm hnl
    generalize smP (tdL nm en T) = sm at *
    generalize (plcS nm en r.2 r.1).length = L at *
    gi_wp2
    have hk : Kept w.heap.size w1.heap.size W3 ((W3.setCell ⟨w.heap.size + 1, 0, none⟩ (.int .i64 ((T.length : Int) + 1))).setCell ⟨w.heap.size + 1 + 1, 0, none⟩ (.int .i64 ((sm : Int) + (L : Int)))) := (Kept.set HX2.out (by omega) _).trans (Kept.set (HX3.out.other (by omega) _) (by omega) _)
    refine ⟨hk, ?_, ?_, ?_, HLow.out.trans hk.low⟩
    · rw [List.length_append]
      exact (HX2.out.set _).other (by omega) _
    · rw [HS1.out, Int.natCast_add]
      exact (HX3.out.other (by omega) _).set _
    · refine RwS.same HRw.out HLo.out fun b hb _ => ?_
      rw [Below.heap_setCell _ _ _ _ (show b ≠ w.heap.size + 1 + 1 by omega), Below.heap_setCell _ _ _ _ (show b ≠ w.heap.size + 1 by omega)]
  case done =>
    intro D W hD hI hK
    have H2 : Hid (Boxed W (w.heap.size + 1) 3 (.int .i64 ((eachL nm en).length : Int))) := hI.b2
    have H3 : Hid (Boxed W (w.heap.size + 1 + 1) 3 (.int .i64 ((smP (tdL nm en (eachL nm en)) : Nat) : Int))) := hI.b3
    have q2 := hI.b2.cell
    have q3 := hI.b3.cell
    have p2 := hI.b2.frozen
    have p3 := hI.b3.frozen
    have HD : Hid (W.heap[D]? = some (.deferred (some []))) := hK
    have HLow : Hid (Below w.heap.size w W) := hI.low
    clear hI hK HF HS HLo HX2 HX3
    generalize smP (tdL nm en (eachL nm en)) = sm at *
    generalize (eachL nm en).length = le at *
    gi_wp2
    gi_big_region
    gi_wp2
    obtain ⟨W3, hW3⟩ : ∃ W3, W3 = ((W.setCell ⟨w.heap.size + 1, 0, none⟩ (.int .i64 (le : Int))).setCell ⟨w.heap.size + 1 + 1, 0, none⟩ (.int .i64 (sm : Int))).drew := ⟨_, rfl⟩
    rw [← hW3]
    have r2 : Boxed W3 (w.heap.size + 1) 3 (.int .i64 (le : Int)) := by rw [hW3]; exact (H2.out.set _).other (by omega) _
    have r3 : Boxed W3 (w.heap.size + 1 + 1) 3 (.int .i64 (sm : Int)) := by rw [hW3]; exact (H3.out.other (by omega) _).set _
    have qK : W3.heap[D]? = some (.deferred (some [])) := by
      rw [hW3]
      exact ((KeepsOthers.setCell _ _ _).trans (KeepsOthers.setCell _ _ _)).same D _ HD.out rfl
    have qB : Below w.heap.size w W3 := by
      rw [hW3]
      exact (((HLow.out.setCell (Nat.le_succ _) _).setCell (by show w.heap.size ≤ w.heap.size + 1 + 1; omega) _).drew)
    clear hW3
    have far := grownBy_putObj' W3 D (.deferred none)
    have hne : ∀ B t v, Boxed W3 B t v → some B ≠ some D := fun B t v h e => by cases e; rw [show W3.heap[D]? = _ from h] at qK; cases qK
    have z2 := (r2.kept far (hne _ _ _ r2)).cell
    have z3 := (r3.kept far (hne _ _ _ r3)).cell
    refine ⟨by simp, .inl ⟨_, _, rfl, run_takeDeferred qK, ?_⟩⟩
    refine ⟨.tuple #[.int .i64 (le : Int), .int .i64 (sm : Int), .int .i64 0], by simp [results, Tryz.results9, go_sem, z2, z3], rfl, ?_⟩
    exact qB.trans (belowK_b (w := w) (Nat.le_refl _) W3 D _ _ (by omega) qK rfl rfl)


end Go.Proofs.YtokhclindfipbaaGreatDoor

namespace Go.Proofs.YtokhclindfipbaaGreatDoor
open Go.RowKit

def pth (l : List Tp) (j : Nat) : Tp := l.getD j ((0, []), (none, 0))
theorem pth_mem {l : List Tp} {j : Nat} (h : j < l.length) : pth l j ∈ l := by simp [pth, h]
theorem dTp_get : ∀ {l : List Tp} {j : Nat}, j < l.length → (dTp l)[j * 2]? = some (.int .i64 ((pth l j).1.1 : Int)) ∧ (dTp l)[j * 2 + 1]? = some (tpV (pth l j))
  | p :: l, 0, _ => ⟨rfl, rfl⟩
  | p :: l, j + 1, h => by
    have := dTp_get (l := l) (j := j) (by simpa using h)
    rw [show (j + 1) * 2 = j * 2 + 1 + 1 by omega]
    exact this
/-- Told sequences that can be read. -/
def TpsAt (W : World) (A : Option Addr) (l : List Tp) : Prop := ∀ j, j < l.length → ∃ a : Addr, A = some a ∧ W.cell? (a.add (j * 2)) = some (.int .i64 ((pth l j).1.1 : Int)) ∧ W.cell? ⟨(a.add (j * 2)).block, (a.add (j * 2)).off + 1, none⟩ = some (tpV (pth l j)) ∧ IntsAt W (pth l j).2.1 .i64 (nV64 (pth l j).1.2)
theorem TpsAt.keep {W W' : World} {A : Option Addr} {l : List Tp} (h : TpsAt W A l) (hb : Below W.heap.size W W') : TpsAt W' A l := fun j hj => by
  obtain ⟨a, e, h1, h2, h3⟩ := h j hj
  exact ⟨a, e, lkeep hb h1, lkeep hb h2, h3.keep hb⟩
theorem tps_of {W : World} {b c b2 : Nat} {O : Option Addr} {l : List Tp} (h : W.ownsRow b 69 2 (.slice O l.length c) l.length (dTp l)) (h2 : TpAt W b2 l) : TpsAt W O l := fun j hj => by
  rcases h.2 with ⟨_, h0⟩ | ⟨g, cap, cur, e, _⟩
  · omega
  · injection e with e _ _
    subst e
    obtain ⟨g1, g2⟩ := dTp_get hj
    have c1 := World.ownsRow.cells (g := g) h rfl _ _ g1
    have c2 := World.ownsRow.cells (g := g) h rfl _ _ g2
    rw [add0] at c1 c2
    refine ⟨⟨g, 0, none⟩, rfl, by rw [add0]; exact c1, by rw [add0]; exact c2, ?_⟩
    exact row_ints (n := (pth l j).1.2.length) (c := (pth l j).2.2) (by rw [nV64_len]; exact h2 _ (pth_mem hj))
theorem nV64_nth {l : List Nat} {h : Nat} (hh : h < l.length) : nth (nV64 l) h = ((snth l h : Nat) : Int) := by simp [nth, nV64, snth, hh]
/-- How many of a list's first are one of two. -/
def bothN (i k : Nat) (l : List Nat) : Nat := (l.filter fun x => decide (x = i) || decide (x = k)).length
theorem bothN_snoc (i k : Nat) (l : List Nat) (x : Nat) : bothN i k (l ++ [x]) = bothN i k l + if x = i ∨ x = k then 1 else 0 := by
  unfold bothN
  rw [List.filter_append, List.length_append]
  by_cases c : x = i ∨ x = k
  · rw [if_pos c]
    rcases c with c | c <;> simp [c]
  · rw [if_neg c]
    simp only [not_or] at c
    simp [c.1, c.2]
theorem bothN_le (i k : Nat) (l : List Nat) : bothN i k l ≤ l.length := List.length_filter_le _ _
def togP (n i k : Nat) (p : Nat × List Nat) : Bool := decide (p.1 = n) && decide (bothN i k p.2 = 2)
def togN (n i k : Nat) (T : List (Nat × List Nat)) : Nat := (T.filter (togP n i k)).length
theorem togN_snoc (n i k : Nat) (T : List (Nat × List Nat)) (p : Nat × List Nat) : togN n i k (T ++ [p]) = togN n i k T + if togP n i k p = true then 1 else 0 := by
  unfold togN
  rw [List.filter_append, List.length_append]
  by_cases c : togP n i k p = true
  · rw [if_pos c]; simp [c]
  · rw [if_neg c]; simp [c]
theorem togN_le (n i k : Nat) (T : List (Nat × List Nat)) : togN n i k T ≤ T.length := List.length_filter_le _ _
def fsts (l : List Tp) : List (Nat × List Nat) := l.map fun p => p.1
theorem fsts_take {l : List Tp} {j : Nat} (h : j < l.length) : fsts (l.take (j + 1)) = fsts (l.take j) ++ [(pth l j).1] := by
  unfold fsts pth
  rw [List.take_succ_eq_append_getElem h, List.map_append]
  simp [h]
theorem take_snocN {l : List Nat} {h : Nat} (hh : h < l.length) : l.take (h + 1) = l.take h ++ [snth l h] := by
  rw [List.take_succ_eq_append_getElem hh]
  simp [snth, hh]
def TogP (b : Bool) (w : World) (e : Ending) (w' : World) : Prop := e = .returned (.bool b) ∧ w' = w

end Go.Proofs.YtokhclindfipbaaGreatDoor
