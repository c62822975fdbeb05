/-
  What the walk of LinkStands wants besides. Objects that were read, one by one. An object that was read joins the others.
-/
import Derived.Test.YthpkekpojhmaaaaGreatDoorProg
import Derived.WalkKit
import Derived.WalkSpells
import Derived.WalkLawsBesides
import Derived.RowKit3
import Derived.Below
import Derived.Deep.QuietTactic
import Derived.BigQuiet
import Derived.WalkSmall
import Derived.Laws.Rows
import Derived.Test.YthpkekpojhmaaaaGreatDoorP23
import Derived.Test.YthpkekpojhmaaaaGreatDoorP24
import Derived.Test.YthpkekpojhmaaaaGreatDoorP25
import Derived.Test.YthpkekpojhmaaaaGreatDoorP26
import Derived.Test.YthpkekpojhmaaaaGreatDoorP34
import Derived.Test.YthpkekpojhmaaaaGreatDoorP35
import Derived.Test.YthpkekpojhmaaaaGreatDoorP18
namespace Go.Proofs.YthpkekpojhmaaaaGreatDoor
open Go.RowKit

theorem own_none {w : World} {b n c : Nat} {e : TypeId} {sz : Nat} {A : Option Addr} {xs : List Value} (h : w.ownsRow b e sz (.slice A n c) n xs) : A = none → c = 0 := fun hA => by
  rcases h.2 with ⟨hv, _⟩ | ⟨g, cap, cur, hv, _⟩
  · cases hv; rfl
  · cases hv; cases hA
theorem copy_in {l : List Ob} {w w0 w' : World} {A : Option Addr} {q0 : Nat → Pl} {c : Nat} {A0 : Option Addr} {q : Nat → Pl} (h0 : ObsIn w0 A0 q0 l) (ho : w'.ownsRow w.heap.size 75 6 (.slice A l.length c) l.length (oN l q l.length)) (hw : ∀ i, i < l.length → OwnO w' w.heap.size (q i) (ob l i)) : ObsIn w' A q l := ⟨oN_at ho, fun i hi => (hw i hi).inn (h0.each i hi), h0.few⟩
/-- A copy of an object, which can be copied again. -/
theorem copyob2_any (o : Ob) (p : Pl) (w : World) (h : ObIn w p o) (h0 : NoneO p) :
    Calls Tryz.prog 24 #[.agg #[.string o.nm, .slice p.A1 o.code.length p.c1, .int .i64 o.dA, .slice p.A2 o.data.length p.c2, .slice p.A3 o.ss.length p.c3, .slice p.A4 o.rs.length p.c4]] w fun e w' => ∃ p' : Pl, e = .returned (.agg #[.string o.nm, .slice p'.A1 o.code.length p'.c1, .int .i64 o.dA, .slice p'.A2 o.data.length p'.c2, .slice p'.A3 o.ss.length p'.c3, .slice p'.A4 o.rs.length p'.c4]) ∧ Below w.heap.size w w' ∧ ObIn w' p' o ∧ NoneO p' := by
  refine (copyobj_any o.nm o.dA p.A1 p.A2 p.A3 p.A4 p.c1 p.c2 p.c3 p.c4 o.code o.data o.ss o.rs w h.cd h.dt h.sy h.rl h0.1 h0.2.1 h0.2.2.1 h0.2.2.2 h.hc h.hd h.hs h.hl).mono ?_
  rintro e w' ⟨O1, O2, O3, O4, k1, k2, k3, k4, rfl, hb, r1, r2, r3, r4⟩
  obtain ⟨_, c, e4, h4⟩ := own_any r4
  refine ⟨⟨O1, O2, O3, O4, k1, k2, k3, k4⟩, rfl, hb, ⟨nrow_ints r1, nrow_ints r2, nrow_syms r3, nrow_rels r4, h.cr, h.dr, h.da, h.hc, h.hd, h.hs, h.hl, h.hN, ?_⟩, own_none r1, own_none r2, own_none r3, own_none r4⟩
  cases e4
  exact h4
theorem lnk_nz {l : List Ob} {nm : ByteArray} {mem : Int} {x : Int × Int × Int} (h : lnkE l nm mem = some x) : ¬ x.1 = 0 := by
  unfold lnkE at h
  split at h
  · cases h; simp
  · split at h
    · rename_i y hy
      cases h
      exact res_none hy
    · split at h
      · cases h; simp
      · split at h
        · cases h; simp
        · exact dat_err h
/-- The image that was linked. -/
structure Made (l : List Ob) (x : Nat × Int) (m : Nat) (T M : Option Addr) (cT cM : Nat) (ds : List Int) (W : World) : Prop where
  t : IntsAt W T .u32 (textF l l.length)
  m : IntsAt W M .i64 ds
  nt : T = none → cT = 0
  nm : M = none → cM = 0
theorem Made.keep {l : List Ob} {x : Nat × Int} {m : Nat} {T M : Option Addr} {cT cM : Nat} {ds : List Int} {W W' : World} (h : Made l x m T M cT cM ds W) (hb : Below W.heap.size W W') : Made l x m T M cT cM ds W' := ⟨h.t.keep hb, h.m.keep hb, h.nt, h.nm⟩
theorem link_ok {l : List Ob} {nm : ByteArray} {m : Nat} {x : Nat × Int} {w w' : World} {e : Ending} (hE : lnkE l nm (m : Int) = none) (hL : Lnk l nm (m : Int) x) (h : LnkP l nm (m : Int) w e w') : ∃ (T M : Option Addr) (cT cM : Nat), e = .returned (.tuple #[.agg #[.slice T (bsF l l.length) cT, .int .i64 ((bsF l x.1 : Int) + x.2), .slice M m cM], .int .i64 0, .int .i64 0, .int .i64 0]) ∧ Made l x m T M cT cM (datL l m) w' ∧ Below w.heap.size w w' := by
  obtain ⟨T, M, cT, cM, e1, r1, r2, hb⟩ := h
  have hm : lnkM l nm (m : Int) = datL l m := by unfold lnkM; rw [hE]; rfl
  have hl : (datL l m).length = m := by simp [datL]
  rw [Lnk.lnkT hE] at e1 r1
  rw [hm] at e1 r2
  rw [Lnk.lnkN hE hL.found, hE, textF_len, hl] at e1
  exact ⟨T, M, cT, cM, e1, ⟨own_intsV r1, own_intsV r2, own_none r1, own_none r2⟩, hb⟩
/-- CopyImage, then Check: nothing is refused. -/
theorem chk_ok {l : List Ob} {nm : ByteArray} {m : Nat} {x : Nat × Int} {T M : Option Addr} {cT cM : Nat} {w : World} (hL : Lnk l nm (m : Int) x) (hM : Made l x m T M cT cM (datL l m) w) :
    Calls Tryz.prog 21 #[.agg #[.slice T (bsF l l.length) cT, .int .i64 ((bsF l x.1 : Int) + x.2), .slice M m cM]] w fun e w' => ∃ (T' M' : Option Addr) (cT' cM' : Nat), e = .returned (.agg #[.slice T' (bsF l l.length) cT', .int .i64 ((bsF l x.1 : Int) + x.2), .slice M' m cM']) ∧ Below w.heap.size w w' ∧ IntsAt w' T' .u32 (textF l l.length) := by
  have hl : (datL l m).length = m := by simp [datL]
  have hs := hL.short
  have h1 := hL.m1
  have C := copyimg_any T M cT cM (textF l l.length) (datL l m) ((bsF l x.1 : Int) + x.2) w hM.t hM.m hM.nt hM.nm (by rw [textF_len]; omega) (by rw [hl]; omega)
  rw [textF_len, hl] at C
  refine C.mono ?_
  rintro e w' ⟨T', M', k1, k2, rfl, r, hb⟩
  exact ⟨T', M', k1, k2, by rw [textF_len, hl], hb, zrow_ints r.r1⟩
theorem may_ok {l : List Ob} {nm : ByteArray} {m : Nat} {x : Nat × Int} {T M : Option Addr} {cT cM : Nat} {w : World} (hL : Lnk l nm (m : Int) x) (hT : IntsAt w T .u32 (textF l l.length)) (hc : ∀ i, i < l.length → ∀ k, k < (ob l i).code.length → 0 ≤ nth (ob l i).code k ∧ nth (ob l i).code k < 4294967296) :
    Calls Tryz.prog 20 #[.agg #[.slice T (bsF l l.length) cT, .int .i64 ((bsF l x.1 : Int) + x.2), .slice M m cM]] w fun e w' => e = .returned (.tuple #[.int .i64 0, .int .i64 0]) ∧ Below w.heap.size w w' := by
  have hs := hL.short
  have h1 := hL.m1
  have C := icheck_any T M cT m cM ((bsF l x.1 : Int) + x.2) (textF l l.length) w hT (text_range hc) (by rw [textF_len]; omega) (by omega)
  have e := may_zero hL.may
  rw [Int.toNat_natCast] at e
  rw [e, textF_len] at C
  exact C
/-- Bases tells all bases. -/
theorem bas_all {l : List Ob} {nm : ByteArray} {mem : Int} {x : Nat × Int} {w w' : World} {e : Ending} (hL : Lnk l nm mem x) (h : BasP l w e w') : ∃ (B : Option Addr) (c : Nat), e = .returned (.tuple #[.slice B l.length c, .int .i64 0]) ∧ IntsAt w' B .i64 (basT l l.length) ∧ Below w.heap.size w w' := by
  obtain ⟨B, c, e1, r, hb⟩ := h
  obtain ⟨h0, h1⟩ := bas_none (by have := hL.res.few; omega) hL.near
  rw [h1, basT_len] at e1 r
  rw [h0] at e1
  exact ⟨B, c, e1, own_intsV r, hb⟩
/-- Resolve tells all places. -/
theorem res_all {l : List Ob} {nm : ByteArray} {mem : Int} {x : Nat × Int} {w w' : World} {e : Ending} {TS TD : TypeId} (hE : lnkE l nm mem = none) (_hL : Lnk l nm mem x) (h : ResP TS TD l w e w') : ∃ (D : Option Addr) (c : Nat), e = .returned (.tuple #[.slice D l.length c, .int .i64 0, .int .i64 0, .int .i64 0]) ∧ RowsAt w' D (rowsT l l.length) ∧ Below w.heap.size w w' := by
  have hr : resE l = none := by
    unfold lnkE at hE
    split at hE
    · cases hE
    · split at hE
      · cases hE
      · assumption
  obtain ⟨D, c, vs, e1, r, hb⟩ := h
  have hl : resL l = rowsT l l.length := by unfold resL; rw [hr]
  rw [hl, rowsT_len] at e1 r
  rw [hr] at e1
  exact ⟨D, c, e1, rows_at r, hb⟩
theorem fnd_all {l : List Ob} {nm : ByteArray} {mem : Int} {x : Nat × Int} {w w' : World} {e : Ending} (hL : Lnk l nm mem x) (h : DefP (findF nm l) w e w') : e = .returned (.tuple #[.agg #[.int .i64 (x.1 : Int), .int .i64 x.2], .bool true]) ∧ Below w.heap.size w w' := by
  rw [hL.found] at h
  exact h

end Go.Proofs.YthpkekpojhmaaaaGreatDoor

namespace Go.Proofs.YthpkekpojhmaaaaGreatDoor
open Go.RowKit

theorem nat_up (j : Nat) : Value.int .i64 ((j : Int) + 1) = .int .i64 ((j + 1 : Nat) : Int) := by rw [Int.natCast_succ]
theorem meas_up {n j : Nat} (h : j < n) : n - (intOf (.int .i64 ((j : Int) + 1))).toNat < n - (intOf (.int .i64 (j : Int))).toNat := by
  simp [intOf]
  omega
theorem atR_ge (rs : List Rel) (p : Int) : -1 ≤ atR rs p := by
  by_cases h : 0 ≤ atR rs p
  · omega
  · unfold atR at h ⊢
    have key : ∀ (l : List Rel) (k : Nat), -1 ≤ atFrom l p k := by
      intro l
      induction l with
      | nil => intro k; simp [atFrom]
      | cons a l ih =>
        intro k
        unfold atFrom
        split
        · omega
        · exact ih (k + 1)
    exact key rs 0
theorem one_g {p : Pl} {o : Ob} : ∀ u ∈ gCells p o, u.oneCell' = true := fun u hu => by
  simp only [gCells, List.mem_cons, List.not_mem_nil, or_false] at hu
  rcases hu with rfl | rfl | rfl | rfl | rfl | rfl <;> rfl
/-- An object that was read: memory of its own. -/
def ReadO (b : Nat) (w : World) (p : Pl) (o : Ob) : Prop := RowsO w b p.A1 p.A2 p.A3 p.A4 p.c1 p.c2 p.c3 p.c4 o.code o.data o.ss o.rs
theorem readO_quiet {b : Nat} (w w' : World) (p : Pl) (o : Ob) (h : ReadO b w p o) (hq : QuietT 75 w w') : ReadO b w' p o := ⟨own_quiet h.r1 (by decide) hq, own_quiet h.r2 (by decide) hq, own_quiet h.r3 (by decide) hq, own_quiet h.r4 (by decide) hq⟩
theorem readO_in {b : Nat} {w w0 : World} {p p0 : Pl} {o : Ob} (h : ReadO b w p o) (h0 : ObIn w0 p0 o) : ObIn w p o := by
  obtain ⟨_, c, e4, h4⟩ := own_any h.r4
  refine ⟨row_ints h.r1, row_ints h.r2, row_syms h.r3, row_rels h.r4, h0.cr, h0.dr, h0.da, h0.hc, h0.hd, h0.hs, h0.hl, h0.hN, ?_⟩
  cases e4
  exact h4
theorem grown_in {b : Nat} {w w0 : World} {A A0 : Option Addr} {c : Nat} {q q0 : Nat → Pl} {l : List Ob} (h : Grown 75 (ReadO b) w b (.slice A l.length c) q l l.length) (h0 : ObsIn w0 A0 q0 l) : ObsIn w A q l := ⟨gr_obs h.row, fun i hi => readO_in (h.each i hi) (h0.each i hi), h0.few⟩
theorem info75 : ∃ i, Tryz.prog.info? 75 = some i ∧ i.zero = some (.agg #[.string ⟨#[]⟩, .slice none 0 0, .int .i64 0, .slice none 0 0, .slice none 0 0, .slice none 0 0]) ∧ i.size = 6 ∧ i.bytes = 120 :=
  ⟨(Tryz.prog.info? 75).get (by kernel_rfl), by kernel_rfl, by kernel_rfl, by kernel_rfl, by kernel_rfl⟩
theorem copy6 {w : World} {B : Nat} {p : Pl} {o : Ob} (h : CopyAt w B p o) : w.cell? ⟨B, 0, none⟩ = some (.string o.nm) ∧ w.cell? ⟨B, 1, none⟩ = some (.slice p.A1 o.code.length p.c1) ∧ w.cell? ⟨B, 2, none⟩ = some (.int .i64 o.dA) ∧ w.cell? ⟨B, 3, none⟩ = some (.slice p.A2 o.data.length p.c2) ∧ w.cell? ⟨B, 4, none⟩ = some (.slice p.A3 o.ss.length p.c3) ∧ w.cell? ⟨B, 5, none⟩ = some (.slice p.A4 o.rs.length p.c4) := by
  refine ⟨?_, ?_, ?_, ?_, ?_, ?_⟩ <;> simp [World.cell?, show w.heap[B]? = _ from h]
theorem CopyAt.keep {w w1 : World} {B : Nat} {p : Pl} {o : Ob} (h : CopyAt w B p o) (hb : Below w.heap.size w w1) : CopyAt w1 B p o := (hb.block _ (Array.getElem?_eq_some_iff.1 h).1).trans h
theorem grown_form {T : TypeId} {P : World → Pl → Ob → Prop} {w : World} {b : Nat} {V : Value} {q : Nat → Pl} {l : List Ob} {k : Nat} (h : Grown T P w b V q l k) : ∃ (O : Option Addr) (c : Nat), V = .slice O k c := by
  obtain ⟨O, c, e, -⟩ := own_any h.row
  exact ⟨O, c, e⟩

end Go.Proofs.YthpkekpojhmaaaaGreatDoor

namespace Go.Proofs.YthpkekpojhmaaaaGreatDoor
open Go.RowKit

theorem read_step {w5 w w1 : World} {O : Option Addr} {c : Nat} {v : Value} {q : Nat → Pl} {l : List Ob} {k : Nat} {p : Pl} (h : Grown 75 (ReadO w5.heap.size) w w5.heap.size (.slice O k c) q l k) (hp : ReadO w5.heap.size w p (ob l k)) (hK : Below w5.heap.size w5 w) (o : Obj) (hown : w1.ownsRow w5.heap.size 75 6 v (k + 1) (gsCells q l k ++ gCells p (ob l k))) (hg : (w.alloc o).grownBy w1 (Value.slice O k c).ownBlock) :
    ∃ (gv cv : Nat), v = .slice (some ⟨gv, 0, none⟩) (k + 1) cv ∧ Hid (Grown 75 (ReadO w5.heap.size) w1 w5.heap.size (.slice (some ⟨gv, 0, none⟩) (k + 1) cv) (updQ q k p) l (k + 1)) ∧ Hid (Below w5.heap.size w5 w1) := by
  obtain ⟨gv, cv, rfl⟩ := ownsRow_succ hown
  exact ⟨gv, cv, rfl, h.next readO_quiet hp o hown hg, (lb_alloc hK _).grown hg (by have := hK.size; simp; omega) (fun b hb => ((h.row.alloc o).lt b hb).1)⟩

end Go.Proofs.YthpkekpojhmaaaaGreatDoor
