/-
  What is asked of a machine of the program's: made, Status, At, Steps, Taken, Register, the numbers and places of registers. What a deed of the program's machine answers. The program's machine: an address.
-/
import Derived.Test.YtgkdagnpefgjcaaGreatProg
import Derived.WalkKit
import Derived.WalkSpells
import Derived.WalkLawsBesides
import Derived.RowKit3
import Derived.Below
import Derived.Deep.QuietTactic
import Derived.BigQuiet
import Derived.WalkSmall
import Derived.Laws.Rows
import Derived.Deep.RegionHeld3
import Derived.Laws.Pointers
import Derived.Outline
import Derived.StillTactics
import Derived.Test.YtgkdagnpefgjcaaGreatPr22
import Derived.Test.YtgkdagnpefgjcaaGreatPr09
import Derived.Deep.DeepCutAuto
namespace Go.Proofs.YtgkdagnpefgjcaaGreat
open Go.RowKit

/-- What a step gives up with. -/
def stopM (f : Int) : Ending := .panicked [{ v := .iface 75 (.int .i8 f), recovered := false }]
section
variable {w : World} {base P : Nat} {s : Loc} {m : Mach}
theorem made_yes (h : PAt w base P s m) (hm : Fine m) : Calls Tryz.prog 22 #[.pointer (some ⟨P, 0, none⟩)] w fun e w' => e = .returned (.bool true) ∧ w' = w := by
  obtain ⟨c0, -⟩ := h.cells hm.sixteen
  have hl := hm.some
  go_enter Tryz.func22, Tryz.ntmps22
  go_wp2
  go_ret
  exact ⟨rfl, rfl⟩
theorem status_yes (h : PAt w base P s m) (hm : Fine m) : Calls Tryz.prog 23 #[.pointer (some ⟨P, 0, none⟩)] w fun e w' => e = .returned (.int .i8 m.status) ∧ w' = w := by
  have C := made_yes h hm
  obtain ⟨c0, c1, c34, c35, c36, c37, c38, c39⟩ := h.cells hm.sixteen
  clear h
  go_enter Tryz.func23, Tryz.ntmps23
  go_wp2_with fail
  refine C.mono ?_
  rintro e w1 ⟨rfl, rfl⟩
  go_wp2
  go_ret
  exact ⟨rfl, rfl⟩
theorem at_yes (h : PAt w base P s m) (hm : Fine m) : Calls Tryz.prog 10 #[.pointer (some ⟨P, 0, none⟩)] w fun e w' => e = .returned (.int .i64 m.pc) ∧ w' = w := by
  have C := made_yes h hm
  obtain ⟨c0, c1, c34, c35, c36, c37, c38, c39⟩ := h.cells hm.sixteen
  clear h
  go_enter Tryz.func10, Tryz.ntmps10
  go_wp2_with fail
  refine C.mono ?_
  rintro e w1 ⟨rfl, rfl⟩
  go_wp2
  go_ret
  exact ⟨rfl, rfl⟩
theorem number_no (h : PAt w base P s m) (hm : Fine m) (r : Nat) (hr : r < 16) (hc : wC m.regs r = true) : Calls Tryz.prog 74 #[.pointer (some ⟨P, 0, none⟩), .int .i8 r] w fun e w' => e = stopM 4 ∧ Below w.heap.size w w' := by
  obtain ⟨d0, d1⟩ := h.reg hm.sixteen hr
  rw [hc] at d1
  clear h
  go_enter Tryz.func74, Tryz.ntmps74
  go_wp2
  exact ⟨rfl, rfl, lb_alloc (Below.refl _ _) _⟩
theorem number_yes (h : PAt w base P s m) (hm : Fine m) (r : Nat) (hr : r < 16) (hc : wC m.regs r = false) : Calls Tryz.prog 74 #[.pointer (some ⟨P, 0, none⟩), .int .i8 r] w fun e w' => e = .returned (.int .i64 (wV m.regs r)) ∧ Below w.heap.size w w' := by
  obtain ⟨d0, d1⟩ := h.reg hm.sixteen hr
  rw [hc] at d1
  clear h
  go_enter Tryz.func74, Tryz.ntmps74
  go_wp2
  go_ret
  exact ⟨rfl, lb_alloc (Below.refl _ _) _⟩
theorem goal_no (h : PAt w base P s m) (hm : Fine m) (r : Nat) (hr : r < 16) (hc : wC m.regs r = false) : Calls Tryz.prog 76 #[.pointer (some ⟨P, 0, none⟩), .int .i8 r] w fun e w' => e = stopM 4 ∧ Below w.heap.size w w' := by
  obtain ⟨d0, d1⟩ := h.reg hm.sixteen hr
  rw [hc] at d1
  clear h
  go_enter Tryz.func76, Tryz.ntmps76
  go_wp2
  exact ⟨rfl, rfl, lb_alloc (Below.refl _ _) _⟩
theorem goal_yes (h : PAt w base P s m) (hm : Fine m) (r : Nat) (hr : r < 16) (hc : wC m.regs r = true) : Calls Tryz.prog 76 #[.pointer (some ⟨P, 0, none⟩), .int .i8 r] w fun e w' => e = .returned (.int .i64 (wV m.regs r)) ∧ Below w.heap.size w w' := by
  obtain ⟨d0, d1⟩ := h.reg hm.sixteen hr
  rw [hc] at d1
  clear h
  go_enter Tryz.func76, Tryz.ntmps76
  go_wp2
  go_ret
  exact ⟨rfl, lb_alloc (Below.refl _ _) _⟩
end
theorem raise_yes (w : World) : Calls Tryz.prog 72 #[.int .i8 0] w fun e w' => e = .returned (.tuple #[]) ∧ w' = w := by
  go_enter Tryz.func72, Tryz.ntmps72
  go_wp2
  go_end0
  exact ⟨rfl, rfl⟩
theorem raise_no (f : Int) (hf : ¬ f = 0) (w : World) : Calls Tryz.prog 72 #[.int .i8 f] w fun e w' => e = stopM f ∧ w' = w := by
  have hf' : (f == 0) = false := by simpa using hf
  go_enter Tryz.func72, Tryz.ntmps72
  go_wp2
  exact ⟨rfl, rfl, rfl⟩
section
variable {w : World} {base P : Nat} {s : Loc} {m : Mach}
theorem set_mid {hd W tl : List Value} {n i : Nat} (v : Value) (hn : n = hd.length + i) (hi : i < W.length) : (hd ++ (W ++ tl)).set n v = hd ++ (W.set i v ++ tl) := by
  subst hn
  rw [List.set_append_right _ _ (by omega), show hd.length + i - hd.length = i by omega, List.set_append_left _ _ hi]
theorem set_tail {hd W tl : List Value} {n i : Nat} (v : Value) (hn : n = hd.length + W.length + i) : (hd ++ (W ++ tl)).set n v = hd ++ (W ++ tl.set i v) := by
  subst hn
  rw [List.set_append_right _ _ (by omega), List.set_append_right _ _ (by omega), show hd.length + W.length + i - hd.length - W.length = i by omega]
theorem boxM_put (s : Loc) (m : Mach) (h : m.regs.length = 16) {k : Nat} (hk : k < 16) (x : Wd) : ((boxM s m).setIfInBounds (2 + k * 2) (.int .i64 x.1)).setIfInBounds (2 + k * 2 + 1) (.bool x.2) = boxM s (putM m k x) := by
  have hl := wVals_len m.regs
  have e := wVals_set (l := m.regs) (k := k) x
  simp only [boxM, List.setIfInBounds_toArray]
  rw [set_mid (i := k * 2) _ (by simp [hdM]) (by omega), set_mid (i := k * 2 + 1) _ (by simp [hdM]; omega) (by simp; omega), e]
  simp [putM, hdM, tlM]
theorem boxM_at (s : Loc) (m : Mach) (h : m.regs.length = 16) (k : Nat) (v : Value) : (boxM s m).setIfInBounds (34 + k) v = (hdM s m ++ (wVals m.regs ++ (tlM s m).set k v)).toArray := by
  have hl := wVals_len m.regs
  simp only [boxM, List.setIfInBounds_toArray]
  rw [set_tail (i := k) _ (by simp [hdM]; omega)]
theorem own_ne {e t : TypeId} {size n b : Nat} {v : Value} {xs : List Value} {cs : Array Value} (h : w.ownsRow base e size v n xs) (hv : v.ownBlock = some b) (hp : w.heap[P]? = some (.cells cs t (0, 0))) (ne : e ≠ t) : b ≠ P := by
  rintro rfl
  rcases h.2 with ⟨rfl, -⟩ | ⟨g, cap, cur, rfl, -, hg, -⟩
  · cases hv
  · simp only [Value.ownBlock, Option.some.injEq] at hv
    subst hv
    rw [hg] at hp
    cases hp
    exact ne rfl
/-- The box alone is other. -/
theorem PAt.rebox {w' : World} {m' : Mach} (h : PAt w base P s m) (hb : w'.heap[P]? = some (.cells (boxM s m') 70 (0, 0))) (ho : ∀ b, b ≠ P → w'.heap[b]? = w.heap[b]?) (e1 : m'.text = m.text) (e2 : m'.tape = m.tape) (e3 : m'.mem = m.mem) (e4 : m'.ports = m.ports) : PAt w' base P s m' :=
  ⟨hb, h.bP, by rw [e1]; exact own_stay h.text fun b e => ho b (own_ne h.text e h.box (by decide)), by rw [e2]; exact own_stay h.tape fun b e => ho b (own_ne h.tape e h.box (by decide)), by rw [e3]; exact own_stay h.mem fun b e => ho b (own_ne h.mem e h.box (by decide)), by rw [e4]; exact own_stay h.ports fun b e => ho b (own_ne h.ports e h.box (by decide))⟩
theorem PAt.put (h : PAt w base P s m) (hm : m.regs.length = 16) {k : Nat} (hk : k < 16) (x : Wd) : PAt ((w.setCell ⟨P, 2 + k * 2, none⟩ (.int .i64 x.1)).setCell ⟨P, 2 + k * 2 + 1, none⟩ (.bool x.2)) base P s (putM m k x) := by
  refine h.rebox ?_ (fun b hb => (Below.heap_setCell _ _ _ _ hb).trans (Below.heap_setCell _ _ _ _ hb)) rfl rfl rfl rfl
  rw [← boxM_put s m hm hk x]
  exact box_set (box_set h.box _ _) _ _
theorem Upto.set {F : Nat → Prop} {a b : World} (h : Upto F a b) {B : Nat} (hB : F B ∨ a.heap.size ≤ B) (i : Nat) (v : Value) : Upto F a (b.setCell ⟨B, i, none⟩ v) :=
  ⟨h.os, h.tape, h.output, by simpa [go_sem] using h.size, fun x hx hn => (Below.heap_setCell _ _ _ _ (fun e => by subst e; rcases hB with f | f; exact hn f; omega)).trans (h.block x hx hn)⟩
theorem put_any (h : PAt w base P s m) (hm : Fine m) (r : Nat) (hr : r < 16) (x : Wd) : Calls Tryz.prog 70 #[.pointer (some ⟨P, 0, none⟩), .int .i8 r, .agg #[.int .i64 x.1, .bool x.2]] w fun e w' => e = .returned (.int .i64 ((m.pc : Int) + 1)) ∧ PAt w' base P s (putM m r x) ∧ Upto (Foot s P) w w' := by
  have hq := ((h.put hm.sixteen hr x).alloc (.cells #[.int .i64 x.1, .bool x.2] 65)).drew
  obtain ⟨d0, d1⟩ := h.reg hm.sixteen hr
  obtain ⟨c0, c1, c34, c35, c36, c37, c38, c39⟩ := h.cells hm.sixteen
  have f0 := h.fro (2 + r * 2)
  have f1 := h.fro (2 + r * 2 + 1)
  have hP := h.lt
  have hpc := hm.pc
  clear h
  go_enter Tryz.func70, Tryz.ntmps70
  go_wp2_with fail
  go_region
  all_goals (
    go_wp2
    go_ret
    exact ⟨rfl, hq, ((((Upto.refl _ _).set (Or.inl (Or.inl rfl)) _ _).set (Or.inl (Or.inl rfl)) _ _).alloc _).drew⟩)
/-- Single cells behind the registers. -/
theorem PAt.pc (h : PAt w base P s m) (hm : m.regs.length = 16) (k : Nat) : PAt (w.setCell ⟨P, 36, none⟩ (.int .i64 k)) base P s { m with pc := k } := by
  refine h.rebox ?_ (fun b hb => Below.heap_setCell _ _ _ _ hb) rfl rfl rfl rfl
  rw [box_set h.box, show 36 = 34 + 2 from rfl, boxM_at s m hm]
  rfl
theorem PAt.steps (h : PAt w base P s m) (hm : m.regs.length = 16) (k : Nat) : PAt (w.setCell ⟨P, 37, none⟩ (.int .i64 k)) base P s { m with steps := k } := by
  refine h.rebox ?_ (fun b hb => Below.heap_setCell _ _ _ _ hb) rfl rfl rfl rfl
  rw [box_set h.box, show 37 = 34 + 3 from rfl, boxM_at s m hm]
  rfl
theorem PAt.taken (h : PAt w base P s m) (hm : m.regs.length = 16) (k : Nat) : PAt (w.setCell ⟨P, 38, none⟩ (.int .i64 k)) base P s { m with taken := k } := by
  refine h.rebox ?_ (fun b hb => Below.heap_setCell _ _ _ _ hb) rfl rfl rfl rfl
  rw [box_set h.box, show 38 = 34 + 4 from rfl, boxM_at s m hm]
  rfl
theorem PAt.status (h : PAt w base P s m) (hm : m.regs.length = 16) (k : Int) : PAt (w.setCell ⟨P, 39, none⟩ (.int .i8 k)) base P s { m with status := k } := by
  refine h.rebox ?_ (fun b hb => Below.heap_setCell _ _ _ _ hb) rfl rfl rfl rfl
  rw [box_set h.box, show 39 = 34 + 5 from rfl, boxM_at s m hm]
  rfl
end



end Go.Proofs.YtgkdagnpefgjcaaGreat

namespace Go.Proofs.YtgkdagnpefgjcaaGreat
open Go.RowKit

/-- A deed: it gives up, and nothing is other; or it tells the next place, and the machine is as r says. -/
def DidP (w : World) (base P : Nat) (s : Loc) (_m : Mach) (r : Did) (e : Ending) (w' : World) : Prop :=
  (¬ r.err = 0 ∧ e = stopM r.err ∧ Below w.heap.size w w') ∨ (r.err = 0 ∧ e = .returned (.int .i64 r.to) ∧ ∃ s', PAt w' base P s' r.m ∧ Upto (Foot s P) w w' ∧ ∀ b, Foot s' P b → Foot s P b ∨ w.heap.size ≤ b)
section
variable {w w' : World} {base P : Nat} {s : Loc} {m : Mach}
theorem did_no {f : Int} (hf : ¬ f = 0) (hb : Below w.heap.size w w') : DidP w base P s m (noD m f) (stopM f) w' := .inl ⟨hf, rfl, hb⟩
theorem did_yes {r : Did} {k : Int} (he : r.err = 0) (hk : k = r.to) (h : PAt w' base P s r.m) (hu : Upto (Foot s P) w w') : DidP w base P s m r (.returned (.int .i64 k)) w' := .inr ⟨he, by rw [hk], s, h, hu, fun _ hb => .inl hb⟩
theorem did_put {r : Nat} {x : Wd} {k : Int} (hk : k = (m.pc : Int) + 1) (h : PAt w' base P s (putM m r x)) (hu : Upto (Foot s P) w w') : DidP w base P s m (putD m r x) (.returned (.int .i64 k)) w' := did_yes rfl hk h hu
theorem wrap_pc {k : Nat} (h : k ≤ 16384) : IntKind.i64.wrap ((k : Int) + 1) = (k : Int) + 1 := by
  simp [IntKind.wrap, IntKind.signed, IntKind.bits]; omega
theorem have_wd {G : Prop} {w w1 : World} (p : Nat) (hb : Below w.heap.size w w1) (h : w.cell? ⟨p, 0, none⟩ = some (.int .i64 0) ∧ w.cell? ⟨p, 1, none⟩ = some (.bool false) ∧ w.frozen? ⟨p, 0, none⟩ = false ∧ w.frozen? ⟨p, 1, none⟩ = false) (k : w1.cell? ⟨p, 0, none⟩ = some (.int .i64 0) → w1.cell? ⟨p, 1, none⟩ = some (.bool false) → w1.frozen? ⟨p, 0, none⟩ = false → w1.frozen? ⟨p, 1, none⟩ = false → G) : G :=
  k (lkeep hb h.1) (lkeep hb h.2.1) ((hb.frozen (p := ⟨p, 0, none⟩) (World.block_lt_of_cell? w _ h.1)).trans h.2.2.1) ((hb.frozen (p := ⟨p, 1, none⟩) (World.block_lt_of_cell? w _ h.2.1)).trans h.2.2.2)
theorem lb_new {w w1 : World} {i : Nat} {v : Value} (h : Below w.heap.size w w1) : Below w.heap.size w (w1.setCell ⟨w.heap.size, i, none⟩ v) := h.setCell (p := ⟨w.heap.size, i, none⟩) (Nat.le_refl _) v
/-- The machine's box alone may be other, and of it the lists stand. -/
structure Near (P : Nat) (W0 W : World) : Prop where
  but : But P W0 W
  hdr : W.cell? ⟨P, 34, none⟩ = W0.cell? ⟨P, 34, none⟩
  tap : W.cell? ⟨P, 1, none⟩ = W0.cell? ⟨P, 1, none⟩
  tak : W.cell? ⟨P, 38, none⟩ = W0.cell? ⟨P, 38, none⟩
theorem Near.refl (P : Nat) (W : World) : Near P W W := ⟨But.refl _ _, rfl, rfl, rfl⟩
theorem Near.drew {P : Nat} {W0 W : World} (h : Near P W0 W) : Near P W0 W.drew := ⟨h.but, h.hdr, h.tap, h.tak⟩
theorem Near.trans {P : Nat} {a b c : World} (h : Near P a b) (k : Near P b c) : Near P a c := ⟨h.but.trans k.but, k.hdr.trans h.hdr, k.tap.trans h.tap, k.tak.trans h.tak⟩
theorem Near.below {P : Nat} {a b c : World} (h : Near P a b) (hb : Below b.heap.size b c) (hP : P < b.heap.size) : Near P a c := ⟨h.but.on hb, (hb.cell (p := ⟨P, 34, none⟩) hP).trans h.hdr, (hb.cell (p := ⟨P, 1, none⟩) hP).trans h.tap, (hb.cell (p := ⟨P, 38, none⟩) hP).trans h.tak⟩
theorem Near.box {P B i : Nat} {W0 W : World} {v : Value} (h : Near P W0 W) (hB : B ≠ P) (hc : W0.cell? ⟨B, i, none⟩ = some v) : W.cell? ⟨B, i, none⟩ = some v := h.but.cell (p := ⟨B, i, none⟩) hB hc
theorem Near.up {P : Nat} {W0 W : World} {s : Loc} (h : Near P W0 W) : Upto (Foot s P) W0 W := ⟨h.but.1, h.but.2.1, h.but.2.2.1, h.but.2.2.2.1, fun b hb hn => h.but.2.2.2.2 b hb (fun e => hn (.inl e))⟩
theorem put_near {base P : Nat} {s : Loc} {m : Mach} {w : World} (h : PAt w base P s m) (hm : Fine m) (r : Nat) (hr : r < 16) (x : Wd) : Calls Tryz.prog 70 #[.pointer (some ⟨P, 0, none⟩), .int .i8 r, .agg #[.int .i64 x.1, .bool x.2]] w fun e w' => e = .returned (.int .i64 ((m.pc : Int) + 1)) ∧ PAt w' base P s (putM m r x) ∧ Near P w w' := by
  have hq := ((h.put hm.sixteen hr x).alloc (.cells #[.int .i64 x.1, .bool x.2] 65)).drew
  obtain ⟨d0, d1⟩ := h.reg hm.sixteen hr
  obtain ⟨c0, c1, c34, c35, c36, c37, c38, c39⟩ := h.cells hm.sixteen
  have f0 := h.fro (2 + r * 2)
  have f1 := h.fro (2 + r * 2 + 1)
  have hP := h.lt
  have hpc := hm.pc
  have HC : Hid (w.cell? ⟨P, 34, none⟩ = some (.slice s.M m.mem.length s.mc) ∧ w.cell? ⟨P, 1, none⟩ = some (.slice s.X m.tape.length s.xc) ∧ w.cell? ⟨P, 38, none⟩ = some (.int .i64 m.taken)) := ⟨c34, c1, c38⟩
  have HN : Hid (But P w ((((w.setCell ⟨P, 2 + r * 2, none⟩ (.int .i64 x.1)).setCell ⟨P, 2 + r * 2 + 1, none⟩ (.bool x.2)).alloc (.cells #[.int .i64 x.1, .bool x.2] 65)).drew)) := (((But.refl P w).set _ _).set _ _).on (Below.drew (lb_alloc (Below.refl _ _) _))
  clear h
  go_enter Tryz.func70, Tryz.ntmps70
  go_wp2_with fail
  go_region
  all_goals (
    go_wp2
    go_ret
    obtain ⟨-, k1, k34, -, -, -, k38, -⟩ := hq.cells (m := putM m r x) (by simp [putM, hm.sixteen])
    exact ⟨rfl, hq, ⟨HN.out, k34.trans HC.out.1.symm, k1.trans HC.out.2.1.symm, k38.trans HC.out.2.2.symm⟩⟩)
theorem up_on {F : Nat → Prop} {w1 : World} (hb : Below w.heap.size w w1) (hu : Upto F w1 w') : Upto F w w' := (Upto.of hb).trans hu
end



end Go.Proofs.YtgkdagnpefgjcaaGreat

namespace Go.Proofs.YtgkdagnpefgjcaaGreat
open Go.RowKit

section
variable {w : World} {base P : Nat} {s : Loc} {m : Mach}
def AddrP (E V : Int) (w : World) (e : Ending) (w' : World) : Prop := ((E = 0 ∧ e = .returned (.int .i64 V)) ∨ (¬ E = 0 ∧ e = stopM E)) ∧ Below w.heap.size w w'
set_option maxHeartbeats 1000000 in
theorem address_any (h : PAt w base P s m) (hm : Fine m) {op d b n : Int} {j : Nat} (hj : j < 16) : Calls Tryz.prog 73 #[.pointer (some ⟨P, 0, none⟩), .agg #[.int .i8 op, .int .i8 d, .int .i8 j, .int .i8 b, .int .i64 n]] w (AddrP (aE m j n) (aV m j n) w) := by
  have zj : (0 : Int) ≤ (j : Int) := Int.natCast_nonneg _
  have yj : (j : Int) < 16 := by omega
  obtain ⟨W0, HW⟩ : ∃ W0, Hid (w.alloc (.cells #[.int .i8 op, .int .i8 d, .int .i8 j, .int .i8 b, .int .i64 n] 72) = W0) := ⟨_, rfl⟩
  have x0 : W0.cell? ⟨w.heap.size, 0, none⟩ = some (.int .i8 op) := by rw [← HW.out]; simp [go_sem]
  have x1 : W0.cell? ⟨w.heap.size, 1, none⟩ = some (.int .i8 d) := by rw [← HW.out]; simp [go_sem]
  have x2 : W0.cell? ⟨w.heap.size, 2, none⟩ = some (.int .i8 j) := by rw [← HW.out]; simp [go_sem]
  have x3 : W0.cell? ⟨w.heap.size, 3, none⟩ = some (.int .i8 b) := by rw [← HW.out]; simp [go_sem]
  have x4 : W0.cell? ⟨w.heap.size, 4, none⟩ = some (.int .i64 n) := by rw [← HW.out]; simp [go_sem]
  have h0 : PAt W0 base P s m := by rw [← HW.out]; exact h.alloc _
  have HB0 : Hid (Below w.heap.size w W0) := by unfold Hid; rw [← HW.out]; exact lb_alloc (Below.refl _ _) _
  have hz0 : w.heap.size < W0.heap.size := by rw [← HW.out]; simp
  have hP := h.lt
  have hWW := Below.refl W0.heap.size W0
  obtain ⟨d0, d1⟩ := h0.reg hm.sixteen hj
  have hml := hm.mlen
  obtain ⟨c0, c1, c34, c35, c36, c37, c38, c39⟩ := h0.cells hm.sixteen
  have C1 := addr_any (wV m.regs j) n m.mem.length (wC m.regs j)
  have HE : Hid (addrE (wV m.regs j) n m.mem.length (wC m.regs j) = aE m j n) := rfl
  have HV : Hid (addrV (wV m.regs j) n m.mem.length (wC m.regs j) = aV m j n) := rfl
  rw [HE.out, HV.out] at C1
  clear HE HV
  generalize aV m j n = V at *
  generalize aE m j n = E at *
  go_enter Tryz.func73, Tryz.ntmps73
  go_upto_region 1 with fail
  rw [HW.out]
  clear HW
  go_cut [5, 6] (fun x y wx => x = .int .i64 V ∧ y = .int .i8 E ∧ Hid (Below W0.heap.size W0 wx))
  case first =>
    go_region_held3 (fun W => Below W0.heap.size W0 W ∧ W.cell? ⟨w.heap.size, 2, none⟩ = some (.int .i8 j) ∧ W.cell? ⟨w.heap.size, 4, none⟩ = some (.int .i64 n) ∧ W.cell? ⟨P, 2 + j * 2, none⟩ = some (.int .i64 (wV m.regs j)) ∧ W.cell? ⟨P, 2 + j * 2 + 1, none⟩ = some (.bool (wC m.regs j)) ∧ W.cell? ⟨P, 34, none⟩ = some (.slice s.M m.mem.length s.mc))
      (first | (refine ⟨?_, lkeep ?_ x2, lkeep ?_ x4, lkeep ?_ d0, lkeep ?_ d1, lkeep ?_ c34⟩ <;> ((repeat (first | assumption | exact (‹Below _ _ _ ∧ _›).1 | apply Below.drew | apply lb_alloc | apply lb_new | refine lb_trans ?_ hb)); done)))
      (first | (go_at_call 90; refine (C1 _).mono ?_; rintro e w1 ⟨rfl, rfl⟩))

    all_goals (
      rename_i hS
      have sB : Hid _ := hS.1
      clear hS
      go_wp2_with fail
      go_meet
      exact ⟨rfl, rfl, sB⟩)
  case rest =>
    obtain ⟨rfl, rfl, HBc⟩ := hcut
    have HB9 : Hid (Below w.heap.size w wc) := lb_trans HB0.out HBc.out
    clear x0 x1 x2 x3 x4 d0 d1 c0 c1 c34 c35 c36 c37 c38 c39 C1
    by_cases he : E = 0
    · subst he
      have C3 := raise_yes wc
      go_wp2_with (first
        | (go_at_call 72; refine C3.mono ?_; rintro e w1 ⟨rfl, rfl⟩))
      go_ret
      exact ⟨.inl ⟨rfl, rfl⟩, HB9.out⟩
    · have C3 := raise_no E he wc
      go_wp2_with fail
      refine C3.mono ?_
      rintro e w1 ⟨rfl, rfl⟩
      unfold stopM
      go_wp2
      exact ⟨rfl, .inr ⟨he, rfl⟩, HB9.out⟩
end



end Go.Proofs.YtgkdagnpefgjcaaGreat
