/-
  Ends, Falls, Target and Aim of package isa, over what Decode, Has and Encode return; no other condition. Has of package isa, for every op that is an int8's number. Ends, Falls, Target and Aim of package isa, each by what it returns; a word is of 32 bits. leaves and Check of package image, by what they return; each word is of 32 bits.
-/
import Derived.Test.YtokhclindfipbaaGreatDoorProg
import Derived.Test.YtokhclindfipbaaGreatDoorPa24
import Derived.Test.YtokhclindfipbaaGreatDoorPa23
import Derived.WalkKit
import Derived.WalkSpells
import Derived.WalkLawsBesides
import Derived.RowKit3
import Derived.Below
import Derived.Deep.QuietTactic
import Derived.BigQuiet
import Derived.WalkSmall
import Derived.Laws.Rows
import Derived.Test.YtokhclindfipbaaGreatDoorPa03
namespace Go.Proofs.YtokhclindfipbaaGreatDoor
open Go.RowKit

theorem fallsm1 (v d a b n : Int) (w : World) (CE : ∀ wx : World, Calls Tryz.prog 111 #[.int .u32 v] wx fun e w' => e = .returned (.agg #[.int .i8 (-1), .int .i8 d, .int .i8 a, .int .i8 b, .int .i64 n]) ∧ Below wx.heap.size wx w') : Calls Tryz.prog 114 #[.int .u32 v] w fun e w' => e = .returned (.bool false) ∧ Below w.heap.size w w' := by
  go_enter Tryz.func114, Tryz.ntmps114
  go_wp2_with (go_at_call 111; refine (CE _).mono ?_; rintro e w1 ⟨rfl, hb⟩)
  go_ret
  exact ⟨rfl, hb⟩
theorem falls0 (v d a b n : Int) (w : World) (CE : ∀ wx : World, Calls Tryz.prog 111 #[.int .u32 v] wx fun e w' => e = .returned (.agg #[.int .i8 (0), .int .i8 d, .int .i8 a, .int .i8 b, .int .i64 n]) ∧ Below wx.heap.size wx w') : Calls Tryz.prog 114 #[.int .u32 v] w fun e w' => e = .returned (.bool false) ∧ Below w.heap.size w w' := by
  go_enter Tryz.func114, Tryz.ntmps114
  go_wp2_with (go_at_call 111; refine (CE _).mono ?_; rintro e w1 ⟨rfl, hb⟩)
  go_ret
  exact ⟨rfl, hb⟩
theorem falls15 (v d a b n : Int) (w : World) (CE : ∀ wx : World, Calls Tryz.prog 111 #[.int .u32 v] wx fun e w' => e = .returned (.agg #[.int .i8 (15), .int .i8 d, .int .i8 a, .int .i8 b, .int .i64 n]) ∧ Below wx.heap.size wx w') : Calls Tryz.prog 114 #[.int .u32 v] w fun e w' => e = .returned (.bool false) ∧ Below w.heap.size w w' := by
  go_enter Tryz.func114, Tryz.ntmps114
  go_wp2_with (go_at_call 111; refine (CE _).mono ?_; rintro e w1 ⟨rfl, hb⟩)
  go_ret
  exact ⟨rfl, hb⟩
theorem falls17 (v d a b n : Int) (w : World) (CE : ∀ wx : World, Calls Tryz.prog 111 #[.int .u32 v] wx fun e w' => e = .returned (.agg #[.int .i8 (17), .int .i8 d, .int .i8 a, .int .i8 b, .int .i64 n]) ∧ Below wx.heap.size wx w') : Calls Tryz.prog 114 #[.int .u32 v] w fun e w' => e = .returned (.bool false) ∧ Below w.heap.size w w' := by
  go_enter Tryz.func114, Tryz.ntmps114
  go_wp2_with (go_at_call 111; refine (CE _).mono ?_; rintro e w1 ⟨rfl, hb⟩)
  go_ret
  exact ⟨rfl, hb⟩
theorem falls18 (v d a b n : Int) (w : World) (CE : ∀ wx : World, Calls Tryz.prog 111 #[.int .u32 v] wx fun e w' => e = .returned (.agg #[.int .i8 (18), .int .i8 d, .int .i8 a, .int .i8 b, .int .i64 n]) ∧ Below wx.heap.size wx w') : Calls Tryz.prog 114 #[.int .u32 v] w fun e w' => e = .returned (.bool false) ∧ Below w.heap.size w w' := by
  go_enter Tryz.func114, Tryz.ntmps114
  go_wp2_with (go_at_call 111; refine (CE _).mono ?_; rintro e w1 ⟨rfl, hb⟩)
  go_ret
  exact ⟨rfl, hb⟩
theorem falls19 (v d a b n : Int) (w : World) (CE : ∀ wx : World, Calls Tryz.prog 111 #[.int .u32 v] wx fun e w' => e = .returned (.agg #[.int .i8 (19), .int .i8 d, .int .i8 a, .int .i8 b, .int .i64 n]) ∧ Below wx.heap.size wx w') : Calls Tryz.prog 114 #[.int .u32 v] w fun e w' => e = .returned (.bool false) ∧ Below w.heap.size w w' := by
  go_enter Tryz.func114, Tryz.ntmps114
  go_wp2_with (go_at_call 111; refine (CE _).mono ?_; rintro e w1 ⟨rfl, hb⟩)
  go_ret
  exact ⟨rfl, hb⟩
theorem falls21 (v d a b n : Int) (w : World) (CE : ∀ wx : World, Calls Tryz.prog 111 #[.int .u32 v] wx fun e w' => e = .returned (.agg #[.int .i8 (21), .int .i8 d, .int .i8 a, .int .i8 b, .int .i64 n]) ∧ Below wx.heap.size wx w') : Calls Tryz.prog 114 #[.int .u32 v] w fun e w' => e = .returned (.bool false) ∧ Below w.heap.size w w' := by
  go_enter Tryz.func114, Tryz.ntmps114
  go_wp2_with (go_at_call 111; refine (CE _).mono ?_; rintro e w1 ⟨rfl, hb⟩)
  go_ret
  exact ⟨rfl, hb⟩
theorem fallsno (v x d a b n : Int) (w : World) (CE : ∀ wx : World, Calls Tryz.prog 111 #[.int .u32 v] wx fun e w' => e = .returned (.agg #[.int .i8 x, .int .i8 d, .int .i8 a, .int .i8 b, .int .i64 n]) ∧ Below wx.heap.size wx w') (hm1 : (x == -1) = false) (h0 : (x == 0) = false) (h15 : (x == 15) = false) (h17 : (x == 17) = false) (h18 : (x == 18) = false) (h19 : (x == 19) = false) (h21 : (x == 21) = false) : Calls Tryz.prog 114 #[.int .u32 v] w fun e w' => e = .returned (.bool true) ∧ Below w.heap.size w w' := by
  go_enter Tryz.func114, Tryz.ntmps114
  go_wp2_with (go_at_call 111; refine (CE _).mono ?_; rintro e w1 ⟨rfl, hb⟩)
  go_ret
  exact ⟨rfl, hb⟩
theorem falls_of (v x d a b n : Int) (w : World) (CE : ∀ wx : World, Calls Tryz.prog 111 #[.int .u32 v] wx fun e w' => e = .returned (.agg #[.int .i8 x, .int .i8 d, .int .i8 a, .int .i8 b, .int .i64 n]) ∧ Below wx.heap.size wx w') : Calls Tryz.prog 114 #[.int .u32 v] w fun e w' => e = .returned (.bool (!endsB x || x == 16)) ∧ Below w.heap.size w w' := by
  by_cases hm1 : x = -1
  · subst hm1; exact fallsm1 v d a b n w CE
  by_cases h0 : x = 0
  · subst h0; exact falls0 v d a b n w CE
  by_cases h15 : x = 15
  · subst h15; exact falls15 v d a b n w CE
  by_cases h17 : x = 17
  · subst h17; exact falls17 v d a b n w CE
  by_cases h18 : x = 18
  · subst h18; exact falls18 v d a b n w CE
  by_cases h19 : x = 19
  · subst h19; exact falls19 v d a b n w CE
  by_cases h21 : x = 21
  · subst h21; exact falls21 v d a b n w CE
  have e : (!endsB x || x == 16) = true := by
    by_cases h16 : x = 16
    · subst h16; rfl
    · have : endsB x = false := by unfold endsB; exact decide_eq_false (by omega)
      rw [this]; rfl
  rw [e]
  exact fallsno v x d a b n w CE (by simpa using hm1) (by simpa using h0) (by simpa using h15) (by simpa using h17) (by simpa using h18) (by simpa using h19) (by simpa using h21)

theorem ends_of (v x d a b n : Int) (F : Bool) (w : World) (CE : ∀ wx : World, Calls Tryz.prog 111 #[.int .u32 v] wx fun e w' => e = .returned (.agg #[.int .i8 x, .int .i8 d, .int .i8 a, .int .i8 b, .int .i64 n]) ∧ Below wx.heap.size wx w') (CF : ∀ wx : World, Calls Tryz.prog 114 #[.int .u32 v] wx fun e w' => e = .returned (.bool F) ∧ Below wx.heap.size wx w') : Calls Tryz.prog 103 #[.int .u32 v] w fun e w' => e = .returned (.bool (!F || x == 16)) ∧ Below w.heap.size w w' := by
  cases F
  · go_enter Tryz.func103, Tryz.ntmps103
    go_wp2_with fail
    refine (CF _).mono ?_
    rintro e w1 ⟨rfl, hb⟩
    go_wp2
    go_ret
    exact ⟨rfl, hb⟩
  · go_enter Tryz.func103, Tryz.ntmps103
    go_wp2_with fail
    refine (CF _).mono ?_
    rintro e w1 ⟨rfl, hb⟩
    go_wp2_with fail
    refine (CE _).mono ?_
    rintro e w2 ⟨rfl, hb2⟩
    go_wp2
    go_ret
    exact ⟨by simp, bel_trans hb hb2⟩
theorem ends_falls (x : Int) : (!(!endsB x || x == 16) || x == 16) = endsB x := by
  by_cases h16 : x = 16
  · subst h16; rfl
  · have : (x == 16) = false := by simpa using h16
    rw [this]; simp

theorem target_of (v x d a b n : Int) (p1 p2 p3 p4 p : Bool) (w : World) (CE : ∀ wx : World, Calls Tryz.prog 111 #[.int .u32 v] wx fun e w' => e = .returned (.agg #[.int .i8 x, .int .i8 d, .int .i8 a, .int .i8 b, .int .i64 n]) ∧ Below wx.heap.size wx w') (CH : ∀ wx : World, Calls Tryz.prog 112 #[.int .i8 x] wx fun e w' => e = .returned (.tuple #[.bool p1, .bool p2, .bool p3, .bool p4, .bool p]) ∧ Below wx.heap.size wx w') : Calls Tryz.prog 98 #[.int .u32 v] w fun e w' => e = .returned (.tuple #[.int .i64 (if p then n else 0), .bool p]) ∧ Below w.heap.size w w' := by
  cases p
  · go_enter Tryz.func98, Tryz.ntmps98
    go_wp2_with fail
    refine (CE _).mono ?_
    rintro e w1 ⟨rfl, hb⟩
    go_wp2_with fail
    refine (CH _).mono ?_
    rintro e w2 ⟨rfl, hb2⟩
    go_wp2
    go_ret2
    exact ⟨rfl, bel_trans (bel_alloc hb _) hb2⟩
  · go_enter Tryz.func98, Tryz.ntmps98
    go_wp2_with fail
    refine (CE _).mono ?_
    rintro e w1 ⟨rfl, hb⟩
    go_wp2_with fail
    refine (CH _).mono ?_
    rintro e w2 ⟨rfl, hb2⟩
    have c4 : w2.cell? ⟨w1.heap.size, 4, none⟩ = some (.int .i64 n) := cell_keep hb2 (by simp [go_sem])
    have HB : Hid (Below w.heap.size w w2) := bel_trans (bel_alloc hb _) hb2
    clear hb hb2
    go_wp2
    go_ret2
    exact ⟨rfl, HB.out⟩




end Go.Proofs.YtokhclindfipbaaGreatDoor

namespace Go.Proofs.YtokhclindfipbaaGreatDoor
open Go.RowKit


set_option maxRecDepth 100000 in
theorem isahas_any (op : Int) (h8 : op ≤ 127) (w : World) : Calls Tryz.prog 112 #[.int .i8 op] w fun e w' => e = .returned (.tuple #[.bool (hD op), .bool (hA op), .bool (hB op), .bool (hN op), .bool (hP op)]) ∧ Below w.heap.size w w' := by
  have CK := known_any op h8
  by_cases hr : 0 ≤ op ∧ op ≤ 21
  · rw [decide_eq_true hr] at CK
    obtain ⟨b1, b2, b4, b8, b16⟩ := sh_bits op hr.1 hr.2
    have hI := index_sh op hr.1 hr.2
    have C1 := fun wx => fhas_any (sh op) 1 wx
    have C2 := fun wx => fhas_any (sh op) 2 wx
    have C4 := fun wx => fhas_any (sh op) 4 wx
    have C8 := fun wx => fhas_any (sh op) 8 wx
    have C16 := fun wx => fhas_any (sh op) 16 wx
    rw [b1] at C1; rw [b2] at C2; rw [b4] at C4; rw [b8] at C8; rw [b16] at C16
    clear b1 b2 b4 b8 b16
    go_enter Tryz.func112, Tryz.ntmps112
    go_wp2_with fail
    refine (CK _).mono ?_
    rintro e w1 ⟨rfl, rfl⟩
    go_wp2_with fail
    refine (shapes_any _).mono ?_
    rintro e w2 ⟨rfl, hb⟩
    have HB : Hid (Below w1.heap.size w1 w2) := hb
    clear hb CK
    go_wp2_with fail
    refine (C1 _).mono ?_
    rintro e w3 ⟨rfl, rfl⟩
    go_wp2_with fail
    refine (C2 _).mono ?_
    rintro e w3 ⟨rfl, rfl⟩
    go_wp2_with fail
    refine (C4 _).mono ?_
    rintro e w3 ⟨rfl, rfl⟩
    go_wp2_with fail
    refine (C8 _).mono ?_
    rintro e w3 ⟨rfl, rfl⟩
    go_wp2_with fail
    refine (C16 _).mono ?_
    rintro e w3 ⟨rfl, rfl⟩
    go_wp2
    exact bodyPost_ret (v := .tuple #[.bool (hD op), .bool (hA op), .bool (hB op), .bool (hN op), .bool (hP op)]) (by simp [results, Tryz.results112, go_sem]) rfl ⟨rfl, HB.out⟩
  · rw [decide_eq_false hr] at CK
    have e1 : hD op = false := by unfold hD; exact decide_eq_false (by omega)
    have e2 : hA op = false := by unfold hA; exact decide_eq_false (by omega)
    have e3 : hB op = false := by unfold hB; exact decide_eq_false (by omega)
    have e4 : hN op = false := by unfold hN; exact decide_eq_false (by omega)
    have e5 : hP op = false := by unfold hP; exact decide_eq_false (by omega)
    rw [e1, e2, e3, e4, e5]
    clear e1 e2 e3 e4 e5
    go_enter Tryz.func112, Tryz.ntmps112
    go_wp2_with fail
    refine (CK _).mono ?_
    rintro e w1 ⟨rfl, rfl⟩
    go_wp2
    exact bodyPost_ret (v := .tuple #[.bool false, .bool false, .bool false, .bool false, .bool false]) (by simp [results, Tryz.results112, go_sem]) rfl ⟨rfl, Below.refl _ _⟩









end Go.Proofs.YtokhclindfipbaaGreatDoor

namespace Go.Proofs.YtokhclindfipbaaGreatDoor
open Go.RowKit

theorem dOp_le {v : Int} (h1 : v < 4294967296) : dOp v ≤ 31 := by
  unfold dOp wOp; split <;> omega
theorem isafalls_any (v : Int) (h0 : 0 ≤ v) (h1 : v < 4294967296) (w : World) : Calls Tryz.prog 114 #[.int .u32 v] w fun e w' => e = .returned (.bool (!endsB (dOp v) || dOp v == 16)) ∧ Below w.heap.size w w' :=
  falls_of v _ _ _ _ _ w (isadecode_any v h0 h1)
theorem isaends_any (v : Int) (h0 : 0 ≤ v) (h1 : v < 4294967296) (w : World) : Calls Tryz.prog 103 #[.int .u32 v] w fun e w' => e = .returned (.bool (endsB (dOp v))) ∧ Below w.heap.size w w' := by
  have h := ends_of v _ _ _ _ _ _ w (isadecode_any v h0 h1) (isafalls_any v h0 h1)
  rw [ends_falls] at h
  exact h
theorem isT_hP (v : Int) : isT v = hP (dOp v) := by
  unfold isT
  cases h : hP (dOp v)
  · simp
  · unfold hP at h
    simp at h
    rw [decide_eq_true (by omega)]; rfl
theorem isatarget_any (v : Int) (h0 : 0 ≤ v) (h1 : v < 4294967296) (w : World) : Calls Tryz.prog 98 #[.int .u32 v] w fun e w' => e = .returned (.tuple #[.int .i64 (tgV v), .bool (isT v)]) ∧ Below w.heap.size w w' := by
  have h := target_of v _ _ _ _ _ _ _ _ _ _ w (isadecode_any v h0 h1) (isahas_any (dOp v) (by have := dOp_le h1; omega))
  rw [← isT_hP] at h
  exact h
theorem aim_no {v p : Int} (hT : isT v = true) (hp : ¬ (0 ≤ p ∧ p < 16384)) : encV (dOp v) (dD v) (dA v) (dB v) p = 0 ∧ encE (dOp v) (dD v) (dA v) (dB v) p = 11 := by
  rw [isT_hP] at hT
  have hN := hP_hN _ hT
  have hr : ¬ (dOp v < 0 ∨ 21 < dOp v) := by unfold hP at hT; simp at hT; omega
  refine encE_no hr ?_
  unfold insOK numOK
  rw [hT, hN, decide_eq_false hp]
  simp



end Go.Proofs.YtokhclindfipbaaGreatDoor

namespace Go.Proofs.YtokhclindfipbaaGreatDoor
open Go.RowKit

theorem leaves_any (v : Int) (h0 : 0 ≤ v) (h1 : v < 4294967296) (w : World) : Calls Tryz.prog 99 #[.int .u32 v] w fun e w' => e = .returned (.bool (lastOK v)) ∧ Below w.heap.size w w' := by
  have C := isadecode_any v h0 h1 w
  unfold lastOK
  generalize dOp v = x at *
  generalize dD v = x1 at *
  generalize dA v = x2 at *
  generalize dB v = x3 at *
  generalize dN v = x4 at *
  go_enter Tryz.func99, Tryz.ntmps99
  go_wp2_with fail
  refine C.mono ?_
  rintro e w1 ⟨rfl, hb⟩
  clear C
  go_wp2
  all_goals (
    go_ret
    refine ⟨retB ?_, hb⟩
    simp_all)
theorem lb_box0 {w w1 : World} {B : Nat} {cs : Array Value} {t : TypeId} (h : w.heap[B]? = some (.cells cs t (0, 0))) (hb : Below w.heap.size w w1) : w1.heap[B]? = some (.cells cs t (0, 0)) := by
  rw [hb.block B (Array.getElem?_eq_some_iff.1 h).1]; exact h
def ChkP (E N : Int) (w : World) (e : Ending) (w' : World) : Prop := e = .returned (.tuple #[.int .i64 E, .int .i64 N]) ∧ Below w.heap.size w w'
set_option maxRecDepth 100000 in
set_option maxHeartbeats 1000000 in
theorem check_any (A1 A2 : Option Addr) (c1 ml c2 : Nat) (ent : Int) (text : List Int) (w : World) (hT : IntsAt w A1 .u32 text) (hR : ∀ i, i < text.length → 0 ≤ nth text i ∧ nth text i < 4294967296) (hl : text.length ≤ 1048576) (hm : ml ≤ 1048576) :
    Calls Tryz.prog 75 #[.agg #[.slice A1 text.length c1, .int .i64 ent, .slice A2 ml c2]] w (ChkP (checkI text ml ent).1 (checkI text ml ent).2 w) := by
  by_cases h0 : text.length = 0
  · rw [check0 h0, h0]
    go_enter Tryz.func75, Tryz.ntmps75
    go_wp2
    go_ret2
    exact ⟨rfl, lb_alloc (Below.refl _ _) _⟩
  have n0 : ((text.length : Int) == 0) = false := by simpa using h0
  by_cases h1 : 16384 < text.length
  · rw [check1 h0 h1]
    go_enter Tryz.func75, Tryz.ntmps75
    go_wp2
    go_ret2
    exact ⟨rfl, lb_alloc (Below.refl _ _) _⟩
  by_cases h2 : 4096 < ml
  · rw [check2 h0 h1 h2]
    go_enter Tryz.func75, Tryz.ntmps75
    go_wp2
    go_ret2
    exact ⟨rfl, lb_alloc (Below.refl _ _) _⟩
  by_cases h3 : ent < 0
  · rw [check3 h0 h1 h2 (.inl h3)]
    go_enter Tryz.func75, Tryz.ntmps75
    go_wp2
    go_ret2
    exact ⟨rfl, lb_alloc (Below.refl _ _) _⟩
  by_cases h4 : (text.length : Int) ≤ ent
  · rw [check3 h0 h1 h2 (.inr h4)]
    go_enter Tryz.func75, Tryz.ntmps75
    go_wp2
    go_ret2
    exact ⟨rfl, lb_alloc (Below.refl _ _) _⟩
  have HP : Hid (Past text ml ent) := ⟨by omega, by omega, by omega, by omega, by omega⟩
  have HB0 : Hid (Below w.heap.size w (w.alloc (.cells #[.slice A1 text.length c1, .int .i64 ent, .slice A2 ml c2] 25))) := lb_alloc (Below.refl _ _) _
  have HX : Hid ((w.alloc (.cells #[.slice A1 text.length c1, .int .i64 ent, .slice A2 ml c2] 25)).heap[w.heap.size]? = some (.cells #[.slice A1 text.length c1, .int .i64 ent, .slice A2 ml c2] 25 (0, 0))) := heap_alloc_new _ _
  have HS : Hid (∀ i, i < text.length → ∃ a : Addr, A1 = some a) := fun i hi => (hT i hi).imp fun a h => h.1
  clear h1 h2 h3 h4
  have hlen : text.length ≤ 16384 := HP.out.len
  have hml := HP.out.mem
  have hpos := HP.out.pos
  have he0 := HP.out.ent0
  have he1 := HP.out.ent1
  go_enter Tryz.func75, Tryz.ntmps75
  go_wp2
  go_loopw [37] (fun i wr => ∃ k : Nat, i = .int .i64 k ∧ k ≤ text.length ∧ Hid (∀ j, j < k → farT text j = false) ∧ Hid (Below (w.alloc (.cells #[.slice A1 text.length c1, .int .i64 ent, .slice A2 ml c2] 25)).heap.size (w.alloc (.cells #[.slice A1 text.length c1, .int .i64 ent, .slice A2 ml c2] 25)) wr)) (fun i _ => text.length - (intOf i).toNat)
  case atStart => exact ⟨0, rfl, by omega, fun j hj => by omega, Below.refl _ _⟩
  case round =>
    obtain ⟨k, rfl, hk, hj, hb⟩ := hrel
    have HBr : Hid (Below w.heap.size w wr) := lb_trans HB0.out hb.out
    by_cases hlt : k < text.length
    · obtain ⟨a, rfl, q⟩ := (hT.keep HBr.out) k hlt
      obtain ⟨hv0, hv1⟩ := hR k hlt
      have C := isatarget_any (nth text k) hv0 hv1 wr
      have HF : Hid (farT text k = (isT (nth text k) && decide ((text.length : Int) ≤ tgV (nth text k)))) := rfl
      generalize nth text k = v at *
      generalize isT v = t at *
      generalize tgV v = z at *
      cases t with
      | false =>
        go_wp2_with (go_at_call 98; refine C.mono ?_; rintro e w1 ⟨rfl, hb1⟩)
        go_roundw
        case rel => exact ⟨k + 1, by go_num, by omega, fun j hj1 => by
          by_cases hjk : j = k
          · subst hjk; rw [HF.out]; rfl
          · exact hj.out j (by omega), lb_trans hb.out hb1⟩
        case measure => simp [intOf]; omega
      | true =>
        by_cases hz : (text.length : Int) ≤ z
        · go_wp2_with (go_at_call 98; refine C.mono ?_; rintro e w1 ⟨rfl, hb1⟩)
          go_ret2
          have e := check_far HP.out hlt hj.out (by rw [HF.out]; simpa using hz)
          rw [e]
          exact ⟨rfl, lb_trans HBr.out hb1⟩
        · go_wp2_with (go_at_call 98; refine C.mono ?_; rintro e w1 ⟨rfl, hb1⟩)
          go_roundw
          case rel => exact ⟨k + 1, by go_num, by omega, fun j hj1 => by
            by_cases hjk : j = k
            · subst hjk; rw [HF.out]; simpa using hz
            · exact hj.out j (by omega), lb_trans hb.out hb1⟩
          case measure => simp [intOf]; omega
    · obtain rfl : k = text.length := by omega
      obtain ⟨a, rfl, q⟩ := (hT.keep HBr.out) (text.length - 1) (by omega)
      have hx := lb_box0 HX.out hb.out
      have x0 : wr.cell? ⟨w.heap.size, 0, none⟩ = some (.slice (some a) text.length c1) := by simp [World.cell?, hx]
      obtain ⟨hv0, hv1⟩ := hR (text.length - 1) (by omega)
      have C := leaves_any (nth text (text.length - 1)) hv0 hv1 wr
      have HE : Hid _ := check_end HP.out hj.out
      have hc : ((text.length - 1 : Nat) : Int) = (text.length : Int) - 1 := by omega
      generalize nth text (text.length - 1) = v at *
      generalize lastOK v = t at *
      cases t with
      | true =>
        go_wp2_with (go_at_call 99; refine C.mono ?_; rintro e w1 ⟨rfl, hb1⟩)
        go_ret2
        rw [HE.out]
        exact ⟨rfl, lb_trans HBr.out hb1⟩
      | false =>
        go_wp2_with (go_at_call 99; refine C.mono ?_; rintro e w1 ⟨rfl, hb1⟩)
        go_ret2
        rw [HE.out]
        exact ⟨by simp; omega, lb_trans HBr.out hb1⟩










end Go.Proofs.YtokhclindfipbaaGreatDoor
