/-
  The program takes lists of numbers of an input.
-/
import Derived.Test.YthfcimmfkibmjaaGreatDoorProg
import Derived.WalkKit
import Derived.WalkSpells
import Derived.WalkLawsBesides
import Derived.RowKit3
import Derived.Below
import Derived.Deep.QuietTactic
import Derived.BigQuiet
import Derived.WalkSmall
import Derived.Laws.Rows
import Derived.Test.YthfcimmfkibmjaaGreatDoorP05
namespace Go.Proofs.YthfcimmfkibmjaaGreatDoor
open Go.RowKit


/-- What taking a list answers. -/
def TakesL {α : Type} (T : TypeId) (sz : Nat) (news : List α → List Value) (w0 : World) (g : Nat) (A : Option Addr) (c : Nat) (b : List Int) (res : List α × Tk) (w : World) (r : Ending) (w' : World) : Prop :=
  But g w w' ∧ ((res.2.bad = 0 ∧ ∃ v, r = .returned (.tuple #[v, .nilIface]) ∧ w'.ownsRow w.heap.size T sz v res.1.length (news res.1) ∧ InBy w0 g A c b res.2.pos w') ∨ (¬ res.2.bad = 0 ∧ r = .returned (.tuple #[.slice none 0 0, errV res.2.bad res.2.place]) ∧ ∃ p, InBy w0 g A c b p w'))
theorem takesL_yes {α : Type} {T : TypeId} {sz : Nat} {news : List α → List Value} {w0 : World} {g : Nat} {A : Option Addr} {c : Nat} {b : List Int} {res : List α × Tk} {w w' : World} {v : Value} {l : List α} {q : Nat} (hb : But g w w') (h : res = (l, ⟨q, 0, 0⟩)) (ho : w'.ownsRow w.heap.size T sz v l.length (news l)) (hi : InBy w0 g A c b q w') : TakesL T sz news w0 g A c b res w (.returned (.tuple #[v, .nilIface])) w' := by
  subst h
  exact ⟨hb, Or.inl ⟨rfl, v, rfl, ho, hi⟩⟩
theorem takesL_no {α : Type} {T : TypeId} {sz : Nat} {news : List α → List Value} {w0 : World} {g : Nat} {A : Option Addr} {c : Nat} {b : List Int} {res : List α × Tk} {w w' : World} {t : Tk} {p : Nat} (hb : But g w w') (e : res.2 = t) (h : ¬ t.bad = 0) (hi : InBy w0 g A c b p w') : TakesL T sz news w0 g A c b res w (.returned (.tuple #[.slice none 0 0, .iface 97 (.agg #[.int .i64 t.bad, .int .i64 t.place])])) w' := by
  subst e
  exact ⟨hb, Or.inr ⟨h, rfl, p, hi⟩⟩
theorem TakesL.ok {α : Type} {T : TypeId} {sz : Nat} {news : List α → List Value} {w0 : World} {g : Nat} {A : Option Addr} {c : Nat} {b : List Int} {res : List α × Tk} {w w' : World} {r : Ending} (h : TakesL T sz news w0 g A c b res w r w') (e : res.2.bad = 0) : ∃ v, r = .returned (.tuple #[v, .nilIface]) ∧ w'.ownsRow w.heap.size T sz v res.1.length (news res.1) ∧ InBy w0 g A c b res.2.pos w' ∧ But g w w' := by
  obtain ⟨hb, ⟨_, v, h1, h2, h3⟩ | ⟨h0, _⟩⟩ := h
  · exact ⟨v, h1, h2, h3, hb⟩
  · exact absurd e h0
theorem TakesL.err {α : Type} {T : TypeId} {sz : Nat} {news : List α → List Value} {w0 : World} {g : Nat} {A : Option Addr} {c : Nat} {b : List Int} {res : List α × Tk} {w w' : World} {r : Ending} (h : TakesL T sz news w0 g A c b res w r w') (e : ¬ res.2.bad = 0) : ∃ p, r = .returned (.tuple #[.slice none 0 0, .iface 97 (.agg #[.int .i64 res.2.bad, .int .i64 res.2.place])]) ∧ InBy w0 g A c b p w' ∧ But g w w' := by
  obtain ⟨hb, ⟨h0, _⟩ | ⟨_, h1, p, h2⟩⟩ := h
  · exact absurd h0 e
  · exact ⟨p, h1, h2, hb⟩
theorem row_but {w w1 : World} {base g n : Nat} {e : TypeId} {sz : Nat} {v : Value} {xs : List Value} (ho : w.ownsRow base e sz v n xs) (hg : g < base) (hb : But g w w1) : w1.ownsRow base e sz v n xs := by
  refine ho.kept (row := some g) ⟨hb.1, hb.2.1, hb.2.2.1, hb.2.2.2.1, fun k hk hn => hb.2.2.2.2 k hk (fun e => hn (by rw [e]))⟩ ?_
  cases hv : v.ownBlock with
  | none => exact Or.inl rfl
  | some k => exact Or.inr fun e => by cases e; have := ho.lt g hv; omega
theorem in_grown {w0 w w1 : World} {g c p base : Nat} {A : Option Addr} {b : List Int} {row : Option Nat} (h : InBy w0 g A c b p w) (hs : w.grownBy w1 row) (hr : ∀ k, row = some k → base ≤ k) (hg : g < base) : InBy w0 g A c b p w1 := by
  have hle := h.le
  refine ⟨by rw [hs.block g h.lt (fun e => by have := hr g e.symm; omega)]; exact h.box, h.ints, ?_, h.le, h.areB, h.len, h.cap, h.pos⟩
  exact Below.grown h.below hs h.below.size (fun k hk => by have := hr k hk; omega)
theorem but_grown {w w1 w2 : World} {g : Nat} {row : Option Nat} (h : But g w w1) (hs : w1.grownBy w2 row) (hr : ∀ k, row = some k → w.heap.size ≤ k) : But g w w2 :=
  ⟨hs.os.trans h.1, hs.tape.trans h.2.1, hs.output.trans h.2.2.1, Nat.le_trans h.2.2.2.1 hs.size, fun k hk hn => (hs.block k (Nat.lt_of_lt_of_le hk h.2.2.2.1) (fun e => by have := hr k e.symm; omega)).trans (h.2.2.2.2 k hk hn)⟩
theorem any_form {w : World} {b n : Nat} {e : TypeId} {sz : Nat} {v : Value} {xs : List Value} (h : w.ownsRow b e sz v n xs) : ∃ A n c, v = .slice A n c := by
  rcases h.2 with ⟨rfl, _⟩ | ⟨g, cap, cur, rfl, _⟩
  · exact ⟨_, _, _, rfl⟩
  · exact ⟨_, _, _, rfl⟩

/-- A new block reads as it was made. -/
theorem new_cells (w : World) (l : List Value) (T : TypeId) (h : l.length ≤ 1048576) : ∀ j u, l[j]? = some u → (w.alloc (.cells l.toArray T)).cell? ((⟨w.heap.size, 0, none⟩ : Addr).add j) = some u := by
  have hr : (w.alloc (.cells l.toArray T)).ownsRow w.heap.size T 1 (.slice (some ⟨w.heap.size, 0, none⟩) l.length l.length) l.length l := by
    refine ⟨by omega, Or.inr ⟨w.heap.size, l.length, l.toArray, rfl, Nat.le_refl _, heap_alloc_new _ _, Nat.le_refl _, by unfold maxLen; omega, by simp, ?_⟩⟩
    simp only [Nat.mul_one]
    exact List.take_length
  exact hr.cells rfl
/-- Items as cells. -/
def iVals (K : IntKind) (zs : List Int) : List Value := zs.map (Value.int K)
theorem iVals_snoc (K : IntKind) (zs : List Int) (x : Int) : iVals K (zs ++ [x]) = iVals K zs ++ [.int K x] := by simp [iVals]
theorem nextb_any (w0 : World) (g : Nat) (A : Option Addr) (c : Nat) (b : List Int) (p : Nat) (w : World) (h : InBy w0 g A c b p w) :
    Calls Tryz.prog 136 #[.pointer (some ⟨g, 0, none⟩)] w (Takes w0 g A c b (tByte b ⟨p, 0, 0⟩) (.int .u8) (IsZ .u8) w) := by
  by_cases hp : p < b.length
  · refine (next_ok w0 g A c b p w h hp).mono ?_
    rintro r w1 ⟨rfl, hi, hb⟩
    have e : tByte b ⟨p, 0, 0⟩ = (nth b p, ⟨p + 1, 0, 0⟩) := by unfold tByte; rw [if_pos hp]
    rw [e]
    exact takes_yes hb rfl rfl hi
  · refine (next_end w0 g A c b p w h (by have := h.pos; omega)).mono ?_
    rintro r w1 ⟨rfl, hi, hb⟩
    have e : tByte b ⟨p, 0, 0⟩ = (0, ⟨p, 27, b.length⟩) := by unfold tByte; rw [if_neg hp]
    rw [e]
    exact takes_no hb (by simp) rfl rfl rfl hi

theorem info_takeWords : ∃ i, Tryz.prog.info? 78 = some i ∧ i.zero = some (.int .u32 0) ∧ i.size = 1 ∧ i.bytes = 4 :=
  ⟨(Tryz.prog.info? 78).get (by kernel_rfl), by kernel_rfl, by kernel_rfl, by kernel_rfl, by kernel_rfl⟩
set_option maxRecDepth 100000 in
set_option maxHeartbeats 2000000 in
theorem takeWords (m : Int) (hm0 : 0 ≤ m) (hm1 : m ≤ 1048576) (w0 : World) (g : Nat) (A : Option Addr) (c : Nat) (b : List Int) (p : Nat) (w : World) (h : InBy w0 g A c b p w) :
    Calls Tryz.prog 99 #[.pointer (some ⟨g, 0, none⟩), .int .i64 m, .func (.func 100) #[.pointer (some ⟨g, 0, none⟩)] #[]] w (TakesL 78 1 (iVals .u32) w0 g A c b (tAll b m (tFour b) ⟨p, 0, 0⟩) w) := by
  obtain ⟨i0, hi, hz0, hz1, hz2⟩ := info_takeWords
  have C := upto_any m hm0 (by omega) w0 g A c b p w h
  have hgw := h.lt
  have hab := h.areB
  by_cases hg : (tCount b m ⟨p, 0, 0⟩).2.bad = 0
  · obtain ⟨r0, r1⟩ := count_range hab hg
    have HA : Hid (tAll b m (tFour b) ⟨p, 0, 0⟩ = tList (tFour b) (tCount b m ⟨p, 0, 0⟩).1.toNat ⟨(tCount b m ⟨p, 0, 0⟩).2.pos, 0, 0⟩) := by
      show _ = _
      unfold tAll
      rw [← plain_tk (plain_count b m) hg]
    have HG : Hid _ := hg
    obtain ⟨n, hn⟩ := Int.eq_ofNat_of_zero_le r0
    go_enter Tryz.func99, Tryz.ntmps99
    go_wp2_with fail
    refine C.mono ?_
    intro r w1 hr
    obtain ⟨rfl, hi1, hb1⟩ := hr.ok hg
    rw [hn]
    rw [hn] at r1
    have hn2 : (tCount b m ⟨p, 0, 0⟩).1.toNat = n := by rw [hn]; rfl
    have HA2 : Hid _ := HA.out
    rw [hn2] at HA2
    have H1 : Hid _ := hi1
    have B1 : Hid (But g w w1) := hb1
    generalize (tCount b m ⟨p, 0, 0⟩).2.pos = q0 at *
    clear hr hi1 hb1 hg HG HA hn hn2 C r0 h
    go_wp2
    go_loopw [23, 10] (fun i s wr => ∃ (k q : Nat) (done : List Int), i = .int .i64 k ∧ Far (tFour b) n ⟨q0, 0, 0⟩ k done q ∧ wr.ownsRow w.heap.size 78 1 s k ((iVals .u32) done) ∧ InBy w0 g A c b q wr ∧ But g w wr) (fun i _ _ => n - (intOf i).toNat)
    case atStart => exact ⟨0, q0, [], rfl, far_start _ _ _, World.ownsRow_nil _ _ _ _, H1.out, B1.out⟩
    case round =>
      obtain ⟨k, q, done, rfl, hfar, hown, hin, hbut⟩ := hrel
      have hdl := hfar.1
      have hkn := hfar.2.1
      have HF : Hid (Far (tFour b) n ⟨q0, 0, 0⟩ k done q) := hfar
      have B2 : Hid (But g w wr) := hbut
      have hsz := hbut.2.2.2.1
      obtain ⟨As, ns, cs, rfl⟩ := any_form hown
      clear hfar hbut
      by_cases hlt : k < n
      · have C := word_any w0 g A c b q wr hin
        by_cases hg : (tFour b ⟨q, 0, 0⟩).2.bad = 0
        · go_wp2_with fail
          refine C.mono ?_
          intro r w2 hr
          obtain ⟨rfl, hin2, hb2⟩ := hr.ok hg
          have HX : Hid _ := far_next (plain_four b) HF.out hlt hg
          have hown2 := row_but hown hgw hb2
          have hsz2 := hb2.2.2.2.1
          clear hr C hown hin
          have HB2 : Hid (But g w w2) := B2.out.trans hb2
          clear hb2 hg
          generalize tFour b ⟨q, 0, 0⟩ = F at *
          obtain ⟨x, t⟩ := F
          simp only at hin2 HX ⊢
          have hin3 := hin2.keep (lb_alloc (Below.refl _ _) (.cells #[.int .u32 x] 78))
          have hown3 := hown2.alloc (.cells #[.int .u32 x] 78)
          have HB3 : Hid (But g w (w2.alloc (.cells #[.int .u32 x] 78))) := HB2.out.on (lb_alloc (Below.refl _ _) _)
          have hc : ∀ j u, ([.int .u32 x] : List Value)[j]? = some u → (w2.alloc (.cells #[.int .u32 x] 78)).cell? ((⟨w2.heap.size, 0, none⟩ : Addr).add j) = some u := new_cells _ _ _ (by simp)
          have hone : ∀ u ∈ ([.int .u32 x] : List Value), u.oneCell' = true := by simp [Value.oneCell']
          go_wp2_with (at_builtin; refine wpList_append_own _ rfl (.tmp 33) (.tmp 35) 22 rfl w.heap.size 78 i0 (.int .u32 0) 1 4 Tryz.underlying22 hi hz0 hz1 hz2 rfl (by decide) (.slice As ns cs) k ((iVals .u32) done) rfl hown3 ⟨w2.heap.size, 0, none⟩ 1 1 [.int .u32 x] rfl rfl hc hone (by unfold maxLen; omega) (by omega) (by simp; omega) ?_; intro v' w' hown' hgrow hnil)
          have hr4 : ∀ j, (Value.slice As ns cs).ownBlock = some j → w.heap.size ≤ j := fun j hj => (hown3.lt j hj).1
          have hin4 := in_grown hin3 hgrow hr4 hgw
          have hb4 := but_grown HB3.out hgrow hr4
          go_roundw
          case rel => exact ⟨k + 1, _, _, by go_num, HX.out, by rw [show (iVals .u32) (done ++ [_]) = (iVals .u32) done ++ [.int .u32 x] from iVals_snoc _ _ _]; exact hown', hin4, hb4⟩
          case measure => simp [intOf]; omega
        · go_wp2_with fail
          refine C.mono ?_
          intro r w2 hr
          obtain ⟨_, p2, rfl, rfl, hin2, hb2⟩ := hr.err hg
          have HX : Hid _ := far_bad HF.out hlt hg
          have HG : Hid _ := hg
          clear hr hg C
          generalize tFour b ⟨q, 0, 0⟩ = F at *
          go_wp2
          go_ret2
          exact takesL_no (B2.out.trans hb2) (by rw [HA2.out]; exact HX.out) HG.out hin2
      · obtain rfl : k = n := by omega
        go_wp2
        go_ret2
        exact takesL_yes B2.out (by rw [HA2.out]; exact far_end HF.out) (by rw [hdl]; exact hown) hin
  · have HA : Hid _ := all_bad (f := tFour b) hg
    have HG : Hid _ := hg
    go_enter Tryz.func99, Tryz.ntmps99
    go_wp2_with fail
    refine C.mono ?_
    intro r w1 hr
    obtain ⟨_, p2, rfl, rfl, hi1, hb1⟩ := hr.err hg
    clear hr hg
    generalize (tCount b m ⟨p, 0, 0⟩).2 = T at *
    go_wp2
    go_ret2
    exact takesL_no hb1 HA.out HG.out hi1

theorem info_takeLongs : ∃ i, Tryz.prog.info? 2 = some i ∧ i.zero = some (.int .i64 0) ∧ i.size = 1 ∧ i.bytes = 8 :=
  ⟨(Tryz.prog.info? 2).get (by kernel_rfl), by kernel_rfl, by kernel_rfl, by kernel_rfl, by kernel_rfl⟩
set_option maxRecDepth 100000 in
set_option maxHeartbeats 2000000 in
theorem takeLongs (m : Int) (hm0 : 0 ≤ m) (hm1 : m ≤ 1048576) (w0 : World) (g : Nat) (A : Option Addr) (c : Nat) (b : List Int) (p : Nat) (w : World) (h : InBy w0 g A c b p w) :
    Calls Tryz.prog 102 #[.pointer (some ⟨g, 0, none⟩), .int .i64 m, .func (.func 103) #[.pointer (some ⟨g, 0, none⟩)] #[]] w (TakesL 2 1 (iVals .i64) w0 g A c b (tAll b m (tEight b) ⟨p, 0, 0⟩) w) := by
  obtain ⟨i0, hi, hz0, hz1, hz2⟩ := info_takeLongs
  have C := upto_any m hm0 (by omega) w0 g A c b p w h
  have hgw := h.lt
  have hab := h.areB
  by_cases hg : (tCount b m ⟨p, 0, 0⟩).2.bad = 0
  · obtain ⟨r0, r1⟩ := count_range hab hg
    have HA : Hid (tAll b m (tEight b) ⟨p, 0, 0⟩ = tList (tEight b) (tCount b m ⟨p, 0, 0⟩).1.toNat ⟨(tCount b m ⟨p, 0, 0⟩).2.pos, 0, 0⟩) := by
      show _ = _
      unfold tAll
      rw [← plain_tk (plain_count b m) hg]
    have HG : Hid _ := hg
    obtain ⟨n, hn⟩ := Int.eq_ofNat_of_zero_le r0
    go_enter Tryz.func102, Tryz.ntmps102
    go_wp2_with fail
    refine C.mono ?_
    intro r w1 hr
    obtain ⟨rfl, hi1, hb1⟩ := hr.ok hg
    rw [hn]
    rw [hn] at r1
    have hn2 : (tCount b m ⟨p, 0, 0⟩).1.toNat = n := by rw [hn]; rfl
    have HA2 : Hid _ := HA.out
    rw [hn2] at HA2
    have H1 : Hid _ := hi1
    have B1 : Hid (But g w w1) := hb1
    generalize (tCount b m ⟨p, 0, 0⟩).2.pos = q0 at *
    clear hr hi1 hb1 hg HG HA hn hn2 C r0 h
    go_wp2
    go_loopw [23, 10] (fun i s wr => ∃ (k q : Nat) (done : List Int), i = .int .i64 k ∧ Far (tEight b) n ⟨q0, 0, 0⟩ k done q ∧ wr.ownsRow w.heap.size 2 1 s k ((iVals .i64) done) ∧ InBy w0 g A c b q wr ∧ But g w wr) (fun i _ _ => n - (intOf i).toNat)
    case atStart => exact ⟨0, q0, [], rfl, far_start _ _ _, World.ownsRow_nil _ _ _ _, H1.out, B1.out⟩
    case round =>
      obtain ⟨k, q, done, rfl, hfar, hown, hin, hbut⟩ := hrel
      have hdl := hfar.1
      have hkn := hfar.2.1
      have HF : Hid (Far (tEight b) n ⟨q0, 0, 0⟩ k done q) := hfar
      have B2 : Hid (But g w wr) := hbut
      have hsz := hbut.2.2.2.1
      obtain ⟨As, ns, cs, rfl⟩ := any_form hown
      clear hfar hbut
      by_cases hlt : k < n
      · have C := data_any w0 g A c b q wr hin
        by_cases hg : (tEight b ⟨q, 0, 0⟩).2.bad = 0
        · go_wp2_with fail
          refine C.mono ?_
          intro r w2 hr
          obtain ⟨rfl, hin2, hb2⟩ := hr.ok hg
          have HX : Hid _ := far_next (plain_eight b) HF.out hlt hg
          have hown2 := row_but hown hgw hb2
          have hsz2 := hb2.2.2.2.1
          clear hr C hown hin
          have HB2 : Hid (But g w w2) := B2.out.trans hb2
          clear hb2 hg
          generalize tEight b ⟨q, 0, 0⟩ = F at *
          obtain ⟨x, t⟩ := F
          simp only at hin2 HX ⊢
          have hin3 := hin2.keep (lb_alloc (Below.refl _ _) (.cells #[.int .i64 x] 2))
          have hown3 := hown2.alloc (.cells #[.int .i64 x] 2)
          have HB3 : Hid (But g w (w2.alloc (.cells #[.int .i64 x] 2))) := HB2.out.on (lb_alloc (Below.refl _ _) _)
          have hc : ∀ j u, ([.int .i64 x] : List Value)[j]? = some u → (w2.alloc (.cells #[.int .i64 x] 2)).cell? ((⟨w2.heap.size, 0, none⟩ : Addr).add j) = some u := new_cells _ _ _ (by simp)
          have hone : ∀ u ∈ ([.int .i64 x] : List Value), u.oneCell' = true := by simp [Value.oneCell']
          go_wp2_with (at_builtin; refine wpList_append_own _ rfl (.tmp 33) (.tmp 35) 23 rfl w.heap.size 2 i0 (.int .i64 0) 1 8 Tryz.underlying23 hi hz0 hz1 hz2 rfl (by decide) (.slice As ns cs) k ((iVals .i64) done) rfl hown3 ⟨w2.heap.size, 0, none⟩ 1 1 [.int .i64 x] rfl rfl hc hone (by unfold maxLen; omega) (by omega) (by simp; omega) ?_; intro v' w' hown' hgrow hnil)
          have hr4 : ∀ j, (Value.slice As ns cs).ownBlock = some j → w.heap.size ≤ j := fun j hj => (hown3.lt j hj).1
          have hin4 := in_grown hin3 hgrow hr4 hgw
          have hb4 := but_grown HB3.out hgrow hr4
          go_roundw
          case rel => exact ⟨k + 1, _, _, by go_num, HX.out, by rw [show (iVals .i64) (done ++ [_]) = (iVals .i64) done ++ [.int .i64 x] from iVals_snoc _ _ _]; exact hown', hin4, hb4⟩
          case measure => simp [intOf]; omega
        · go_wp2_with fail
          refine C.mono ?_
          intro r w2 hr
          obtain ⟨_, p2, rfl, rfl, hin2, hb2⟩ := hr.err hg
          have HX : Hid _ := far_bad HF.out hlt hg
          have HG : Hid _ := hg
          clear hr hg C
          generalize tEight b ⟨q, 0, 0⟩ = F at *
          go_wp2
          go_ret2
          exact takesL_no (B2.out.trans hb2) (by rw [HA2.out]; exact HX.out) HG.out hin2
      · obtain rfl : k = n := by omega
        go_wp2
        go_ret2
        exact takesL_yes B2.out (by rw [HA2.out]; exact far_end HF.out) (by rw [hdl]; exact hown) hin
  · have HA : Hid _ := all_bad (f := tEight b) hg
    have HG : Hid _ := hg
    go_enter Tryz.func102, Tryz.ntmps102
    go_wp2_with fail
    refine C.mono ?_
    intro r w1 hr
    obtain ⟨_, p2, rfl, rfl, hi1, hb1⟩ := hr.err hg
    clear hr hg
    generalize (tCount b m ⟨p, 0, 0⟩).2 = T at *
    go_wp2
    go_ret2
    exact takesL_no hb1 HA.out HG.out hi1

theorem info_takeBytes : ∃ i, Tryz.prog.info? 5 = some i ∧ i.zero = some (.int .u8 0) ∧ i.size = 1 ∧ i.bytes = 1 :=
  ⟨(Tryz.prog.info? 5).get (by kernel_rfl), by kernel_rfl, by kernel_rfl, by kernel_rfl, by kernel_rfl⟩
set_option maxRecDepth 100000 in
set_option maxHeartbeats 2000000 in
theorem takeBytes (m : Int) (hm0 : 0 ≤ m) (hm1 : m ≤ 1048576) (w0 : World) (g : Nat) (A : Option Addr) (c : Nat) (b : List Int) (p : Nat) (w : World) (h : InBy w0 g A c b p w) :
    Calls Tryz.prog 137 #[.pointer (some ⟨g, 0, none⟩), .int .i64 m, .func (.func 136) #[.pointer (some ⟨g, 0, none⟩)] #[]] w (TakesL 5 1 (iVals .u8) w0 g A c b (tAll b m (tByte b) ⟨p, 0, 0⟩) w) := by
  obtain ⟨i0, hi, hz0, hz1, hz2⟩ := info_takeBytes
  have C := upto_any m hm0 (by omega) w0 g A c b p w h
  have hgw := h.lt
  have hab := h.areB
  by_cases hg : (tCount b m ⟨p, 0, 0⟩).2.bad = 0
  · obtain ⟨r0, r1⟩ := count_range hab hg
    have HA : Hid (tAll b m (tByte b) ⟨p, 0, 0⟩ = tList (tByte b) (tCount b m ⟨p, 0, 0⟩).1.toNat ⟨(tCount b m ⟨p, 0, 0⟩).2.pos, 0, 0⟩) := by
      show _ = _
      unfold tAll
      rw [← plain_tk (plain_count b m) hg]
    have HG : Hid _ := hg
    obtain ⟨n, hn⟩ := Int.eq_ofNat_of_zero_le r0
    go_enter Tryz.func137, Tryz.ntmps137
    go_wp2_with fail
    refine C.mono ?_
    intro r w1 hr
    obtain ⟨rfl, hi1, hb1⟩ := hr.ok hg
    rw [hn]
    rw [hn] at r1
    have hn2 : (tCount b m ⟨p, 0, 0⟩).1.toNat = n := by rw [hn]; rfl
    have HA2 : Hid _ := HA.out
    rw [hn2] at HA2
    have H1 : Hid _ := hi1
    have B1 : Hid (But g w w1) := hb1
    generalize (tCount b m ⟨p, 0, 0⟩).2.pos = q0 at *
    clear hr hi1 hb1 hg HG HA hn hn2 C r0 h
    go_wp2
    go_loopw [23, 10] (fun i s wr => ∃ (k q : Nat) (done : List Int), i = .int .i64 k ∧ Far (tByte b) n ⟨q0, 0, 0⟩ k done q ∧ wr.ownsRow w.heap.size 5 1 s k ((iVals .u8) done) ∧ InBy w0 g A c b q wr ∧ But g w wr) (fun i _ _ => n - (intOf i).toNat)
    case atStart => exact ⟨0, q0, [], rfl, far_start _ _ _, World.ownsRow_nil _ _ _ _, H1.out, B1.out⟩
    case round =>
      obtain ⟨k, q, done, rfl, hfar, hown, hin, hbut⟩ := hrel
      have hdl := hfar.1
      have hkn := hfar.2.1
      have HF : Hid (Far (tByte b) n ⟨q0, 0, 0⟩ k done q) := hfar
      have B2 : Hid (But g w wr) := hbut
      have hsz := hbut.2.2.2.1
      obtain ⟨As, ns, cs, rfl⟩ := any_form hown
      clear hfar hbut
      by_cases hlt : k < n
      · have C := nextb_any w0 g A c b q wr hin
        by_cases hg : (tByte b ⟨q, 0, 0⟩).2.bad = 0
        · go_wp2_with fail
          refine C.mono ?_
          intro r w2 hr
          obtain ⟨rfl, hin2, hb2⟩ := hr.ok hg
          have HX : Hid _ := far_next (plain_byte b) HF.out hlt hg
          have hown2 := row_but hown hgw hb2
          have hsz2 := hb2.2.2.2.1
          clear hr C hown hin
          have HB2 : Hid (But g w w2) := B2.out.trans hb2
          clear hb2 hg
          generalize tByte b ⟨q, 0, 0⟩ = F at *
          obtain ⟨x, t⟩ := F
          simp only at hin2 HX ⊢
          have hin3 := hin2.keep (lb_alloc (Below.refl _ _) (.cells #[.int .u8 x] 5))
          have hown3 := hown2.alloc (.cells #[.int .u8 x] 5)
          have HB3 : Hid (But g w (w2.alloc (.cells #[.int .u8 x] 5))) := HB2.out.on (lb_alloc (Below.refl _ _) _)
          have hc : ∀ j u, ([.int .u8 x] : List Value)[j]? = some u → (w2.alloc (.cells #[.int .u8 x] 5)).cell? ((⟨w2.heap.size, 0, none⟩ : Addr).add j) = some u := new_cells _ _ _ (by simp)
          have hone : ∀ u ∈ ([.int .u8 x] : List Value), u.oneCell' = true := by simp [Value.oneCell']
          go_wp2_with (at_builtin; refine wpList_append_own _ rfl (.tmp 33) (.tmp 35) 31 rfl w.heap.size 5 i0 (.int .u8 0) 1 1 Tryz.underlying31 hi hz0 hz1 hz2 rfl (by decide) (.slice As ns cs) k ((iVals .u8) done) rfl hown3 ⟨w2.heap.size, 0, none⟩ 1 1 [.int .u8 x] rfl rfl hc hone (by unfold maxLen; omega) (by omega) (by simp; omega) ?_; intro v' w' hown' hgrow hnil)
          have hr4 : ∀ j, (Value.slice As ns cs).ownBlock = some j → w.heap.size ≤ j := fun j hj => (hown3.lt j hj).1
          have hin4 := in_grown hin3 hgrow hr4 hgw
          have hb4 := but_grown HB3.out hgrow hr4
          go_roundw
          case rel => exact ⟨k + 1, _, _, by go_num, HX.out, by rw [show (iVals .u8) (done ++ [_]) = (iVals .u8) done ++ [.int .u8 x] from iVals_snoc _ _ _]; exact hown', hin4, hb4⟩
          case measure => simp [intOf]; omega
        · go_wp2_with fail
          refine C.mono ?_
          intro r w2 hr
          obtain ⟨_, p2, rfl, rfl, hin2, hb2⟩ := hr.err hg
          have HX : Hid _ := far_bad HF.out hlt hg
          have HG : Hid _ := hg
          clear hr hg C
          generalize tByte b ⟨q, 0, 0⟩ = F at *
          go_wp2
          go_ret2
          exact takesL_no (B2.out.trans hb2) (by rw [HA2.out]; exact HX.out) HG.out hin2
      · obtain rfl : k = n := by omega
        go_wp2
        go_ret2
        exact takesL_yes B2.out (by rw [HA2.out]; exact far_end HF.out) (by rw [hdl]; exact hown) hin
  · have HA : Hid _ := all_bad (f := tByte b) hg
    have HG : Hid _ := hg
    go_enter Tryz.func137, Tryz.ntmps137
    go_wp2_with fail
    refine C.mono ?_
    intro r w1 hr
    obtain ⟨_, p2, rfl, rfl, hi1, hb1⟩ := hr.err hg
    clear hr hg
    generalize (tCount b m ⟨p, 0, 0⟩).2 = T at *
    go_wp2
    go_ret2
    exact takesL_no hb1 HA.out HG.out hi1

end Go.Proofs.YthfcimmfkibmjaaGreatDoor
