/-
  The program takes lists of numbers of an input. An output in memory: its box and its own row of bytes; no Go in sight. The program writes numbers and texts into an output; what is written is at most 2^20 bytes. The program writes symbols, relocations and lists into an output; what is written is at most 2^20 bytes.
-/
import Derived.Test.YthfcimmfkibmjaaGreatDoorProg
import Derived.WalkKit
import Derived.WalkSpells
import Derived.WalkLawsBesides
import Derived.RowKit3
import Derived.Below
import Derived.Deep.QuietTactic
import Derived.BigQuiet
import Derived.WalkSmall
import Derived.Laws.Rows
import Derived.Test.YthfcimmfkibmjaaGreatDoorWd05
import Derived.Test.YthfcimmfkibmjaaGreatDoorWd02
import Derived.Lib.AppendStr
namespace Go.Proofs.YthfcimmfkibmjaaGreatDoor
open Go.RowKit


/-- What taking a list answers. -/
def TakesL {α : Type} (T : TypeId) (sz : Nat) (news : List α → List Value) (w0 : World) (g : Nat) (A : Option Addr) (c : Nat) (b : List Int) (res : List α × Tk) (w : World) (r : Ending) (w' : World) : Prop :=
  But g w w' ∧ ((res.2.bad = 0 ∧ ∃ v, r = .returned (.tuple #[v, .nilIface]) ∧ w'.ownsRow w.heap.size T sz v res.1.length (news res.1) ∧ InBy w0 g A c b res.2.pos w') ∨ (¬ res.2.bad = 0 ∧ r = .returned (.tuple #[.slice none 0 0, errV res.2.bad res.2.place]) ∧ ∃ p, InBy w0 g A c b p w'))
theorem takesL_yes {α : Type} {T : TypeId} {sz : Nat} {news : List α → List Value} {w0 : World} {g : Nat} {A : Option Addr} {c : Nat} {b : List Int} {res : List α × Tk} {w w' : World} {v : Value} {l : List α} {q : Nat} (hb : But g w w') (h : res = (l, ⟨q, 0, 0⟩)) (ho : w'.ownsRow w.heap.size T sz v l.length (news l)) (hi : InBy w0 g A c b q w') : TakesL T sz news w0 g A c b res w (.returned (.tuple #[v, .nilIface])) w' := by
  subst h
  exact ⟨hb, Or.inl ⟨rfl, v, rfl, ho, hi⟩⟩
theorem takesL_no {α : Type} {T : TypeId} {sz : Nat} {news : List α → List Value} {w0 : World} {g : Nat} {A : Option Addr} {c : Nat} {b : List Int} {res : List α × Tk} {w w' : World} {t : Tk} {p : Nat} (hb : But g w w') (e : res.2 = t) (h : ¬ t.bad = 0) (hi : InBy w0 g A c b p w') : TakesL T sz news w0 g A c b res w (.returned (.tuple #[.slice none 0 0, .iface 97 (.agg #[.int .i64 t.bad, .int .i64 t.place])])) w' := by
  subst e
  exact ⟨hb, Or.inr ⟨h, rfl, p, hi⟩⟩
theorem TakesL.ok {α : Type} {T : TypeId} {sz : Nat} {news : List α → List Value} {w0 : World} {g : Nat} {A : Option Addr} {c : Nat} {b : List Int} {res : List α × Tk} {w w' : World} {r : Ending} (h : TakesL T sz news w0 g A c b res w r w') (e : res.2.bad = 0) : ∃ v, r = .returned (.tuple #[v, .nilIface]) ∧ w'.ownsRow w.heap.size T sz v res.1.length (news res.1) ∧ InBy w0 g A c b res.2.pos w' ∧ But g w w' := by
  obtain ⟨hb, ⟨_, v, h1, h2, h3⟩ | ⟨h0, _⟩⟩ := h
  · exact ⟨v, h1, h2, h3, hb⟩
  · exact absurd e h0
theorem TakesL.err {α : Type} {T : TypeId} {sz : Nat} {news : List α → List Value} {w0 : World} {g : Nat} {A : Option Addr} {c : Nat} {b : List Int} {res : List α × Tk} {w w' : World} {r : Ending} (h : TakesL T sz news w0 g A c b res w r w') (e : ¬ res.2.bad = 0) : ∃ p, r = .returned (.tuple #[.slice none 0 0, .iface 97 (.agg #[.int .i64 res.2.bad, .int .i64 res.2.place])]) ∧ InBy w0 g A c b p w' ∧ But g w w' := by
  obtain ⟨hb, ⟨h0, _⟩ | ⟨_, h1, p, h2⟩⟩ := h
  · exact absurd h0 e
  · exact ⟨p, h1, h2, hb⟩
theorem row_but {w w1 : World} {base g n : Nat} {e : TypeId} {sz : Nat} {v : Value} {xs : List Value} (ho : w.ownsRow base e sz v n xs) (hg : g < base) (hb : But g w w1) : w1.ownsRow base e sz v n xs := by
  refine ho.kept (row := some g) ⟨hb.1, hb.2.1, hb.2.2.1, hb.2.2.2.1, fun k hk hn => hb.2.2.2.2 k hk (fun e => hn (by rw [e]))⟩ ?_
  cases hv : v.ownBlock with
  | none => exact Or.inl rfl
  | some k => exact Or.inr fun e => by cases e; have := ho.lt g hv; omega
theorem in_grown {w0 w w1 : World} {g c p base : Nat} {A : Option Addr} {b : List Int} {row : Option Nat} (h : InBy w0 g A c b p w) (hs : w.grownBy w1 row) (hr : ∀ k, row = some k → base ≤ k) (hg : g < base) : InBy w0 g A c b p w1 := by
  have hle := h.le
  refine ⟨by rw [hs.block g h.lt (fun e => by have := hr g e.symm; omega)]; exact h.box, h.ints, ?_, h.le, h.areB, h.len, h.cap, h.pos⟩
  exact Below.grown h.below hs h.below.size (fun k hk => by have := hr k hk; omega)
theorem but_grown {w w1 w2 : World} {g : Nat} {row : Option Nat} (h : But g w w1) (hs : w1.grownBy w2 row) (hr : ∀ k, row = some k → w.heap.size ≤ k) : But g w w2 :=
  ⟨hs.os.trans h.1, hs.tape.trans h.2.1, hs.output.trans h.2.2.1, Nat.le_trans h.2.2.2.1 hs.size, fun k hk hn => (hs.block k (Nat.lt_of_lt_of_le hk h.2.2.2.1) (fun e => by have := hr k e.symm; omega)).trans (h.2.2.2.2 k hk hn)⟩
theorem any_form {w : World} {b n : Nat} {e : TypeId} {sz : Nat} {v : Value} {xs : List Value} (h : w.ownsRow b e sz v n xs) : ∃ A n c, v = .slice A n c := by
  rcases h.2 with ⟨rfl, _⟩ | ⟨g, cap, cur, rfl, _⟩
  · exact ⟨_, _, _, rfl⟩
  · exact ⟨_, _, _, rfl⟩

/-- A new block reads as it was made. -/
theorem new_cells (w : World) (l : List Value) (T : TypeId) (h : l.length ≤ 1048576) : ∀ j u, l[j]? = some u → (w.alloc (.cells l.toArray T)).cell? ((⟨w.heap.size, 0, none⟩ : Addr).add j) = some u := by
  have hr : (w.alloc (.cells l.toArray T)).ownsRow w.heap.size T 1 (.slice (some ⟨w.heap.size, 0, none⟩) l.length l.length) l.length l := by
    refine ⟨by omega, Or.inr ⟨w.heap.size, l.length, l.toArray, rfl, Nat.le_refl _, heap_alloc_new _ _, Nat.le_refl _, by unfold maxLen; omega, by simp, ?_⟩⟩
    simp only [Nat.mul_one]
    exact List.take_length
  exact hr.cells rfl
/-- Items as cells. -/
def iVals (K : IntKind) (zs : List Int) : List Value := zs.map (Value.int K)
theorem iVals_snoc (K : IntKind) (zs : List Int) (x : Int) : iVals K (zs ++ [x]) = iVals K zs ++ [.int K x] := by simp [iVals]
theorem nextb_any (w0 : World) (g : Nat) (A : Option Addr) (c : Nat) (b : List Int) (p : Nat) (w : World) (h : InBy w0 g A c b p w) :
    Calls Tryz.prog 136 #[.pointer (some ⟨g, 0, none⟩)] w (Takes w0 g A c b (tByte b ⟨p, 0, 0⟩) (.int .u8) (IsZ .u8) w) := by
  by_cases hp : p < b.length
  · refine (next_ok w0 g A c b p w h hp).mono ?_
    rintro r w1 ⟨rfl, hi, hb⟩
    have e : tByte b ⟨p, 0, 0⟩ = (nth b p, ⟨p + 1, 0, 0⟩) := by unfold tByte; rw [if_pos hp]
    rw [e]
    exact takes_yes hb rfl rfl hi
  · refine (next_end w0 g A c b p w h (by have := h.pos; omega)).mono ?_
    rintro r w1 ⟨rfl, hi, hb⟩
    have e : tByte b ⟨p, 0, 0⟩ = (0, ⟨p, 27, b.length⟩) := by unfold tByte; rw [if_neg hp]
    rw [e]
    exact takes_no hb (by simp) rfl rfl rfl hi

theorem info_takeWords : ∃ i, Tryz.prog.info? 78 = some i ∧ i.zero = some (.int .u32 0) ∧ i.size = 1 ∧ i.bytes = 4 :=
  ⟨(Tryz.prog.info? 78).get (by kernel_rfl), by kernel_rfl, by kernel_rfl, by kernel_rfl, by kernel_rfl⟩
set_option maxRecDepth 100000 in
set_option maxHeartbeats 2000000 in
theorem takeWords (m : Int) (hm0 : 0 ≤ m) (hm1 : m ≤ 1048576) (w0 : World) (g : Nat) (A : Option Addr) (c : Nat) (b : List Int) (p : Nat) (w : World) (h : InBy w0 g A c b p w) :
    Calls Tryz.prog 99 #[.pointer (some ⟨g, 0, none⟩), .int .i64 m, .func (.func 100) #[.pointer (some ⟨g, 0, none⟩)] #[]] w (TakesL 78 1 (iVals .u32) w0 g A c b (tAll b m (tFour b) ⟨p, 0, 0⟩) w) := by
  obtain ⟨i0, hi, hz0, hz1, hz2⟩ := info_takeWords
  have C := upto_any m hm0 (by omega) w0 g A c b p w h
  have hgw := h.lt
  have hab := h.areB
  by_cases hg : (tCount b m ⟨p, 0, 0⟩).2.bad = 0
  · obtain ⟨r0, r1⟩ := count_range hab hg
    have HA : Hid (tAll b m (tFour b) ⟨p, 0, 0⟩ = tList (tFour b) (tCount b m ⟨p, 0, 0⟩).1.toNat ⟨(tCount b m ⟨p, 0, 0⟩).2.pos, 0, 0⟩) := by
      show _ = _
      unfold tAll
      rw [← plain_tk (plain_count b m) hg]
    have HG : Hid _ := hg
    obtain ⟨n, hn⟩ := Int.eq_ofNat_of_zero_le r0
    go_enter Tryz.func99, Tryz.ntmps99
    go_wp2_with fail
    refine C.mono ?_
    intro r w1 hr
    obtain ⟨rfl, hi1, hb1⟩ := hr.ok hg
    rw [hn]
    rw [hn] at r1
    have hn2 : (tCount b m ⟨p, 0, 0⟩).1.toNat = n := by rw [hn]; rfl
    have HA2 : Hid _ := HA.out
    rw [hn2] at HA2
    have H1 : Hid _ := hi1
    have B1 : Hid (But g w w1) := hb1
    generalize (tCount b m ⟨p, 0, 0⟩).2.pos = q0 at *
    clear hr hi1 hb1 hg HG HA hn hn2 C r0 h
    go_wp2
    go_loopw [23, 10] (fun i s wr => ∃ (k q : Nat) (done : List Int), i = .int .i64 k ∧ Far (tFour b) n ⟨q0, 0, 0⟩ k done q ∧ wr.ownsRow w.heap.size 78 1 s k ((iVals .u32) done) ∧ InBy w0 g A c b q wr ∧ But g w wr) (fun i _ _ => n - (intOf i).toNat)
    case atStart => exact ⟨0, q0, [], rfl, far_start _ _ _, World.ownsRow_nil _ _ _ _, H1.out, B1.out⟩
    case round =>
      obtain ⟨k, q, done, rfl, hfar, hown, hin, hbut⟩ := hrel
      have hdl := hfar.1
      have hkn := hfar.2.1
      have HF : Hid (Far (tFour b) n ⟨q0, 0, 0⟩ k done q) := hfar
      have B2 : Hid (But g w wr) := hbut
      have hsz := hbut.2.2.2.1
      obtain ⟨As, ns, cs, rfl⟩ := any_form hown
      clear hfar hbut
      by_cases hlt : k < n
      · have C := word_any w0 g A c b q wr hin
        by_cases hg : (tFour b ⟨q, 0, 0⟩).2.bad = 0
        · go_wp2_with fail
          refine C.mono ?_
          intro r w2 hr
          obtain ⟨rfl, hin2, hb2⟩ := hr.ok hg
          have HX : Hid _ := far_next (plain_four b) HF.out hlt hg
          have hown2 := row_but hown hgw hb2
          have hsz2 := hb2.2.2.2.1
          clear hr C hown hin
          have HB2 : Hid (But g w w2) := B2.out.trans hb2
          clear hb2 hg
          generalize tFour b ⟨q, 0, 0⟩ = F at *
          obtain ⟨x, t⟩ := F
          simp only at hin2 HX ⊢
          have hin3 := hin2.keep (lb_alloc (Below.refl _ _) (.cells #[.int .u32 x] 78))
          have hown3 := hown2.alloc (.cells #[.int .u32 x] 78)
          have HB3 : Hid (But g w (w2.alloc (.cells #[.int .u32 x] 78))) := HB2.out.on (lb_alloc (Below.refl _ _) _)
          have hc : ∀ j u, ([.int .u32 x] : List Value)[j]? = some u → (w2.alloc (.cells #[.int .u32 x] 78)).cell? ((⟨w2.heap.size, 0, none⟩ : Addr).add j) = some u := new_cells _ _ _ (by simp)
          have hone : ∀ u ∈ ([.int .u32 x] : List Value), u.oneCell' = true := by simp [Value.oneCell']
          go_wp2_with (at_builtin; refine wpList_append_own _ rfl (.tmp 33) (.tmp 35) 22 rfl w.heap.size 78 i0 (.int .u32 0) 1 4 Tryz.underlying22 hi hz0 hz1 hz2 rfl (by decide) (.slice As ns cs) k ((iVals .u32) done) rfl hown3 ⟨w2.heap.size, 0, none⟩ 1 1 [.int .u32 x] rfl rfl hc hone (by unfold maxLen; omega) (by omega) (by simp; omega) ?_; intro v' w' hown' hgrow hnil)
          have hr4 : ∀ j, (Value.slice As ns cs).ownBlock = some j → w.heap.size ≤ j := fun j hj => (hown3.lt j hj).1
          have hin4 := in_grown hin3 hgrow hr4 hgw
          have hb4 := but_grown HB3.out hgrow hr4
          go_roundw
          case rel => exact ⟨k + 1, _, _, by go_num, HX.out, by rw [show (iVals .u32) (done ++ [_]) = (iVals .u32) done ++ [.int .u32 x] from iVals_snoc _ _ _]; exact hown', hin4, hb4⟩
          case measure => simp [intOf]; omega
        · go_wp2_with fail
          refine C.mono ?_
          intro r w2 hr
          obtain ⟨_, p2, rfl, rfl, hin2, hb2⟩ := hr.err hg
          have HX : Hid _ := far_bad HF.out hlt hg
          have HG : Hid _ := hg
          clear hr hg C
          generalize tFour b ⟨q, 0, 0⟩ = F at *
          go_wp2
          go_ret2
          exact takesL_no (B2.out.trans hb2) (by rw [HA2.out]; exact HX.out) HG.out hin2
      · obtain rfl : k = n := by omega
        go_wp2
        go_ret2
        exact takesL_yes B2.out (by rw [HA2.out]; exact far_end HF.out) (by rw [hdl]; exact hown) hin
  · have HA : Hid _ := all_bad (f := tFour b) hg
    have HG : Hid _ := hg
    go_enter Tryz.func99, Tryz.ntmps99
    go_wp2_with fail
    refine C.mono ?_
    intro r w1 hr
    obtain ⟨_, p2, rfl, rfl, hi1, hb1⟩ := hr.err hg
    clear hr hg
    generalize (tCount b m ⟨p, 0, 0⟩).2 = T at *
    go_wp2
    go_ret2
    exact takesL_no hb1 HA.out HG.out hi1

theorem info_takeLongs : ∃ i, Tryz.prog.info? 2 = some i ∧ i.zero = some (.int .i64 0) ∧ i.size = 1 ∧ i.bytes = 8 :=
  ⟨(Tryz.prog.info? 2).get (by kernel_rfl), by kernel_rfl, by kernel_rfl, by kernel_rfl, by kernel_rfl⟩
set_option maxRecDepth 100000 in
set_option maxHeartbeats 2000000 in
theorem takeLongs (m : Int) (hm0 : 0 ≤ m) (hm1 : m ≤ 1048576) (w0 : World) (g : Nat) (A : Option Addr) (c : Nat) (b : List Int) (p : Nat) (w : World) (h : InBy w0 g A c b p w) :
    Calls Tryz.prog 102 #[.pointer (some ⟨g, 0, none⟩), .int .i64 m, .func (.func 103) #[.pointer (some ⟨g, 0, none⟩)] #[]] w (TakesL 2 1 (iVals .i64) w0 g A c b (tAll b m (tEight b) ⟨p, 0, 0⟩) w) := by
  obtain ⟨i0, hi, hz0, hz1, hz2⟩ := info_takeLongs
  have C := upto_any m hm0 (by omega) w0 g A c b p w h
  have hgw := h.lt
  have hab := h.areB
  by_cases hg : (tCount b m ⟨p, 0, 0⟩).2.bad = 0
  · obtain ⟨r0, r1⟩ := count_range hab hg
    have HA : Hid (tAll b m (tEight b) ⟨p, 0, 0⟩ = tList (tEight b) (tCount b m ⟨p, 0, 0⟩).1.toNat ⟨(tCount b m ⟨p, 0, 0⟩).2.pos, 0, 0⟩) := by
      show _ = _
      unfold tAll
      rw [← plain_tk (plain_count b m) hg]
    have HG : Hid _ := hg
    obtain ⟨n, hn⟩ := Int.eq_ofNat_of_zero_le r0
    go_enter Tryz.func102, Tryz.ntmps102
    go_wp2_with fail
    refine C.mono ?_
    intro r w1 hr
    obtain ⟨rfl, hi1, hb1⟩ := hr.ok hg
    rw [hn]
    rw [hn] at r1
    have hn2 : (tCount b m ⟨p, 0, 0⟩).1.toNat = n := by rw [hn]; rfl
    have HA2 : Hid _ := HA.out
    rw [hn2] at HA2
    have H1 : Hid _ := hi1
    have B1 : Hid (But g w w1) := hb1
    generalize (tCount b m ⟨p, 0, 0⟩).2.pos = q0 at *
    clear hr hi1 hb1 hg HG HA hn hn2 C r0 h
    go_wp2
    go_loopw [23, 10] (fun i s wr => ∃ (k q : Nat) (done : List Int), i = .int .i64 k ∧ Far (tEight b) n ⟨q0, 0, 0⟩ k done q ∧ wr.ownsRow w.heap.size 2 1 s k ((iVals .i64) done) ∧ InBy w0 g A c b q wr ∧ But g w wr) (fun i _ _ => n - (intOf i).toNat)
    case atStart => exact ⟨0, q0, [], rfl, far_start _ _ _, World.ownsRow_nil _ _ _ _, H1.out, B1.out⟩
    case round =>
      obtain ⟨k, q, done, rfl, hfar, hown, hin, hbut⟩ := hrel
      have hdl := hfar.1
      have hkn := hfar.2.1
      have HF : Hid (Far (tEight b) n ⟨q0, 0, 0⟩ k done q) := hfar
      have B2 : Hid (But g w wr) := hbut
      have hsz := hbut.2.2.2.1
      obtain ⟨As, ns, cs, rfl⟩ := any_form hown
      clear hfar hbut
      by_cases hlt : k < n
      · have C := data_any w0 g A c b q wr hin
        by_cases hg : (tEight b ⟨q, 0, 0⟩).2.bad = 0
        · go_wp2_with fail
          refine C.mono ?_
          intro r w2 hr
          obtain ⟨rfl, hin2, hb2⟩ := hr.ok hg
          have HX : Hid _ := far_next (plain_eight b) HF.out hlt hg
          have hown2 := row_but hown hgw hb2
          have hsz2 := hb2.2.2.2.1
          clear hr C hown hin
          have HB2 : Hid (But g w w2) := B2.out.trans hb2
          clear hb2 hg
          generalize tEight b ⟨q, 0, 0⟩ = F at *
          obtain ⟨x, t⟩ := F
          simp only at hin2 HX ⊢
          have hin3 := hin2.keep (lb_alloc (Below.refl _ _) (.cells #[.int .i64 x] 2))
          have hown3 := hown2.alloc (.cells #[.int .i64 x] 2)
          have HB3 : Hid (But g w (w2.alloc (.cells #[.int .i64 x] 2))) := HB2.out.on (lb_alloc (Below.refl _ _) _)
          have hc : ∀ j u, ([.int .i64 x] : List Value)[j]? = some u → (w2.alloc (.cells #[.int .i64 x] 2)).cell? ((⟨w2.heap.size, 0, none⟩ : Addr).add j) = some u := new_cells _ _ _ (by simp)
          have hone : ∀ u ∈ ([.int .i64 x] : List Value), u.oneCell' = true := by simp [Value.oneCell']
          go_wp2_with (at_builtin; refine wpList_append_own _ rfl (.tmp 33) (.tmp 35) 23 rfl w.heap.size 2 i0 (.int .i64 0) 1 8 Tryz.underlying23 hi hz0 hz1 hz2 rfl (by decide) (.slice As ns cs) k ((iVals .i64) done) rfl hown3 ⟨w2.heap.size, 0, none⟩ 1 1 [.int .i64 x] rfl rfl hc hone (by unfold maxLen; omega) (by omega) (by simp; omega) ?_; intro v' w' hown' hgrow hnil)
          have hr4 : ∀ j, (Value.slice As ns cs).ownBlock = some j → w.heap.size ≤ j := fun j hj => (hown3.lt j hj).1
          have hin4 := in_grown hin3 hgrow hr4 hgw
          have hb4 := but_grown HB3.out hgrow hr4
          go_roundw
          case rel => exact ⟨k + 1, _, _, by go_num, HX.out, by rw [show (iVals .i64) (done ++ [_]) = (iVals .i64) done ++ [.int .i64 x] from iVals_snoc _ _ _]; exact hown', hin4, hb4⟩
          case measure => simp [intOf]; omega
        · go_wp2_with fail
          refine C.mono ?_
          intro r w2 hr
          obtain ⟨_, p2, rfl, rfl, hin2, hb2⟩ := hr.err hg
          have HX : Hid _ := far_bad HF.out hlt hg
          have HG : Hid _ := hg
          clear hr hg C
          generalize tEight b ⟨q, 0, 0⟩ = F at *
          go_wp2
          go_ret2
          exact takesL_no (B2.out.trans hb2) (by rw [HA2.out]; exact HX.out) HG.out hin2
      · obtain rfl : k = n := by omega
        go_wp2
        go_ret2
        exact takesL_yes B2.out (by rw [HA2.out]; exact far_end HF.out) (by rw [hdl]; exact hown) hin
  · have HA : Hid _ := all_bad (f := tEight b) hg
    have HG : Hid _ := hg
    go_enter Tryz.func102, Tryz.ntmps102
    go_wp2_with fail
    refine C.mono ?_
    intro r w1 hr
    obtain ⟨_, p2, rfl, rfl, hi1, hb1⟩ := hr.err hg
    clear hr hg
    generalize (tCount b m ⟨p, 0, 0⟩).2 = T at *
    go_wp2
    go_ret2
    exact takesL_no hb1 HA.out HG.out hi1

theorem info_takeBytes : ∃ i, Tryz.prog.info? 5 = some i ∧ i.zero = some (.int .u8 0) ∧ i.size = 1 ∧ i.bytes = 1 :=
  ⟨(Tryz.prog.info? 5).get (by kernel_rfl), by kernel_rfl, by kernel_rfl, by kernel_rfl, by kernel_rfl⟩
set_option maxRecDepth 100000 in
set_option maxHeartbeats 2000000 in
theorem takeBytes (m : Int) (hm0 : 0 ≤ m) (hm1 : m ≤ 1048576) (w0 : World) (g : Nat) (A : Option Addr) (c : Nat) (b : List Int) (p : Nat) (w : World) (h : InBy w0 g A c b p w) :
    Calls Tryz.prog 137 #[.pointer (some ⟨g, 0, none⟩), .int .i64 m, .func (.func 136) #[.pointer (some ⟨g, 0, none⟩)] #[]] w (TakesL 5 1 (iVals .u8) w0 g A c b (tAll b m (tByte b) ⟨p, 0, 0⟩) w) := by
  obtain ⟨i0, hi, hz0, hz1, hz2⟩ := info_takeBytes
  have C := upto_any m hm0 (by omega) w0 g A c b p w h
  have hgw := h.lt
  have hab := h.areB
  by_cases hg : (tCount b m ⟨p, 0, 0⟩).2.bad = 0
  · obtain ⟨r0, r1⟩ := count_range hab hg
    have HA : Hid (tAll b m (tByte b) ⟨p, 0, 0⟩ = tList (tByte b) (tCount b m ⟨p, 0, 0⟩).1.toNat ⟨(tCount b m ⟨p, 0, 0⟩).2.pos, 0, 0⟩) := by
      show _ = _
      unfold tAll
      rw [← plain_tk (plain_count b m) hg]
    have HG : Hid _ := hg
    obtain ⟨n, hn⟩ := Int.eq_ofNat_of_zero_le r0
    go_enter Tryz.func137, Tryz.ntmps137
    go_wp2_with fail
    refine C.mono ?_
    intro r w1 hr
    obtain ⟨rfl, hi1, hb1⟩ := hr.ok hg
    rw [hn]
    rw [hn] at r1
    have hn2 : (tCount b m ⟨p, 0, 0⟩).1.toNat = n := by rw [hn]; rfl
    have HA2 : Hid _ := HA.out
    rw [hn2] at HA2
    have H1 : Hid _ := hi1
    have B1 : Hid (But g w w1) := hb1
    generalize (tCount b m ⟨p, 0, 0⟩).2.pos = q0 at *
    clear hr hi1 hb1 hg HG HA hn hn2 C r0 h
    go_wp2
    go_loopw [23, 10] (fun i s wr => ∃ (k q : Nat) (done : List Int), i = .int .i64 k ∧ Far (tByte b) n ⟨q0, 0, 0⟩ k done q ∧ wr.ownsRow w.heap.size 5 1 s k ((iVals .u8) done) ∧ InBy w0 g A c b q wr ∧ But g w wr) (fun i _ _ => n - (intOf i).toNat)
    case atStart => exact ⟨0, q0, [], rfl, far_start _ _ _, World.ownsRow_nil _ _ _ _, H1.out, B1.out⟩
    case round =>
      obtain ⟨k, q, done, rfl, hfar, hown, hin, hbut⟩ := hrel
      have hdl := hfar.1
      have hkn := hfar.2.1
      have HF : Hid (Far (tByte b) n ⟨q0, 0, 0⟩ k done q) := hfar
      have B2 : Hid (But g w wr) := hbut
      have hsz := hbut.2.2.2.1
      obtain ⟨As, ns, cs, rfl⟩ := any_form hown
      clear hfar hbut
      by_cases hlt : k < n
      · have C := nextb_any w0 g A c b q wr hin
        by_cases hg : (tByte b ⟨q, 0, 0⟩).2.bad = 0
        · go_wp2_with fail
          refine C.mono ?_
          intro r w2 hr
          obtain ⟨rfl, hin2, hb2⟩ := hr.ok hg
          have HX : Hid _ := far_next (plain_byte b) HF.out hlt hg
          have hown2 := row_but hown hgw hb2
          have hsz2 := hb2.2.2.2.1
          clear hr C hown hin
          have HB2 : Hid (But g w w2) := B2.out.trans hb2
          clear hb2 hg
          generalize tByte b ⟨q, 0, 0⟩ = F at *
          obtain ⟨x, t⟩ := F
          simp only at hin2 HX ⊢
          have hin3 := hin2.keep (lb_alloc (Below.refl _ _) (.cells #[.int .u8 x] 5))
          have hown3 := hown2.alloc (.cells #[.int .u8 x] 5)
          have HB3 : Hid (But g w (w2.alloc (.cells #[.int .u8 x] 5))) := HB2.out.on (lb_alloc (Below.refl _ _) _)
          have hc : ∀ j u, ([.int .u8 x] : List Value)[j]? = some u → (w2.alloc (.cells #[.int .u8 x] 5)).cell? ((⟨w2.heap.size, 0, none⟩ : Addr).add j) = some u := new_cells _ _ _ (by simp)
          have hone : ∀ u ∈ ([.int .u8 x] : List Value), u.oneCell' = true := by simp [Value.oneCell']
          go_wp2_with (at_builtin; refine wpList_append_own _ rfl (.tmp 33) (.tmp 35) 31 rfl w.heap.size 5 i0 (.int .u8 0) 1 1 Tryz.underlying31 hi hz0 hz1 hz2 rfl (by decide) (.slice As ns cs) k ((iVals .u8) done) rfl hown3 ⟨w2.heap.size, 0, none⟩ 1 1 [.int .u8 x] rfl rfl hc hone (by unfold maxLen; omega) (by omega) (by simp; omega) ?_; intro v' w' hown' hgrow hnil)
          have hr4 : ∀ j, (Value.slice As ns cs).ownBlock = some j → w.heap.size ≤ j := fun j hj => (hown3.lt j hj).1
          have hin4 := in_grown hin3 hgrow hr4 hgw
          have hb4 := but_grown HB3.out hgrow hr4
          go_roundw
          case rel => exact ⟨k + 1, _, _, by go_num, HX.out, by rw [show (iVals .u8) (done ++ [_]) = (iVals .u8) done ++ [.int .u8 x] from iVals_snoc _ _ _]; exact hown', hin4, hb4⟩
          case measure => simp [intOf]; omega
        · go_wp2_with fail
          refine C.mono ?_
          intro r w2 hr
          obtain ⟨_, p2, rfl, rfl, hin2, hb2⟩ := hr.err hg
          have HX : Hid _ := far_bad HF.out hlt hg
          have HG : Hid _ := hg
          clear hr hg C
          generalize tByte b ⟨q, 0, 0⟩ = F at *
          go_wp2
          go_ret2
          exact takesL_no (B2.out.trans hb2) (by rw [HA2.out]; exact HX.out) HG.out hin2
      · obtain rfl : k = n := by omega
        go_wp2
        go_ret2
        exact takesL_yes B2.out (by rw [HA2.out]; exact far_end HF.out) (by rw [hdl]; exact hown) hin
  · have HA : Hid _ := all_bad (f := tByte b) hg
    have HG : Hid _ := hg
    go_enter Tryz.func137, Tryz.ntmps137
    go_wp2_with fail
    refine C.mono ?_
    intro r w1 hr
    obtain ⟨_, p2, rfl, rfl, hi1, hb1⟩ := hr.err hg
    clear hr hg
    generalize (tCount b m ⟨p, 0, 0⟩).2 = T at *
    go_wp2
    go_ret2
    exact takesL_no hb1 HA.out HG.out hi1

end Go.Proofs.YthfcimmfkibmjaaGreatDoor

namespace Go.Proofs.YthfcimmfkibmjaaGreatDoor
open Go.RowKit


/-- Bytes as cells. -/
def bNews (l : List Int) : List Value := l.map (Value.int .u8)
theorem bNews_len (l : List Int) : (bNews l).length = l.length := by simp [bNews]
theorem bNews_one (l : List Int) : ∀ u ∈ bNews l, u.oneCell' = true := fun u hu => by
  unfold bNews at hu
  obtain ⟨x, _, rfl⟩ := List.mem_map.1 hu
  rfl
theorem bNews_app (l r : List Int) : bNews l ++ bNews r = bNews (l ++ r) := by simp [bNews]
theorem be4_mod (x : Int) : be4 (x % 4294967296) = be4 x := by
  simp only [be4, List.cons.injEq, and_true]
  omega
/-- An output's box at g holds a row of its own that reads l. -/
def OutAt (w : World) (g : Nat) (l : List Int) : Prop :=
  ∃ v, w.heap[g]? = some (.cells #[v] 76 (0, 0)) ∧ w.ownsRow (g + 1) 5 1 v l.length (bNews l)
/-- No row of bytes. -/
def NoB (w : World) (k : Nat) : Prop := ∀ cur, w.heap[k]? ≠ some (.cells cur 5 (0, 0))
/-- Nothing is other but the box g and rows of bytes behind it. -/
structure OutTo (g : Nat) (w w' : World) : Prop where
  os : w'.os = w.os
  tape : w'.tape = w.tape
  output : w'.output = w.output
  size : w.heap.size ≤ w'.heap.size
  block : ∀ k, k < w.heap.size → k ≠ g → (k < g ∨ NoB w k) → w'.heap[k]? = w.heap[k]?
theorem OutTo.refl (g : Nat) (w : World) : OutTo g w w := ⟨rfl, rfl, rfl, Nat.le_refl _, fun _ _ _ _ => rfl⟩
theorem OutTo.trans {g : Nat} {w w1 w2 : World} (h : OutTo g w w1) (k : OutTo g w1 w2) : OutTo g w w2 := by
  refine ⟨k.os.trans h.os, k.tape.trans h.tape, k.output.trans h.output, Nat.le_trans h.size k.size, fun i hi hg hr => ?_⟩
  have e := h.block i hi hg hr
  refine (k.block i (Nat.lt_of_lt_of_le hi h.size) hg ?_).trans e
  rcases hr with hr | hr
  · exact Or.inl hr
  · exact Or.inr fun cur => by rw [e]; exact hr cur
theorem OutTo.of {g : Nat} {w w1 : World} (hb : Below w.heap.size w w1) : OutTo g w w1 := ⟨hb.os, hb.tape, hb.output, hb.size, fun i hi _ _ => hb.block i hi⟩
theorem OutAt.lt {w : World} {g : Nat} {l : List Int} (h : OutAt w g l) : g < w.heap.size := by
  obtain ⟨v, hv, _⟩ := h
  exact (Array.getElem?_eq_some_iff.1 hv).1
theorem OutAt.keep {w w1 : World} {g : Nat} {l : List Int} (h : OutAt w g l) (hb : Below w.heap.size w w1) : OutAt w1 g l := by
  have hg := h.lt
  obtain ⟨v, hv, ho⟩ := h
  refine ⟨v, by rw [hb.block g hg]; exact hv, ho.kept (row := none) ⟨hb.os, hb.tape, hb.output, hb.size, fun k hk _ => hb.block k hk⟩ ?_⟩
  cases hv : v.ownBlock <;> simp
theorem OutTo.below {g : Nat} {w w1 : World} (hg : g < w.heap.size) (k : OutTo g w w1) : Below g w w1 :=
  ⟨k.os, k.tape, k.output, k.size, fun i hi => k.block i (by omega) (by omega) (Or.inl hi)⟩
/-- A block that is no row of bytes and not the box stays. -/
theorem OutTo.box {g : Nat} {w w1 : World} (k : OutTo g w w1) {B : Nat} {cur : Array Value} {t : TypeId} (hb : w.heap[B]? = some (.cells cur t (0, 0))) (ht : t ≠ 5) (hg : B ≠ g) : w1.heap[B]? = some (.cells cur t (0, 0)) := by
  rw [k.block B (Array.getElem?_eq_some_iff.1 hb).1 hg (Or.inr fun c => by rw [hb]; intro e; cases e; exact ht rfl)]; exact hb
theorem OutTo.cell {g : Nat} {w w1 : World} (k : OutTo g w w1) (hgw : g < w.heap.size) {p : Addr} {v : Value} (hc : w.cell? p = some v) (hg : p.block < g) : w1.cell? p = some v := by
  rw [World.cell?_of_block (w := w) ((k.below hgw).block p.block hg)]; exact hc
theorem own_noB {w : World} {g n k : Nat} {v : Value} {xs : List Value} (h : w.ownsRow (g + 1) 5 1 v n xs) (hk : k < g ∨ NoB w k) : some k ≠ v.ownBlock := fun e => by
  have hl := h.lt k e.symm
  rcases hk with hk | hk
  · omega
  · rcases h.2 with ⟨rfl, _⟩ | ⟨j, cap, cur, rfl, _, hj, _⟩
    · cases e
    · cases e
      exact hk cur hj
/-- A row grown, and put into the box. -/
theorem out_grown {g : Nat} {w w1 : World} {v v' A : Value} {n m : Nat} {xs : List Value} {l : List Int} (hbox : w.heap[g]? = some (.cells #[A] 76 (0, 0))) (ho : w.ownsRow (g + 1) 5 1 v n xs) (hs : w.grownBy w1 v.ownBlock) (ho' : w1.ownsRow (g + 1) 5 1 v' m (bNews l)) (hm : m = l.length) :
    OutAt (w1.setCell ⟨g, 0, none⟩ v') g l ∧ OutTo g w (w1.setCell ⟨g, 0, none⟩ v') := by
  have hg := (Array.getElem?_eq_some_iff.1 hbox).1
  have h1 : w1.heap[g]? = some (.cells #[A] 76 (0, 0)) := by
    rw [hs.block g hg (fun e => by have := ho.lt g e.symm; omega)]; exact hbox
  subst hm
  refine ⟨⟨v', ?_, ?_⟩, ⟨hs.os, hs.tape, hs.output, by simpa [go_sem] using hs.size, fun k hk hg hr => (Below.heap_setCell _ _ _ _ hg).trans (hs.block k hk (own_noB ho hr))⟩⟩
  · simp [World.setCell, Array.getElem?_modify, h1]
  · exact ownsRow_setCell_below ho' (by show g < g + 1; omega) v'
theorem box_cell {w : World} {g : Nat} {A : Value} (h : w.heap[g]? = some (.cells #[A] 76 (0, 0))) : w.cell? ⟨g, 0, none⟩ = some A ∧ w.frozen? ⟨g, 0, none⟩ = false := by
  constructor
  · simp [World.cell?, h]
  · simp [World.frozen?, h]

end Go.Proofs.YthfcimmfkibmjaaGreatDoor

namespace Go.Proofs.YthfcimmfkibmjaaGreatDoor
open Go.RowKit


theorem info5 : ∃ i, Tryz.prog.info? 5 = some i ∧ i.zero = some (.int .u8 0) ∧ i.size = 1 ∧ i.bytes = 1 :=
  ⟨(Tryz.prog.info? 5).get (by kernel_rfl), by kernel_rfl, by kernel_rfl, by kernel_rfl, by kernel_rfl⟩
/-- What a writer of bytes e does. -/
def Puts (g : Nat) (l e : List Int) (w : World) (r : Ending) (w' : World) : Prop := r = .returned (.tuple #[]) ∧ OutAt w' g (l ++ e) ∧ OutTo g w w'
theorem new_lit (w : World) (l : List Int) (h : l.length ≤ 1048576) : (w.alloc (.cells (bNews l).toArray 5)).ownsRow w.heap.size 5 1 (.slice (some ⟨w.heap.size, 0, none⟩) l.length l.length) l.length (bNews l) := by
  refine ⟨by rw [bNews_len]; omega, Or.inr ⟨w.heap.size, l.length, (bNews l).toArray, rfl, Nat.le_refl _, heap_alloc_new _ _, Nat.le_refl _, by unfold maxLen; omega, by simp [bNews], ?_⟩⟩
  simp only [Nat.mul_one]
  rw [← bNews_len l]
  exact List.take_length
theorem lit_cells (w : World) (l : List Int) (h : l.length ≤ 1048576) : ∀ j u, (bNews l)[j]? = some u → (w.alloc (.cells (bNews l).toArray 5)).cell? ((⟨w.heap.size, 0, none⟩ : Addr).add j) = some u := (new_lit w l h).cells rfl
/-- The box behind a growth. -/
theorem box_grown {w w1 : World} {g n : Nat} {v A : Value} {xs : List Value} (hv : w.heap[g]? = some (.cells #[A] 76 (0, 0))) (ho : w.ownsRow (g + 1) 5 1 v n xs) (hs : w.grownBy w1 v.ownBlock) : w1.cell? ⟨g, 0, none⟩ = some A ∧ w1.frozen? ⟨g, 0, none⟩ = false :=
  box_cell (by rw [hs.block g (Array.getElem?_eq_some_iff.1 hv).1 (fun e => by have := ho.lt g e.symm; omega)]; exact hv)
theorem slice_form {w : World} {b n : Nat} {v : Value} {xs : List Value} (h : w.ownsRow b 5 1 v n xs) : ∃ A n c, v = .slice A n c := by
  rcases h.2 with ⟨rfl, _⟩ | ⟨g, cap, cur, rfl, _⟩
  · exact ⟨_, _, _, rfl⟩
  · exact ⟨_, _, _, rfl⟩
set_option maxRecDepth 100000 in
set_option maxHeartbeats 1000000 in
theorem wNumber (g : Nat) (l : List Int) (n : Int) (h0 : 0 ≤ n) (h1 : n < 4294967296) (hl : l.length + 4 ≤ 1048576) (w : World) (ho : OutAt w g l) : Calls Tryz.prog 30 #[.pointer (some ⟨g, 0, none⟩), .int .u32 n] w (Puts g l (be4 n) w) := by
  obtain ⟨i0, hi, hz0, hz1, hz2⟩ := info5
  have hg := ho.lt
  obtain ⟨v, hv, hr⟩ := ho
  have hcell := (box_cell hv).1
  have hfro := (box_cell hv).2
  have e1 : n / 16777216 < 256 := by omega
  have HE : Hid (be4 n = [n / 16777216, n / 65536 % 256, n / 256 % 256, n % 256]) := by
    unfold Hid be4
    congr 1
    omega
  have hc := lit_cells w [n / 16777216, n / 65536 % 256, n / 256 % 256, n % 256] (by simp)
  have hr1 := hr.alloc (.cells (bNews [n / 16777216, n / 65536 % 256, n / 256 % 256, n % 256]).toArray 5)
  have hv1 : Hid ((w.alloc (.cells (bNews [n / 16777216, n / 65536 % 256, n / 256 % 256, n % 256]).toArray 5)).heap[g]? = some (.cells #[v] 76 (0, 0))) := by
    show _ = _
    rw [(lb_alloc (Below.refl _ w) _).block g hg]; exact hv
  have HV : Hid _ := hv
  clear hv
  go_enter Tryz.func30, Tryz.ntmps30
  go_wp2_with (at_builtin; refine wpList_append_own _ rfl (.tmp 8) (.tmp 20) 31 rfl (g + 1) 5 i0 (.int .u8 0) 1 1 Tryz.underlying31 hi hz0 hz1 hz2 rfl (by decide) v l.length (bNews l) rfl hr1 ⟨w.heap.size, 0, none⟩ 4 4 (bNews [n / 16777216, n / 65536 % 256, n / 256 % 256, n % 256]) rfl rfl hc (bNews_one _) (by unfold maxLen; omega) (by omega) (by simp; omega) ?_; intro v' w' hown hgrow hnil; obtain ⟨hcell', hfro'⟩ := box_grown hv1.out hr1 hgrow; have HO : Hid _ := hown; have HG : Hid _ := hgrow; obtain ⟨A', n', c', rfl⟩ := slice_form hown; clear hown hgrow hnil)
  go_end0
  have hq : w'.ownsRow (g + 1) 5 1 (.slice A' n' c') (l.length + 4) (bNews (l ++ be4 n)) := by rw [HE.out, ← bNews_app]; exact HO.out
  obtain ⟨p1, p2⟩ := out_grown hv1.out hr1 HG.out hq (by simp [be4_len])
  exact ⟨rfl, p1, (OutTo.of (lb_alloc (Below.refl _ _) _)).trans p2⟩
theorem wCount (g : Nat) (l : List Int) (n : Int) (hl : l.length + 4 ≤ 1048576) (w : World) (ho : OutAt w g l) : Calls Tryz.prog 80 #[.pointer (some ⟨g, 0, none⟩), .int .i64 n] w (Puts g l (be4 n) w) := by
  have C := wNumber g l (n % 4294967296) (by omega) (by omega) hl w ho
  rw [be4_mod] at C
  go_enter Tryz.func80, Tryz.ntmps80
  go_wp2_with fail
  refine C.mono ?_
  rintro r w1 ⟨rfl, h1, h2⟩
  go_wp2
  go_end0
  exact ⟨rfl, h1, h2⟩
theorem len_app4 (l : List Int) (n : Int) : (l ++ be4 n).length = l.length + 4 := by simp [be4_len]
theorem wLong (g : Nat) (l : List Int) (n : Int) (hl : l.length + 8 ≤ 1048576) (w : World) (ho : OutAt w g l) : Calls Tryz.prog 82 #[.pointer (some ⟨g, 0, none⟩), .int .i64 n] w (Puts g l (be8 n) w) := by
  have hwv : IntKind.u64.wrap n = n % 18446744073709551616 := by simp [IntKind.wrap, IntKind.signed, IntKind.bits]
  have E1 : Hid (be4 (IntKind.u64.wrap n / 4294967296 % 4294967296) = be4 (n / 4294967296)) := by
    show _ = _
    rw [hwv, be4_mod, ← be4_mod (n % 18446744073709551616 / 4294967296), ← be4_mod (n / 4294967296)]
    congr 1
    omega
  have hlen := len_app4 l (n / 4294967296)
  clear hwv
  go_enter Tryz.func82, Tryz.ntmps82
  go_wp2_with fail
  refine (wNumber g l _ ?a1 ?a2 (by omega) _ ho).mono ?_
  case a1 => omega
  case a2 => omega
  rintro r w1 ⟨rfl, h1, h2⟩
  rw [E1.out] at h1
  go_wp2_with fail
  refine (wNumber g _ (n % 4294967296) (by omega) (by omega) (by omega) _ h1).mono ?_
  rintro r w2 ⟨rfl, h3, h4⟩
  rw [be4_mod, List.append_assoc] at h3
  go_wp2
  go_end0
  exact ⟨rfl, h3, h2.trans h4⟩
theorem str_news (s : ByteArray) : Lib.strCells s = bNews (strB s) := by
  unfold Lib.strCells bNews strB
  rw [List.map_map]; rfl
theorem strB_size (s : ByteArray) : (strB s).length = s.size := by
  unfold strB
  rw [List.length_map, Array.length_toList]
  rfl
set_option maxRecDepth 100000 in
set_option maxHeartbeats 1000000 in
theorem wText (g : Nat) (l : List Int) (s : ByteArray) (hl : l.length + 4 + s.size ≤ 1048576) (w : World) (ho : OutAt w g l) : Calls Tryz.prog 78 #[.pointer (some ⟨g, 0, none⟩), .string s] w (Puts g l (textB s) w) := by
  obtain ⟨i0, hi, hz0, hz1, hz2⟩ := info5
  have hlen := len_app4 l s.size
  have HL : Hid (bNews (l ++ be4 s.size) ++ Lib.strCells s = bNews (l ++ textB s) ∧ (l ++ be4 s.size).length + s.size = (l ++ textB s).length) := by
    refine ⟨?_, ?_⟩
    · rw [str_news, bNews_app]; unfold textB; rw [List.append_assoc]
    · unfold textB; simp [be4_len, strB_size]; omega
  go_enter Tryz.func78, Tryz.ntmps78
  go_wp2_with fail
  refine (wCount g l (s.size : Int) (by omega) _ ho).mono ?_
  rintro r w1 ⟨rfl, h1, h2⟩
  have hg := h1.lt
  obtain ⟨v, hv, hr⟩ := h1
  have hcell := (box_cell hv).1
  have hfro := (box_cell hv).2
  have HV : Hid _ := hv
  have H2 : Hid _ := h2
  clear hv h2
  go_wp2_with (at_builtin; refine Lib.wpList_append_own_string _ rfl (.tmp 12) (.tmp 13) 31 9 rfl (g + 1) 5 i0 Tryz.underlying31 Tryz.underlying9 hi hz0 hz1 hz2 v _ _ rfl hr s rfl (by unfold maxLen; omega) (by omega) (by omega) ?_; intro v' w' hown hgrow hnil; obtain ⟨hcell', hfro'⟩ := box_grown HV.out hr hgrow; have HO : Hid _ := hown; have HG : Hid _ := hgrow; obtain ⟨A', n', c', rfl⟩ := slice_form hown; clear hown hgrow hnil)
  go_end0
  have hq : w'.ownsRow (g + 1) 5 1 (.slice A' n' c') ((l ++ be4 s.size).length + s.size) (bNews (l ++ textB s)) := by rw [← HL.out.1]; exact HO.out
  obtain ⟨p1, p2⟩ := out_grown HV.out hr HG.out hq HL.out.2
  exact ⟨rfl, p1, H2.out.trans p2⟩

end Go.Proofs.YthfcimmfkibmjaaGreatDoor

namespace Go.Proofs.YthfcimmfkibmjaaGreatDoor
open Go.RowKit


theorem box3_cell {w : World} {B : Nat} {x y z : Value} {t : TypeId} (h : w.heap[B]? = some (.cells #[x, y, z] t (0, 0))) : w.cell? ⟨B, 0, none⟩ = some x ∧ w.cell? ⟨B, 1, none⟩ = some y ∧ w.cell? ⟨B, 2, none⟩ = some z := by
  refine ⟨?_, ?_, ?_⟩ <;> simp [World.cell?, h]
theorem box2_cell {w : World} {B : Nat} {x y : Value} {t : TypeId} (h : w.heap[B]? = some (.cells #[x, y] t (0, 0))) : w.cell? ⟨B, 0, none⟩ = some x ∧ w.cell? ⟨B, 1, none⟩ = some y := by
  refine ⟨?_, ?_⟩ <;> simp [World.cell?, h]
theorem wSymbol (g : Nat) (l : List Int) (nm : ByteArray) (kd at_ : Int) (hl : l.length + nm.size + 12 ≤ 1048576) (hk : 0 ≤ kd ∧ kd < 128) (w : World) (ho : OutAt w g l) : Calls Tryz.prog 84 #[.pointer (some ⟨g, 0, none⟩), .agg #[.string nm, .int .i8 kd, .int .i64 at_]] w (Puts g l (symB (nm, kd, at_)) w) := by
  have hg := ho.lt
  have ho1 := ho.keep (lb_alloc (Below.refl _ _) (.cells #[.string nm, .int .i8 kd, .int .i64 at_] 68))
  have hb0 : Hid ((w.alloc (.cells #[.string nm, .int .i8 kd, .int .i64 at_] 68)).heap[w.heap.size]? = some (.cells #[.string nm, .int .i8 kd, .int .i64 at_] 68 (0, 0))) := heap_alloc_new _ _
  have HL : Hid ((l ++ textB nm).length = l.length + 4 + nm.size ∧ (l ++ textB nm ++ be4 kd).length = l.length + 8 + nm.size ∧ l ++ textB nm ++ be4 kd ++ be4 at_ = l ++ symB (nm, kd, at_)) := by
    refine ⟨?_, ?_, ?_⟩
    · unfold textB; simp [be4_len, strB_size]; omega
    · unfold textB; simp [be4_len, strB_size]; omega
    · unfold symB; simp
  go_enter Tryz.func84, Tryz.ntmps84
  go_wp2_with fail
  refine (wText g l nm (by omega) _ ho1).mono ?_
  rintro r w1 ⟨rfl, h1, h2⟩
  have hb1 := h2.box hb0.out (by decide) (by omega)
  obtain ⟨a0, a1, a2⟩ := box3_cell hb1
  have HB1 : Hid _ := hb1
  have H2 : Hid _ := h2
  have hL := HL.out.1
  clear hb1 h2
  go_wp2_with fail
  refine (wCount g _ kd (by omega) _ h1).mono ?_
  rintro r w2 ⟨rfl, h3, h4⟩
  have hb2 := h4.box HB1.out (by decide) (by omega)
  obtain ⟨b0, b1, b2⟩ := box3_cell hb2
  have H4 : Hid _ := h4
  have hL2 := HL.out.2.1
  clear hb2 h4
  go_wp2_with fail
  refine (wCount g _ at_ (by omega) _ h3).mono ?_
  rintro r w3 ⟨rfl, h5, h6⟩
  go_wp2
  go_end0
  rw [HL.out.2.2] at h5
  exact ⟨rfl, h5, (OutTo.of (lb_alloc (Below.refl _ _) _)).trans (H2.out.trans (H4.out.trans h6))⟩
theorem wReloc (g : Nat) (l : List Int) (at_ sym : Int) (hl : l.length + 8 ≤ 1048576) (w : World) (ho : OutAt w g l) : Calls Tryz.prog 86 #[.pointer (some ⟨g, 0, none⟩), .agg #[.int .i64 at_, .int .i64 sym]] w (Puts g l (relB (at_, sym)) w) := by
  have hg := ho.lt
  have ho1 := ho.keep (lb_alloc (Below.refl _ _) (.cells #[.int .i64 at_, .int .i64 sym] 119))
  have hb0 : Hid ((w.alloc (.cells #[.int .i64 at_, .int .i64 sym] 119)).heap[w.heap.size]? = some (.cells #[.int .i64 at_, .int .i64 sym] 119 (0, 0))) := heap_alloc_new _ _
  have hL := len_app4 l at_
  have HL : Hid (l ++ be4 at_ ++ be4 sym = l ++ relB (at_, sym)) := by
    show _ = _
    unfold relB; simp
  go_enter Tryz.func86, Tryz.ntmps86
  go_wp2_with fail
  refine (wCount g l at_ (by omega) _ ho1).mono ?_
  rintro r w1 ⟨rfl, h1, h2⟩
  have hb1 := h2.box hb0.out (by decide) (by omega)
  obtain ⟨a0, a1⟩ := box2_cell hb1
  have H2 : Hid _ := h2
  clear hb1 h2
  go_wp2_with fail
  refine (wCount g _ sym (by omega) _ h1).mono ?_
  rintro r w2 ⟨rfl, h3, h4⟩
  go_wp2
  go_end0
  rw [HL.out] at h3
  exact ⟨rfl, h3, (OutTo.of (lb_alloc (Below.refl _ _) _)).trans (H2.out.trans h4)⟩

end Go.Proofs.YthfcimmfkibmjaaGreatDoor
