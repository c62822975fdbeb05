/-
  A list of numbers copied by append, by the document's helpers: a list of its own; it is at most 2^20 long. A list of symbols, of relocations copied by append, by the document's helpers: a list of its own; it is at most 2^20 long. An object copied by the document's helper: each list is its own; the lists are at most 2^20 long. CopyImage of the statements, by what it returns; the lists have at most 2^20 items. The document's Same, Numbers and Count.
-/
import Derived.Test.YtblmcphmgicocaaDoorProg
import Derived.WalkKit
import Derived.WalkSpells
import Derived.WalkLawsBesides
import Derived.RowKit3
import Derived.Below
import Derived.Deep.QuietTactic
import Derived.BigQuiet
import Derived.WalkSmall
import Derived.Laws.AppendOwn
import Derived.Laws.OwnMore
import Derived.Deep.Slices
import Derived.Lib.BufferOwn
import Derived.Test.YtblmcphmgicocaaDoorPf19
import Derived.Laws.Rows
import Derived.Test.YtblmcphmgicocaaDoorPf11
import Derived.Test.YtblmcphmgicocaaDoorPf03
import Derived.Test.YtblmcphmgicocaaDoorPf20
namespace Go.Proofs.YtblmcphmgicocaaDoor
open Go.RowKit

/-- How a copy ends: a list of its own. -/
def CopyP (el sz n : Nat) (news : List Value) (w : World) (e : Ending) (w' : World) : Prop := ∃ (O : Option Addr) (cap : Nat), e = .returned (.slice O n cap) ∧ w'.ownsRow w.heap.size el sz (.slice O n cap) n news ∧ w.grownBy w' none ∧ (O = none → cap = 0)
theorem copyP_mk {el sz n : Nat} {news : List Value} {w w' : World} {v : Value} {e : Ending} (he : e = .returned v) (h : w'.ownsRow w.heap.size el sz v n news) (hg : w.grownBy w' none) : CopyP el sz n news w e w' := by
  subst he
  rcases h.2 with ⟨rfl, rfl⟩ | ⟨g, cap, cur, rfl, _⟩
  · exact ⟨none, 0, rfl, h, hg, fun _ => rfl⟩
  · exact ⟨some ⟨g, 0, none⟩, cap, rfl, h, hg, fun e => by cases e⟩
def iNews (K : IntKind) (zs : List Int) : List Value := (List.range zs.length).map (wInt K zs)
theorem iNews_cell {w : World} {a : Addr} {K : IntKind} {zs : List Int} (hA : IntsAt w (some a) K zs) (j : Nat) (u : Value) (h : (iNews K zs)[j]? = some u) : w.cell? (a.add j) = some u := by
  have hj : j < zs.length := by
    have := (List.getElem?_eq_some_iff.1 h).1; simpa [iNews] using this
  obtain ⟨b, e, c⟩ := hA j hj
  obtain rfl := Option.some.inj e
  rw [c, ← h]
  simp [iNews, hj, wInt]
theorem iNews_one (K : IntKind) (zs : List Int) : ∀ u ∈ iNews K zs, u.oneCell' = true := by
  intro u hu
  obtain ⟨i, _, rfl⟩ := List.mem_map.1 hu
  unfold wInt; split <;> rfl
theorem gcell {w w' : World} (hg : w.grownBy w' none) {p : Addr} {v : Value} (hc : w.cell? p = some v) : w'.cell? p = some v := hg.cell hc (by simp)
theorem gfroz {w w' : World} (hg : w.grownBy w' none) {p : Addr} {v : Value} (hc : w.cell? p = some v) (hf : w.frozen? p = false) : w'.frozen? p = false := by
  rw [World.frozen?_of_block (hg.block p.block (World.block_lt_of_cell? w p hc) (by simp))]; exact hf
theorem scell_ne {w : World} {b i j : Nat} {v u : Value} (hij : ¬ i = j) (h : w.cell? ⟨b, j, none⟩ = some u) : (w.setCell ⟨b, i, none⟩ v).cell? ⟨b, j, none⟩ = some u := by
  rw [← h]; simp [go_sem]
theorem scell_eq {w : World} {b i : Nat} {v u : Value} (h : w.cell? ⟨b, i, none⟩ = some u) : (w.setCell ⟨b, i, none⟩ v).cell? ⟨b, i, none⟩ = some v := by
  simp [go_sem, h]
theorem scell_far {w : World} {b c i j : Nat} {v u : Value} (hbc : ¬ b = c) (h : w.cell? ⟨c, j, none⟩ = some u) : (w.setCell ⟨b, i, none⟩ v).cell? ⟨c, j, none⟩ = some u := by
  rw [← h]; simp [go_sem]
theorem sfroz {w : World} {b i : Nat} {v : Value} {q : Addr} (h : w.frozen? q = false) : (w.setCell ⟨b, i, none⟩ v).frozen? q = false := by
  rw [← h]; simp [go_sem]
theorem keepN {w w' : World} {base e sz : Nat} {v : Value} {n : Nat} {xs : List Value} (h : w.ownsRow base e sz v n xs) (hg : w.grownBy w' none) : w'.ownsRow base e sz v n xs := h.kept hg (by
  by_cases c : v.ownBlock = none
  · exact Or.inl c
  · exact Or.inr c)
theorem keepS {w w' : World} {base e sz b : Nat} {v : Value} {n : Nat} {xs : List Value} (h : w.ownsRow base e sz v n xs) (hg : w.grownBy w' (some b)) (hb : b < base) : w'.ownsRow base e sz v n xs := h.kept hg (Or.inr fun c => by
  have := (h.lt b c).1; omega)
theorem ownMono {w : World} {base base' e sz : Nat} {v : Value} {n : Nat} {xs : List Value} (h : w.ownsRow base e sz v n xs) (hb : base' ≤ base) : w.ownsRow base' e sz v n xs := ⟨h.1, h.2.imp id fun ⟨g, cap, cur, a, b, c⟩ => ⟨g, cap, cur, a, Nat.le_trans hb b, c⟩⟩
theorem gset (w : World) (b i : Nat) (v : Value) : w.grownBy (w.setCell ⟨b, i, none⟩ v) (some b) := Lib.grownBy_setB (World.grownBy.refl w _) i v
theorem below_grow {w w1 w2 : World} (h : Below w.heap.size w w1) (hg : w1.grownBy w2 none) : Below w.heap.size w w2 := h.grown hg h.size (fun k e => by cases e)

end Go.Proofs.YtblmcphmgicocaaDoor

namespace Go.Proofs.YtblmcphmgicocaaDoor
open Go.RowKit

theorem old_at {w : World} {o o' : Obj} {n : Nat} (h : w.heap[n]? = some o) : (w.alloc o').heap[n]? = some o := by
  rw [Below.heap_alloc w o' n (Array.getElem?_eq_some_iff.1 h).1]; exact h
theorem new_at {w : World} {o : Obj} {n : Nat} (h : n = w.heap.size) : (w.alloc o).heap[n]? = some o := by subst h; exact heap_alloc_new w o
theorem box_other {w : World} {B P : Nat} {o : Obj} (h : w.heap[B]? = some o) (hB : B ≠ P) (i : Nat) (v : Value) : (w.setCell ⟨P, i, none⟩ v).heap[B]? = some o := (Below.heap_setCell _ _ _ _ hB).trans h
theorem zbox3_cell {w : World} {B : Nat} {x y z : Value} {t : TypeId} (h : w.heap[B]? = some (.cells #[x, y, z] t (0, 0))) : w.cell? ⟨B, 0, none⟩ = some x ∧ w.cell? ⟨B, 1, none⟩ = some y ∧ w.cell? ⟨B, 2, none⟩ = some z := by
  refine ⟨?_, ?_, ?_⟩ <;> simp [World.cell?, h]
theorem zNews_vals (K : IntKind) (zs : List Int) : iNews K zs = iVals K zs := by
  apply List.ext_getElem?
  intro i
  unfold iNews iVals
  by_cases h : i < zs.length
  · simp [h, wInt, nth, List.getD]
  · simp [h]


/-- What CopyImage answers. -/
def CopyI (text mem : List Int) (ent : Int) (w : World) (e : Ending) (w' : World) : Prop := ∃ (A1 A2 : Option Addr) (k1 k2 : Nat), e = .returned (.agg #[.slice A1 text.length k1, .int .i64 ent, .slice A2 mem.length k2]) ∧ RowsI w' w.heap.size A1 A2 k1 k2 text mem ∧ Below w.heap.size w w'

end Go.Proofs.YtblmcphmgicocaaDoor

namespace Go.Proofs.YtblmcphmgicocaaDoor
open Go.RowKit

set_option maxHeartbeats 1000000 in
theorem refsame_any (v u : Int) (h0 : 0 ≤ v) (h1 : v < 4294967296) (w : World) : Calls Tryd.prog 11 #[.int .u32 v, .int .u32 u] w fun e w' => e = .returned (.bool (smB v u)) ∧ Below w.heap.size w w' := by
  have C := fun wx => refalone_any v h0 h1 wx
  unfold smB
  by_cases hv : v = u
  · subst hv
    have e : (v == v) = true := by simp
    rw [e, Bool.true_and]
    clear e
    generalize alB v = b at *
    go_enter Tryd.func11, Tryd.ntmps11
    go_wp2_with (go_at_call 28; refine (C _).mono ?_; rintro e w1 ⟨rfl, hb1⟩)
    go_ret
    exact ⟨rfl, hb1⟩
  · have e : (v == u) = false := by simpa using hv
    rw [e, Bool.false_and]
    go_enter Tryd.func11, Tryd.ntmps11
    go_wp2
    go_ret
    exact ⟨rfl, Below.refl _ _⟩
/-- A list of numbers of memory of its own. -/
def NewL (l : List Int) (w : World) (e : Ending) (w' : World) : Prop := ∃ (A : Option Addr) (c : Nat), e = .returned (.slice A l.length c) ∧ w'.ownsRow w.heap.size 3 1 (.slice A l.length c) l.length (iVals .i64 l) ∧ Below w.heap.size w w'
/-- How the search has come on: none below k, or found. -/
def SrN (text : List Int) (i k : Nat) (n : Int) : Prop := (n = -1 ∧ ∀ j, j < k → smB (nth text j) (nth text i) = false) ∨ (fstP text i < i ∧ n = ((numN text i : Nat) : Int) ∧ fstP text i < k)
theorem SrN.hit {text : List Int} {i k : Nat} (hk : k < i) (h : ∀ j, j < k → smB (nth text j) (nth text i) = false) (e : smB (nth text k) (nth text i) = true) : SrN text i (k + 1) ((numN text k : Nat) : Int) := by
  have e1 := fstP_hit hk h e
  refine .inr ⟨by omega, ?_, by omega⟩
  have : numN text i = numN text k := (num_same hk).2 ⟨(smB_iff.1 e).1.symm, by rw [← (smB_iff.1 e).1]; exact (smB_iff.1 e).2⟩
  rw [this]
theorem SrN.miss {text : List Int} {i k : Nat} (h : ∀ j, j < k → smB (nth text j) (nth text i) = false) (e : smB (nth text k) (nth text i) = false) : SrN text i (k + 1) (-1) := .inl ⟨rfl, fun j hj => by
  by_cases x : j = k
  · subst x; exact e
  · exact h j (by omega)⟩
set_option maxRecDepth 100000 in
set_option maxHeartbeats 4000000 in
theorem refnumbers_any (A : Option Addr) (c : Nat) (text : List Int) (w : World) (hA : IntsAt w A .u32 text) (hR : ∀ i, i < text.length → 0 ≤ nth text i ∧ nth text i < 4294967296) (hl : text.length ≤ 1048576) :
    Calls Tryd.prog 26 #[.slice A text.length c] w (NewL (numL text text.length) w) := by
  obtain ⟨iI, hi, hz0, hz1, hz2⟩ := infoI
  have HA : Hid (IntsAt w A .u32 text) := hA
  have HR : Hid (∀ i, i < text.length → 0 ≤ nth text i ∧ nth text i < 4294967296) := hR
  clear hA hR
  go_enter Tryd.func26, Tryd.ntmps26
  go_wp2
  go_loopw [3, 4, 5] (fun v x i wr => ∃ (k : Nat) (O : Option Addr) (co : Nat), i = .int .i64 k ∧ x = .int .i64 ((rnk text k : Nat) : Int) ∧ v = .slice O k co ∧ k ≤ text.length ∧ Hid (wr.ownsRow w.heap.size 3 1 v k (iVals .i64 (numL text k))) ∧ Hid (Below w.heap.size w wr)) (fun _ _ i _ => text.length - (intOf i).toNat)
  case atStart => exact ⟨0, none, 0, rfl, rfl, rfl, Nat.zero_le _, World.ownsRow_nil _ _ _ _, Below.refl _ _⟩
  case round =>
    obtain ⟨i, O, co, rfl, rfl, rfl, hk, HO, HB⟩ := hrel
    by_cases hlt : i < text.length
    · have hlt' : (i : Int) < (text.length : Int) := by omega
      have hru := rnk_up text i
      have HRk : Hid (rnk text (i + 1) = if fstP text i = i then rnk text i + 1 else rnk text i) := rnk_step text i
      have HNn : Hid (fstP text i = i → numN text i = rnk text i) := num_new
      have HS : Hid (numL text (i + 1) = numL text i ++ [((numN text i : Nat) : Int)]) := numL_succ text i
      have HLn : Hid ((numL text i).length = i) := numL_len text i
      have HNt : Hid (∀ k, k < i → nth (numL text i) k = ((numN text k : Nat) : Int)) := fun k hk => numL_nth hk
      have hnu : numN text i ≤ 1048576 := by have := num_le text i; omega
      generalize rnk text i = r at *
      go_wp2
      go_loopw [6, 7] (fun n k wr => ∃ (k' : Nat) (n' : Int), k = .int .i64 k' ∧ n = .int .i64 n' ∧ k' ≤ i ∧ Hid (SrN text i k' n') ∧ Hid (wr.ownsRow w.heap.size 3 1 (.slice O i co) i (iVals .i64 (numL text i))) ∧ Hid (Below w.heap.size w wr)) (fun _ k _ => i - (intOf k).toNat)
      case atStart => exact ⟨0, -1, rfl, rfl, Nat.zero_le _, .inl ⟨rfl, fun j hj => absurd hj (Nat.not_lt_zero _)⟩, HO, HB⟩
      case round =>
        clear HO HB
        obtain ⟨k, n, rfl, rfl, hk2, HSr, HO, HB⟩ := hrel
        rcases HSr.out with ⟨en, hno⟩ | ⟨hf1, en, hf2⟩
        · subst en
          have HNo : Hid (∀ j, j < k → smB (nth text j) (nth text i) = false) := hno
          clear hno HSr
          by_cases hki : k < i
          · have hki' : (k : Int) < (i : Int) := by omega
            have hkt : (k : Int) < (text.length : Int) := by omega
            obtain ⟨a, ea, q1⟩ := (HA.out.keep HB.out) k (by omega)
            subst ea
            obtain ⟨a2, ea2, q2⟩ := (HA.out.keep HB.out) i hlt
            obtain rfl := Option.some.inj ea2
            obtain ⟨v0, v1⟩ := HR.out k (by omega)
            have C := fun wx => refsame_any (nth text k) (nth text i) v0 v1 wx
            have HHit : Hid (smB (nth text k) (nth text i) = true → SrN text i (k + 1) ((numN text k : Nat) : Int)) := fun e => SrN.hit hki HNo.out e
            have HMis : Hid (smB (nth text k) (nth text i) = false → SrN text i (k + 1) (-1)) := fun e => SrN.miss HNo.out e
            have hXX := Below.refl wr.heap.size wr
            cases hs : smB (nth text k) (nth text i) with
            | true =>
              rw [hs] at C
              have HSr := HHit.out hs
              have HSr : Hid (SrN text i (k + 1) ((numN text k : Nat) : Int)) := HSr
              obtain ⟨b, eb, q3⟩ := (row_ints (l := numL text i) (by rw [HLn.out]; exact HO.out)) k (by rw [HLn.out]; exact hki)
              rw [HNt.out k hki] at q3
              subst eb
              have HQ3 : Hid (wr.cell? (b.add k) = some (.int .i64 ((numN text k : Nat) : Int))) := q3
              clear hs HHit HMis HNo q3
              generalize numN text k = nk at *
              generalize nth text k = vk at *
              generalize nth text i = vi at *
              go_upto_region 10 with fail
              go_region_held3 (fun Y => Y.cell? (a.add k) = some (.int .u32 vk) ∧ Y.cell? (a.add i) = some (.int .u32 vi)) (first | exact ⟨q1, q2⟩ | exact ⟨lkeep hY q1, lkeep hY q2⟩) (first | (go_at_call 11; refine (C _).mono ?_; rintro e w5 ⟨rfl, hb5⟩; have hY : Below wr.heap.size wr w5 := (by first | exact hb5 | exact lb_trans hXX.drew hb5); clear hb5))
              all_goals (
                rename_i hS
                clear hS
                have q3 := lkeep hY HQ3.out
                have HO5 : Hid (w5.ownsRow w.heap.size 3 1 (.slice (some b) i co) i (iVals .i64 (numL text i))) := row_keep HO.out hY
                have HB5 : Hid (Below w.heap.size w w5) := lb_trans HB.out hY
                go_wp2
                go_roundw
                (case rel => exact ⟨k + 1, _, by go_num, rfl, by omega, HSr, HO5, HB5⟩)
                (case measure => simp [intOf]; omega))
            | false =>
              rw [hs] at C
              have HSr := HMis.out hs
              have HSr : Hid (SrN text i (k + 1) (-1)) := HSr
              clear hs HHit HMis HNo
              generalize nth text k = vk at *
              generalize nth text i = vi at *
              go_upto_region 10 with fail
              go_region_held3 (fun Y => Y.cell? (a.add k) = some (.int .u32 vk) ∧ Y.cell? (a.add i) = some (.int .u32 vi)) (first | exact ⟨q1, q2⟩ | exact ⟨lkeep hY q1, lkeep hY q2⟩) (first | (go_at_call 11; refine (C _).mono ?_; rintro e w5 ⟨rfl, hb5⟩; have hY : Below wr.heap.size wr w5 := (by first | exact hb5 | exact lb_trans hXX.drew hb5); clear hb5))
              all_goals (
                rename_i hS
                clear hS
                have HO5 : Hid (w5.ownsRow w.heap.size 3 1 (.slice O i co) i (iVals .i64 (numL text i))) := row_keep HO.out hY
                have HB5 : Hid (Below w.heap.size w w5) := lb_trans HB.out hY
                go_wp2
                go_roundw
                (case rel => exact ⟨k + 1, -1, by go_num, rfl, by omega, HSr, HO5, HB5⟩)
                (case measure => simp [intOf]; omega))
          · obtain rfl : k = i := by omega
            have ef := fstP_none HNo.out
            have HXV : Hid (((r : Nat) : Int) = ((numN text k : Nat) : Int)) := by rw [Hid, HNn.out ef]
            have HRk2 : Hid (rnk text (k + 1) = r + 1) := by rw [Hid, HRk.out, if_pos ef]
            clear ef HRk HNn HNo
            generalize numL text k = l at *
            go_upto_region 15 with fail
            have HBa : Hid (Below w.heap.size w (wr.alloc (.cells #[.int .i64 ((r : Nat) : Int)] 3))) := lb_alloc HB.out _
            have HRa : Hid ((wr.alloc (.cells #[.int .i64 ((r : Nat) : Int)] 3)).ownsRow w.heap.size 3 1 (.slice O k co) k (iVals .i64 l)) := row_keep HO.out (lb_alloc (Below.refl _ _) _)
            go_upto_region 5 with (at_builtin; go_loud (refine wpList_append_own _ rfl (.tmp 41) (.tmp 43) 27 rfl w.heap.size 3 iI (.int .i64 0) 1 8 Tryd.underlying27 hi hz0 hz1 hz2 rfl (by decide) (.slice O k co) k (iVals .i64 l) rfl HRa.out ⟨wr.heap.size, 0, none⟩ 1 1 [.int .i64 ((r : Nat) : Int)] rfl rfl (fun j u hu => World.news_of_block (new_at (by simp)) j u hu) one_oneI (by unfold maxLen; omega) (by omega) HBa.out.size ?_; intro v3 w5 hown hgrow _; have HR3 : Hid (w5.ownsRow w.heap.size 3 1 v3 (k + 1) (iVals .i64 (numL text (k + 1)))) := (by rw [Hid, HS.out, iVals_snoc, ← HXV.out]; exact hown); have HB3 : Hid (Below w.heap.size w w5) := HBa.out.grown hgrow HBa.out.size (fun b hb => (HRa.out.lt b hb).1); clear hown hgrow))
            obtain ⟨A5, c5, e5⟩ := own_sl HR3.out
            subst e5
            go_wp2
            go_roundw
            case rel => exact ⟨k + 1, A5, c5, by go_num, by rw [HRk2.out]; go_num, rfl, by omega, HR3, HB3⟩
            case measure => simp [intOf]; omega
        · have HXV : Hid (n = ((numN text i : Nat) : Int)) := en
          have HRk2 : Hid (rnk text (i + 1) = r) := by rw [Hid, HRk.out, if_neg (by omega)]
          have hn0 : 0 ≤ n := by omega
          have hn1 : ¬ n < 0 := by omega
          have hn2 : n ≤ 1048576 := by omega
          clear en HRk HNn HSr hf1 hf2
          generalize numL text i = l at *
          by_cases hki : k < i
          · have hki' : (k : Int) < (i : Int) := by omega
            go_upto_region 15 with fail
            have HBa : Hid (Below w.heap.size w (wr.alloc (.cells #[.int .i64 n] 3))) := lb_alloc HB.out _
            have HRa : Hid ((wr.alloc (.cells #[.int .i64 n] 3)).ownsRow w.heap.size 3 1 (.slice O i co) i (iVals .i64 l)) := row_keep HO.out (lb_alloc (Below.refl _ _) _)
            go_upto_region 5 with (at_builtin; go_loud (refine wpList_append_own _ rfl (.tmp 41) (.tmp 43) 27 rfl w.heap.size 3 iI (.int .i64 0) 1 8 Tryd.underlying27 hi hz0 hz1 hz2 rfl (by decide) (.slice O i co) i (iVals .i64 l) rfl HRa.out ⟨wr.heap.size, 0, none⟩ 1 1 [.int .i64 n] rfl rfl (fun j u hu => World.news_of_block (new_at (by simp)) j u hu) one_oneI (by unfold maxLen; omega) (by omega) HBa.out.size ?_; intro v3 w5 hown hgrow _; have HR3 : Hid (w5.ownsRow w.heap.size 3 1 v3 (i + 1) (iVals .i64 (numL text (i + 1)))) := (by rw [Hid, HS.out, iVals_snoc, ← HXV.out]; exact hown); have HB3 : Hid (Below w.heap.size w w5) := HBa.out.grown hgrow HBa.out.size (fun b hb => (HRa.out.lt b hb).1); clear hown hgrow))
            obtain ⟨A5, c5, e5⟩ := own_sl HR3.out
            subst e5
            go_wp2
            go_roundw
            case rel => exact ⟨i + 1, A5, c5, by go_num, by rw [HRk2.out], rfl, by omega, HR3, HB3⟩
            case measure => simp [intOf]; omega
          · have hki' : ¬ (k : Int) < (i : Int) := by omega
            go_upto_region 15 with fail
            have HBa : Hid (Below w.heap.size w (wr.alloc (.cells #[.int .i64 n] 3))) := lb_alloc HB.out _
            have HRa : Hid ((wr.alloc (.cells #[.int .i64 n] 3)).ownsRow w.heap.size 3 1 (.slice O i co) i (iVals .i64 l)) := row_keep HO.out (lb_alloc (Below.refl _ _) _)
            go_upto_region 5 with (at_builtin; go_loud (refine wpList_append_own _ rfl (.tmp 41) (.tmp 43) 27 rfl w.heap.size 3 iI (.int .i64 0) 1 8 Tryd.underlying27 hi hz0 hz1 hz2 rfl (by decide) (.slice O i co) i (iVals .i64 l) rfl HRa.out ⟨wr.heap.size, 0, none⟩ 1 1 [.int .i64 n] rfl rfl (fun j u hu => World.news_of_block (new_at (by simp)) j u hu) one_oneI (by unfold maxLen; omega) (by omega) HBa.out.size ?_; intro v3 w5 hown hgrow _; have HR3 : Hid (w5.ownsRow w.heap.size 3 1 v3 (i + 1) (iVals .i64 (numL text (i + 1)))) := (by rw [Hid, HS.out, iVals_snoc, ← HXV.out]; exact hown); have HB3 : Hid (Below w.heap.size w w5) := HBa.out.grown hgrow HBa.out.size (fun b hb => (HRa.out.lt b hb).1); clear hown hgrow))
            obtain ⟨A5, c5, e5⟩ := own_sl HR3.out
            subst e5
            go_wp2
            go_roundw
            case rel => exact ⟨i + 1, A5, c5, by go_num, by rw [HRk2.out], rfl, by omega, HR3, HB3⟩
            case measure => simp [intOf]; omega
    · obtain rfl : i = text.length := by omega
      have HLn : Hid ((numL text text.length).length = text.length) := numL_len _ _
      go_wp2
      go_ret
      refine ⟨O, co, ?_, ?_, HB.out⟩
      · rw [HLn.out]; rfl
      · rw [HLn.out]; exact HO.out

set_option maxRecDepth 100000 in
set_option maxHeartbeats 4000000 in
theorem refcount_any (A : Option Addr) (c : Nat) (l : List Int) (w : World) (hA : IntsAt w A .i64 l) (hl : l.length ≤ 1048576) :
    Calls Tryd.prog 13 #[.slice A l.length c] w fun e w' => e = .returned (.int .i64 ((cntN l l.length : Nat) : Int)) ∧ Below w.heap.size w w' := by
  have HA : Hid (IntsAt w A .i64 l) := hA
  clear hA
  go_enter Tryd.func13, Tryd.ntmps13
  go_wp2
  go_loopw [3, 4] (fun x i wr => ∃ (k : Nat), i = .int .i64 k ∧ x = .int .i64 ((cntN l k : Nat) : Int) ∧ k ≤ l.length ∧ Hid (Below w.heap.size w wr)) (fun _ i _ => l.length - (intOf i).toNat)
  case atStart => exact ⟨0, rfl, rfl, Nat.zero_le _, Below.refl _ _⟩
  case round =>
    obtain ⟨i, rfl, rfl, hk, HB⟩ := hrel
    by_cases hlt : i < l.length
    · have hlt' : (i : Int) < (l.length : Int) := by omega
      have hcu := cnt_up l i
      have HC : Hid (cntN l (i + 1) = cntN l i + (if frsB l i = true then 1 else 0)) := rfl
      generalize cntN l i = r at *
      go_wp2
      go_loopw [5, 6] (fun b k wr => ∃ (k' : Nat) (b' : Bool), k = .int .i64 k' ∧ b = .bool b' ∧ k' ≤ i ∧ Hid ((b' = true → ∀ j, j < k' → nth l j ≠ nth l i) ∧ (b' = false → frsB l i = false)) ∧ Hid (Below w.heap.size w wr)) (fun _ k _ => i - (intOf k).toNat)
      case atStart => exact ⟨0, true, rfl, rfl, Nat.zero_le _, ⟨fun _ j hj => absurd hj (Nat.not_lt_zero _), fun h => by cases h⟩, HB⟩
      case round =>
        clear HB
        obtain ⟨k, b, rfl, rfl, hk2, HS, HB⟩ := hrel
        cases b with
        | true =>
          by_cases hki : k < i
          · have hki' : (k : Int) < (i : Int) := by omega
            have hkt : (k : Int) < (l.length : Int) := by omega
            obtain ⟨a, ea, q1⟩ := (HA.out.keep HB.out) k (by omega)
            subst ea
            obtain ⟨a2, ea2, q2⟩ := (HA.out.keep HB.out) i hlt
            obtain rfl := Option.some.inj ea2
            have HS2 : Hid (((nth l k != nth l i) = true → ∀ j, j < k + 1 → nth l j ≠ nth l i) ∧ ((nth l k != nth l i) = false → frsB l i = false)) := ⟨fun h j hj => by
                by_cases x : j = k
                · subst x; simpa using h
                · exact HS.out.1 rfl j (by omega), fun h => by
                cases hf : frsB l i with
                | false => rfl
                | true => exact absurd (frsB_iff.1 hf k hki) (by simpa using h)⟩
            generalize hvk : nth l k = vk at *
            generalize hvi : nth l i = vi at *
            clear hvk hvi HS
            go_upto_region 9 with fail
            go_quiet (fail)
            go_wp2
            go_roundw
            case rel => exact ⟨k + 1, _, by go_num, rfl, by omega, HS2, below_drewN HB.out _⟩
            case measure => simp [intOf]; omega
          · obtain rfl : k = i := by omega
            have hf : frsB l k = true := frsB_iff.2 (HS.out.1 rfl)
            have HC2 : Hid (cntN l (k + 1) = r + 1) := by rw [Hid, HC.out, if_pos hf]
            clear hf HS HC
            go_wp2
            go_roundw
            case rel => exact ⟨k + 1, by go_num, by rw [HC2.out]; go_num, by omega, HB⟩
            case measure => simp [intOf]; omega
        | false =>
          have HC2 : Hid (cntN l (i + 1) = r) := by rw [Hid, HC.out, if_neg (by rw [HS.out.2 rfl]; decide)]; rfl
          clear HS HC
          by_cases hki : k < i
          · have hki' : (k : Int) < (i : Int) := by omega
            go_wp2
            go_roundw
            case rel => exact ⟨i + 1, by go_num, by rw [HC2.out], by omega, HB⟩
            case measure => simp [intOf]; omega
          · have hki' : ¬ (k : Int) < (i : Int) := by omega
            go_wp2
            go_roundw
            case rel => exact ⟨i + 1, by go_num, by rw [HC2.out], by omega, HB⟩
            case measure => simp [intOf]; omega
    · obtain rfl : i = l.length := by omega
      go_wp2
      go_ret
      exact ⟨rfl, HB.out⟩

end Go.Proofs.YtblmcphmgicocaaDoor
