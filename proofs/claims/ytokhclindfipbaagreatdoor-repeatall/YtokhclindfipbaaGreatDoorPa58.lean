/-
  A bag of ints and sequences: sequences are added, and the lists in them; ints are.
-/
import Derived.Test.YtokhclindfipbaaGreatDoorProg
import Derived.WalkKit
import Derived.WalkSpells
import Derived.WalkLawsBesides
import Derived.RowKit3
import Derived.Below
import Derived.Deep.QuietTactic
import Derived.BigQuiet
import Derived.WalkSmall
import Derived.Laws.Rows
import Derived.Test.YtokhclindfipbaaGreatDoorPa55
import Derived.Test.YtokhclindfipbaaGreatDoorPa47
import Derived.Deep.RegionHeld3
namespace Go.Proofs.YtokhclindfipbaaGreatDoor
open Go.RowKit

theorem Added.pre {n B K : Nat} {TS : TypeId} {f : Nat → Value} {l : List Value} {v : Value} {w : World} {o : Obj} {e : Ending} {w' : World} (h : Added n B K TS f l v (w.alloc o) e w') (hn : n ≤ w.heap.size) : Added n B K TS f l v w e w' := by
  obtain ⟨h0, V, h1, h2, h3, h4⟩ := h
  refine ⟨h0, V, h1, h2, ((Below.refl n w).alloc hn o).trans h3, fun b hb hB ho => ?_⟩
  rw [h4 b (by simp; omega) hB ho, Below.heap_alloc w o b hb]
theorem own_apartR {w : World} {b1 b2 n1 n2 s1 s2 : Nat} {e1 e2 : TypeId} {v1 v2 : Value} {x1 x2 : List Value} (h1 : w.ownsRow b1 e1 s1 v1 n1 x1) (h2 : w.ownsRow b2 e2 s2 v2 n2 x2) (he : e1 ≠ e2) {b : Nat} (hb : v1.ownBlock = some b) : v2.ownBlock ≠ some b := fun h => by
  obtain ⟨c1, q1⟩ := own_block h1 hb
  obtain ⟨c2, q2⟩ := own_block h2 h
  rw [q1] at q2
  simp only [Option.some.injEq, Obj.cells.injEq] at q2
  exact he q2.2.1
theorem own_sameR {w w' : World} {base : Nat} {e : TypeId} {size : Nat} {v : Value} {n : Nat} {xs : List Value} (h : w.ownsRow base e size v n xs) (hs : ∀ b, v.ownBlock = some b → w'.heap[b]? = w.heap[b]?) : w'.ownsRow base e size v n xs := by
  refine ⟨h.1, ?_⟩
  rcases h.2 with h1 | ⟨g, cap, cur, rfl, h2, hg, h3⟩
  · exact .inl h1
  · exact .inr ⟨g, cap, cur, rfl, h2, by rw [hs g rfl]; exact hg, h3⟩
/-- A bag that has ints and sequences alone. -/
structure BgS (w : World) (B : Nat) (l r : List Value) (g : Nat → Value) : Prop where
  is : BagIs w B g
  nil : ∀ k, k < 17 → k ≠ 1 → k ≠ 14 → g k = .slice none 0 0
  r1 : w.ownsRow B 36 1 (g 1) l.length l
  r14 : w.ownsRow B 29 1 (g 14) r.length r
theorem BgS.alloc {w : World} {B : Nat} {l r : List Value} {g : Nat → Value} (h : BgS w B l r g) (o : Obj) : BgS (w.alloc o) B l r g :=
  ⟨h.is.keep (Below.heap_alloc w o B h.is.lt), h.nil, h.r1.alloc o, h.r14.alloc o⟩
theorem BgS.ints {w w' : World} {B : Nat} {l r : List Value} {g : Nat → Value} {v : Value} {e : Ending} (h : BgS w B l r g) (k : Added B B 1 36 g l v w e w') : e = .returned (.tuple #[]) ∧ ∃ g', BgS w' B (l ++ [v]) r g' ∧ Below B w w' := by
  obtain ⟨h0, V, h1, h2, h3, h4⟩ := k
  refine ⟨h0, upd g 1 V, ⟨h1, fun k hk k1 k14 => ?_, ?_, ?_⟩, h3⟩
  · unfold upd
    rw [if_neg k1]
    exact h.nil k hk k1 k14
  · rw [List.length_append]
    exact h2
  · show w'.ownsRow B 29 1 (g 14) r.length r
    exact own_sameR h.r14 fun b hb => h4 b (h.r14.lt b hb).2 (fun e => h.is.off h.r14 (by decide) (e ▸ hb)) (own_apartR h.r14 h.r1 (by decide) hb)
theorem BgS.reps {w w' : World} {B : Nat} {l r : List Value} {g : Nat → Value} {v : Value} {e : Ending} (h : BgS w B l r g) (k : Added B B 14 29 g r v w e w') : e = .returned (.tuple #[]) ∧ ∃ g', BgS w' B l (r ++ [v]) g' ∧ Below B w w' := by
  obtain ⟨h0, V, h1, h2, h3, h4⟩ := k
  refine ⟨h0, upd g 14 V, ⟨h1, fun k hk k1 k14 => ?_, ?_, ?_⟩, h3⟩
  · unfold upd
    rw [if_neg k14]
    exact h.nil k hk k1 k14
  · show w'.ownsRow B 36 1 (g 1) l.length l
    exact own_sameR h.r1 fun b hb => h4 b (h.r1.lt b hb).2 (fun e => h.is.off h.r1 (by decide) (e ▸ hb)) (own_apartR h.r1 h.r14 (by decide) hb)
  · rw [List.length_append]
    exact h2
def BgP (B : Nat) (l r : List Value) (w : World) (e : Ending) (w' : World) : Prop := e = .returned (.tuple #[]) ∧ ∃ g', BgS w' B l r g' ∧ Below B w w'
set_option maxRecDepth 100000 in
set_option maxHeartbeats 1000000 in
theorem addints_bg (B : Nat) (g : Nat → Value) (l r : List Value) (A : Option Addr) (m c : Nat) (w : World) (h : BgS w B l r g) (hl : l.length ≤ 300) :
    Calls Tryz.prog 19 #[.pointer (some ⟨B, 0, none⟩), .slice A m c] w (BgP B (if l.length < 300 then l ++ [.slice A m c] else l) r w) := by
  by_cases hlt : l.length < 300
  · rw [if_pos hlt]
    exact (addints_any B B g l A m c w (Nat.le_refl _) h.is h.r1 hlt).mono fun e w' k => h.ints k
  · rw [if_neg hlt]
    obtain ⟨A1, c1, e1, -⟩ := own_any h.r1
    have h0 := h.is.cell 1 (by omega)
    rw [e1] at h0
    have hlt' : ¬ (l.length : Int) < 300 := by omega
    have H : Hid (BgS w B l r g) := h
    clear h e1
    go_enter Tryz.func19, Tryz.ntmps19
    go_wp2
    go_end0
    exact ⟨rfl, g, H.out, Below.refl _ _⟩
set_option maxRecDepth 100000 in
set_option maxHeartbeats 1000000 in
theorem addrepeat_bg (B : Nat) (g : Nat → Value) (l r : List Value) (n : Int) (A : Option Addr) (m c : Nat) (w : World) (h : BgS w B l r g) (hl : l.length < 300) :
    Calls Tryz.prog 38 #[.pointer (some ⟨B, 0, none⟩), .agg #[.int .i64 n, .slice A m c]] w (BgP B (l ++ [.slice A m c]) r w) := by
  have hB := h.is.lt
  have C := addints_any B B g l A m c (w.alloc (.cells #[.int .i64 n, .slice A m c] 69)) (Nat.le_refl _) (h.alloc _).is (h.alloc _).r1 hl
  have HK : Hid (∀ e w', Added B B 1 36 g l (.slice A m c) (w.alloc (.cells #[.int .i64 n, .slice A m c] 69)) e w' → BgP B (l ++ [.slice A m c]) r w e w') := fun e w' k => h.ints (k.pre (Nat.le_of_lt hB))
  clear h hB
  go_enter Tryz.func38, Tryz.ntmps38
  go_wp2_with fail
  refine C.mono ?_
  intro e w5 k5
  obtain ⟨rfl, k6⟩ := HK.out _ _ k5
  clear k5 C HK
  go_wp2
  go_end0
  exact ⟨rfl, k6⟩
/-- The lists of the first k. -/
def tkV (PT : List Tp) (k : Nat) : List Value := (PT.take k).map tpV
theorem tk_succ {PT : List Tp} {k : Nat} (h : k < PT.length) : tkV PT (k + 1) = tkV PT k ++ [tpV (pth PT k)] := by
  unfold tkV
  rw [List.take_add_one, List.map_append, List.getElem?_eq_getElem h]
  unfold pth
  rw [List.getD_eq_getElem?_getD, List.getElem?_eq_getElem h]
  rfl
set_option maxRecDepth 100000 in
set_option maxHeartbeats 4000000 in
theorem addrepeats_bg (B : Nat) (g : Nat → Value) (PT : List Tp) (O : Option Addr) (c : Nat) (Wp w : World) (h : BgS w B [] [] g) (hT : TpsAt Wp O PT) (hp : Below Wp.heap.size Wp w) (hs : Wp.heap.size ≤ B) (_hl : PT.length ≤ 1048576) :
    Calls Tryz.prog 18 #[.pointer (some ⟨B, 0, none⟩), .slice O PT.length c] w (BgP B (tkV PT 300) [.slice O PT.length c] w) := by
  obtain ⟨i1, hy, hy0, hy1, hy2⟩ := infoOR
  obtain ⟨A0, c0, e0, -⟩ := own_any h.r14
  have h0 := h.is.cell 14 (by omega)
  have HE : Hid (g 14 = .slice A0 0 c0) := e0
  have hx := fun v w1 (h1 : w1.ownsRow B 29 1 v (([] : List Value).length + 1) ([] ++ [.slice O PT.length c])) (h2 : (w.alloc (.cells #[.slice O PT.length c] 29)).grownBy w1 (g 14).ownBlock) => added (V := v) (by decide) (by omega) (Nat.le_refl B) h.is h.r14 (.cells #[.slice O PT.length c] 29) h1 h2
  have HX : Hid _ := hx
  have ho1 := h.r14.alloc (.cells #[.slice O PT.length c] 29)
  have HF : Hid (BgS w B [] [] g) := h
  have HT : Hid (TpsAt Wp O PT) := hT
  have HP : Hid (Below Wp.heap.size Wp w) := hp
  have hBs : Hid (B < w.heap.size) := h.is.lt
  have HL2 : Hid ((g 14).ownBlock ≠ some B) := h.is.off h.r14 (by decide)
  rw [e0] at h0 ho1
  clear e0 h hx hT hp
  go_enter Tryz.func18, Tryz.ntmps18
  go_upto_region 2 with (at_builtin; go_loud (refine wpList_append_own _ rfl (.tmp 15) (.tmp 17) 61 rfl B 29 i1 (.slice none 0 0) 1 24 Tryz.underlying61 hy hy0 hy1 hy2 rfl (by decide) _ 0 [] rfl ho1 ⟨w.heap.size, 0, none⟩ 1 1 [.slice O PT.length c] rfl rfl (fun j u hu => World.news_of_block (heap_alloc_new _ _) j u hu) (fun u hu => by cases hu with | head => rfl | tail _ h => cases h) (by unfold maxLen; omega) (by omega) (by have := hBs.out; simp; omega) ?_; intro v1 w1 hown hgrow _; rw [← HE.out] at hgrow; have HQ : Hid _ := HX.out v1 w1 hown hgrow; have hB1 := HF.out.is.keep (show w1.heap[B]? = w.heap[B]? by rw [hgrow.block B (by have := hBs.out; simp; omega) (fun e => HL2.out e.symm), Below.heap_alloc w _ B hBs.out]); have hfr := hB1.fro 14; have hce := hB1.cell 14 (by omega); obtain ⟨Av, cv, ev, -⟩ := own_any hown; subst ev; clear hown hgrow hB1 ho1 HX))
  obtain ⟨-, g2, HG', hb2⟩ := HF.out.reps HQ.out
  obtain ⟨w2, hw2⟩ : ∃ w2, w1.setCell ⟨B, 14, none⟩ (.slice Av (0 + 1) cv) = w2 := ⟨_, rfl⟩
  have HG : Hid (BgS w2 B [] [.slice O PT.length c] g2) := by unfold Hid; rw [← hw2]; exact HG'
  have HB2 : Hid (Below B w w2) := by unfold Hid; rw [← hw2]; exact hb2
  have hw3 : w1.setCell ⟨B, 14, none⟩ (.slice Av 1 cv) = w2 := hw2
  rw [hw3]
  clear HG' hb2 hw2 hw3 HQ hfr hce HE HL2 h0 HF
  go_wp2
  go_loopw [4] (fun v wr => ∃ k : Nat, v = .int .i64 (k : Int) ∧ k ≤ PT.length ∧ k ≤ 300 ∧ Hid (∃ g', BgS wr B (tkV PT k) [.slice O PT.length c] g') ∧ Hid (Below B w wr)) (fun v _ => PT.length - (intOf v).toNat)
  case atStart => exact ⟨0, rfl, Nat.zero_le _, Nat.zero_le _, ⟨g2, HG.out⟩, HB2⟩
  case round =>
    clear HG HB2
    obtain ⟨k, rfl, hk, hk3, HG, HW⟩ := hrel
    obtain ⟨g3, hg3⟩ := HG.out
    have hkl : (tkV PT k).length = k := by unfold tkV; rw [List.length_map, List.length_take]; omega
    by_cases hlt : k < PT.length
    · have hlt1 : (k : Int) < (PT.length : Int) := by omega
      by_cases h3 : k < 300
      · have hlt2 : (k : Int) < 300 := by omega
        have HPr : Hid (Below Wp.heap.size Wp wr) := HP.out.trans (HW.out.mono hs)
        obtain ⟨a, ea, x0, x1, -⟩ := (HT.out.keep HPr.out) k hlt
        subst ea
        have HS : Hid (tkV PT (k + 1) = tkV PT k ++ [tpV (pth PT k)]) := tk_succ hlt
        obtain ⟨⟨⟨n, L⟩, ⟨O5, c5⟩⟩, hp⟩ : ∃ p, pth PT k = p := ⟨_, rfl⟩
        rw [hp] at x0 x1 HS
        unfold tpV at x1
        simp only at x0 x1
        have C := addrepeat_bg B g3 _ _ n O5 L.length c5 wr hg3 (by omega)
        unfold BgP at C
        have HS2 : Hid (tkV PT (k + 1) = tkV PT k ++ [.slice O5 L.length c5]) := HS.out
        rw [← HS2.out] at C
        clear hg3 HG hkl HS HS2 hp
        go_wp2_with fail
        refine C.mono ?_
        rintro e w5 ⟨rfl, g5, hg5, hb5⟩
        have HG5 : Hid (∃ g', BgS w5 B (tkV PT (k + 1)) [.slice (some a) PT.length c] g') := ⟨g5, hg5⟩
        have HW5 : Hid (Below B w w5) := HW.out.trans hb5
        clear hg5 hb5
        go_wp2
        go_roundw
        case rel => exact ⟨k + 1, by go_num, by omega, by omega, HG5, HW5⟩
        case measure => simp [intOf]; omega
      · have hlt2 : ¬ (k : Int) < 300 := by omega
        obtain rfl : k = 300 := by omega
        go_wp2
        go_end0
        exact ⟨rfl, g3, hg3, HW.out⟩
    · have hlt1 : ¬ (k : Int) < (PT.length : Int) := by omega
      have ht : tkV PT k = tkV PT 300 := by unfold tkV; rw [List.take_of_length_le (by omega), List.take_of_length_le (by omega)]
      rw [ht] at hg3
      obtain rfl : k = PT.length := by omega
      clear hkl ht
      go_wp2
      go_end0
      exact ⟨rfl, g3, hg3, HW.out⟩

end Go.Proofs.YtokhclindfipbaaGreatDoor
