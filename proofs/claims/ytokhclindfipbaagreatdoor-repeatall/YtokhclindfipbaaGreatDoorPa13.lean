/-
  rising: the places of a list. slices.Clone of a list of ints that has one. Of: what its first regions leave.
-/
import Derived.Test.YtokhclindfipbaaGreatDoorProg
import Derived.WalkKit
import Derived.WalkSpells
import Derived.WalkLawsBesides
import Derived.RowKit3
import Derived.Below
import Derived.Deep.QuietTactic
import Derived.BigQuiet
import Derived.WalkSmall
import Derived.Laws.Rows
import Derived.Test.YtokhclindfipbaaGreatDoorPa11
import Derived.Deep.RegionHeld3
import Derived.Test.YtokhclindfipbaaGreatDoorPa12
namespace Go.Proofs.YtokhclindfipbaaGreatDoor
open Go.RowKit

theorem infoR3 : ∃ i, Tryz.prog.info? 3 = some i ∧ i.zero = some (.int .i64 0) ∧ i.size = 1 ∧ i.bytes = 8 :=
  ⟨(Tryz.prog.info? 3).get (by kernel_rfl), by kernel_rfl, by kernel_rfl, by kernel_rfl, by kernel_rfl⟩
theorem made_row (n : Nat) : madeCells #[.int .i64 0] n = (rowC n fun _ => 0).toArray := by
  rw [← Array.toList_inj]
  show (madeCells #[.int .i64 0] n).toList = rowC n fun _ => 0
  apply List.ext_getElem?
  intro i
  by_cases h : i < n
  · rw [rowC_get h]
    simp [madeCells, h, Nat.mod_one]
  · rw [List.getElem?_eq_none (by simp [madeCells]; omega), List.getElem?_eq_none (by rw [rowC_len]; omega)]
theorem make_row (n : Nat) (hn : n ≤ 1048576) (w : World) : (Instr.makeSlice 36 (.int .i64 (n : Int)) (.int .i64 (n : Int))).run Tryz.prog w = .ok (.slice (some ⟨w.heap.size, 0, none⟩) n n) (w.alloc (.cells (rowC n fun _ => 0).toArray 3)) := by
  obtain ⟨i, hi, hz, hs, hb⟩ := infoR3
  have h := run_makeSlice (P := Tryz.prog) w 36 3 i _ Tryz.underlying36 hi hz .i64 .i64 (n : Int) (n : Int) (by omega) (by omega) (by rw [hs]; omega) (by rw [hb]; omega) (by omega)
  rw [hs, show ((n : Int)).toNat = n by omega, Nat.mul_one] at h
  rw [← made_row]
  exact h
theorem RwN.made (w : World) (n : Nat) (f : Nat → Int) : RwN (w.alloc (.cells (rowC n f).toArray 3)) w.heap.size n f := heap_alloc_new _ _
set_option maxRecDepth 100000 in
set_option maxHeartbeats 8000000 in
theorem rising_any (n : Nat) (w : World) (hn : n ≤ 1048576) : Calls Tryz.prog 80 #[.int .i64 (n : Int)] w fun e w' => e = .returned (.slice (some ⟨w.heap.size, 0, none⟩) n n) ∧ RwP w' w.heap.size n (fun j => j) ∧ Below w.heap.size w w' := by
  have hm := make_row n hn
  have HS : Hid (RwN (w.alloc (.cells (rowC n fun _ => 0).toArray 3)) w.heap.size n (fun j => if j < 0 then (j : Int) else 0)) := RwN.made w n _
  have HB : Hid (Below w.heap.size w (w.alloc (.cells (rowC n fun _ => 0).toArray 3))) := lb_alloc (Below.refl _ _) _
  go_enter Tryz.func80, Tryz.ntmps80
  go_wp2
  go_loopw [9] (fun vk wr => ∃ k : Nat, vk = .int .i64 (k : Int) ∧ k ≤ n ∧ Hid (RwN wr w.heap.size n (fun j => if j < k then (j : Int) else 0)) ∧ Hid (Below w.heap.size w wr)) (fun vk _ => n - (intOf vk).toNat)
  case atStart => exact ⟨0, rfl, Nat.zero_le _, HS, HB⟩
  case round =>
    clear HS HB
    obtain ⟨k, rfl, hk, HS, HB⟩ := hrel
    by_cases k1 : k < n
    · have k1' : (k : Int) < (n : Int) := by omega
      have q1 := HS.out.cell k1
      have q2 := HS.out.frz k
      have HE : Hid (RwN (wr.setCell ⟨w.heap.size, k, none⟩ (.int .i64 (k : Int))) w.heap.size n (fun j => if j < k + 1 then (j : Int) else 0)) := (HS.out.set k1 (k : Int)).same fun i _ => by
        show (if i = k then (k : Int) else if i < k then (i : Int) else 0) = if i < k + 1 then (i : Int) else 0
        by_cases e : i = k
        · subst e; rw [if_pos rfl, if_pos (by omega)]
        · rw [if_neg e]
          by_cases h1 : i < k
          · rw [if_pos h1, if_pos (by omega)]
          · rw [if_neg h1, if_neg (by omega)]
      have HB2 : Hid (Below w.heap.size w (wr.setCell ⟨w.heap.size, k, none⟩ (.int .i64 (k : Int)))) := ((But.refl w.heap.size wr).set k _).below HB.out (Nat.le_refl _)
      clear HS HB
      go_wp2
      go_roundw
      case rel => exact ⟨k + 1, by go_num, by omega, HE, HB2⟩
      case measure => simp [intOf]; omega
    · have k1' : ¬ (k : Int) < (n : Int) := by omega
      have HD : Hid (RwP wr w.heap.size n (fun j => j)) := HS.out.same fun i hi => by show (if i < k then (i : Int) else 0) = _; rw [if_pos (by omega)]
      go_wp2
      go_ret
      exact ⟨rfl, HD.out, HB.out⟩




end Go.Proofs.YtokhclindfipbaaGreatDoor

namespace Go.Proofs.YtokhclindfipbaaGreatDoor
open Go.RowKit

theorem ints_newsC {w : World} {X : Addr} {L : List Int} (h : IntsAt w (some X) .i64 L) (j : Nat) (u : Value) (hu : (iVals .i64 L)[j]? = some u) : w.cell? (X.add j) = some u := by
  have hj : j < L.length := by
    have := (List.getElem?_eq_some_iff.1 hu).1
    simpa [iVals] using this
  obtain ⟨a, ea, q⟩ := h j hj
  obtain rfl := Option.some.inj ea
  rw [q, ← hu, iVals_get hj]
theorem some_c (A : Addr) (n c : Nat) (w : World) : (binOp BinOp.eql 36 (.slice (some A) n c) (.slice none 0 0)).run Tryz.prog w = .ok (.bool false) w := by kernel_rfl
theorem ints_oneC (L : List Int) : ∀ u ∈ iVals .i64 L, u.oneCell' = true := fun u hu => by
  unfold iVals at hu
  obtain ⟨x, _, rfl⟩ := List.mem_map.1 hu
  rfl
set_option maxRecDepth 100000 in
set_option maxHeartbeats 8000000 in
theorem clone_ints (A : Addr) (c : Nat) (l : List Int) (w : World) (hA : IntsAt w (some A) .i64 l) (hl0 : 0 < l.length) (hl : l.length ≤ 1048576) : Calls Tryz.prog 81 #[.slice (some A) l.length c] w fun e w' => ∃ g N : Nat, e = .returned (.slice (some ⟨g, 0, none⟩) l.length N) ∧ w.heap.size ≤ g ∧ RwL w' g N l.length (nth l) ∧ N ≤ maxLen ∧ Below w.heap.size w w' := by
  obtain ⟨iI, hi, hz0, hz1, hz2⟩ := infoR3
  have HA : Hid (IntsAt (w.alloc (.cells #[] 3)) (some A) .i64 l) := hA.keep (lb_alloc (Below.refl _ _) _)
  have HB : Hid (Below w.heap.size w (w.alloc (.cells #[] 3))) := lb_alloc (Below.refl _ _) _
  have HO : Hid ((w.alloc (.cells #[] 3)).ownsRow w.heap.size 3 1 (.slice (some ⟨w.heap.size, 0, none⟩) 0 0) 0 []) := ⟨rfl, .inr ⟨w.heap.size, 0, _, rfl, Nat.le_refl _, heap_alloc_new _ _, Nat.le_refl _, by unfold maxLen; omega, rfl, rfl⟩⟩
  have hne := some_c A l.length c
  go_enter Tryz.func81, Tryz.ntmps81
  go_wp2_with (at_builtin; go_loud (refine wpList_append_own _ rfl (.tmp 5) (.tmp 6) 36 rfl w.heap.size 3 iI (.int .i64 0) 1 8 Tryz.underlying36 hi hz0 hz1 hz2 rfl (by decide) (.slice (some ⟨w.heap.size, 0, none⟩) 0 0) 0 [] rfl HO.out A l.length c (iVals .i64 l) rfl (by simp [iVals]) (fun j u hu => ints_newsC HA.out j u hu) (ints_oneC _) (by unfold maxLen; omega) (by omega) HB.out.size ?_; intro v3 w6 hown hgrow _; have HB6 : Hid (Below w.heap.size w w6) := HB.out.grown hgrow HB.out.size (fun b hb => (HO.out.lt b hb).1); have HR6 : Hid (w6.ownsRow w.heap.size 3 1 v3 (0 + l.length) ([] ++ iVals .i64 l)) := hown; clear hown hgrow))
  have h6 := HR6.out
  rw [Nat.zero_add, List.nil_append] at h6
  rcases h6.2 with ⟨_, e⟩ | ⟨g, cap, cur, e, b1, b2, b3, b4, b5, b6⟩
  · omega
  · subst e
    go_wp2
    go_ret
    refine ⟨g, cap, rfl, b1, ⟨cur, b2, by omega, b3, fun i hi => ?_⟩, b4, HB6.out⟩
    rw [Nat.mul_one] at b6
    have h7 : (cur.toList.take l.length)[i]? = some (.int .i64 (nth l i)) := by rw [b6, iVals_get hi]
    rw [List.getElem?_take, if_pos hi] at h7
    simpa using h7




end Go.Proofs.YtokhclindfipbaaGreatDoor

namespace Go.Proofs.YtokhclindfipbaaGreatDoor
open Go.RowKit

/-- Behind the first drawn region: the places rising, a spare row. -/
structure Fst (X wc : World) (g h n : Nat) : Prop where
  bel : Below X.heap.size X wc
  rg : RwP wc g n (fun j => j)
  rh : RwN wc h n (fun _ => 0)
  gh : g ≠ h
  gl : X.heap.size ≤ g
  hl : X.heap.size ≤ h
theorem RwN.below {w w' : World} {g N : Nat} {f : Nat → Int} (h : RwN w g N f) (hb : Below w.heap.size w w') : RwN w' g N f := h.keep (S := fun _ => False) (ButS.of hb) (fun x => x)
theorem RwL.lt {w : World} {g N n : Nat} {f : Nat → Int} (h : RwL w g N n f) : g < w.heap.size := by
  obtain ⟨cs, h1, _⟩ := h
  exact (Array.getElem?_eq_some_iff.1 h1).1
theorem RwL.below {w w' : World} {g N n : Nat} {f : Nat → Int} (h : RwL w g N n f) (hb : Below w.heap.size w w') : RwL w' g N n f := h.keep (S := fun _ => False) (ButS.of hb) (fun x => x)
theorem fst_a {X w5 : World} {n : Nat} (hr : RwP w5 X.heap.size n (fun j => j)) (hb : Below X.heap.size X w5) : Fst X (w5.alloc (.cells (rowC n fun _ => 0).toArray 3)) X.heap.size w5.heap.size n :=
  ⟨lb_alloc hb _, RwN.below hr (lb_alloc (Below.refl _ _) _), RwN.made _ _ _, Nat.ne_of_lt (RwN.lt hr), Nat.le_refl _, hb.size⟩
theorem fst_b {X Z w5 : World} {n : Nat} (hz : Below X.heap.size X Z) (hn : RwN Z X.heap.size n (fun _ => 0)) (hs : Z.heap.size = X.heap.size + 1) (hr : RwP w5 Z.heap.size n (fun j => j)) (hb : Below Z.heap.size Z w5) : Fst X w5 (X.heap.size + 1) X.heap.size n :=
  ⟨lb_trans hz hb, hs ▸ hr, hn.below hb, by omega, by omega, Nat.le_refl _⟩
theorem arr_kept {W w6 : World} {b : Nat} {o : Obj} (hb : Below W.heap.size W w6) (hq : W.heap[b]? = some o) : w6.heap[b]? = some o := by
  rw [hb.block b (Array.getElem?_eq_some_iff.1 hq).1]
  exact hq
theorem two_new (W : World) (o o' : Obj) : ((W.alloc o).alloc o').heap[W.heap.size + 1]? = some o' := by
  have := heap_alloc_new (W.alloc o) o'
  rw [show (W.alloc o).heap.size = W.heap.size + 1 by simp] at this
  exact this
theorem two_old (W : World) (o o' : Obj) : ((W.alloc o).alloc o').heap[W.heap.size]? = some o := arr_kept (lb_alloc (Below.refl _ _) o') (heap_alloc_new W o)
theorem set2_below {w0 w : World} {b : Nat} {v v' : Value} (hb : Below w0.heap.size w0 w) (h : w0.heap.size ≤ b) : Below w0.heap.size w0 ((w.setCell ⟨b, 0, none⟩ v).setCell ⟨b, 1, none⟩ v') := (((But.refl b w).set 0 v).set 1 v').below hb h
theorem arr_four {w6 : World} {b : Nat} {v v' : Value} {t : TypeId} (h : w6.heap[b]? = some (.cells #[v, v'] t)) : w6.cell? ⟨b, 0, none⟩ = some v ∧ w6.cell? ⟨b, 1, none⟩ = some v' ∧ w6.frozen? ⟨b, 0, none⟩ = false ∧ w6.frozen? ⟨b, 1, none⟩ = false ∧ ¬ b = w6.heap.size := by
  refine ⟨by rw [cell_of_row w6 b 0 _ t _ h]; rfl, by rw [cell_of_row w6 b 1 _ t _ h]; rfl, frz_row h 0, frz_row h 1, ?_⟩
  have := (Array.getElem?_eq_some_iff.1 h).1
  omega
theorem arr_more {w6 : World} {b : Nat} {v v' : Value} {t : TypeId} (h : w6.heap[b]? = some (.cells #[v, v'] t)) : (∀ o, (w6.alloc o).cell? ⟨b, 0, none⟩ = some v) ∧ (∀ o, (w6.alloc o).cell? ⟨b, 1, none⟩ = some v') ∧ (∀ o, (w6.alloc o).frozen? ⟨b, 0, none⟩ = false) ∧ (∀ o, (w6.alloc o).frozen? ⟨b, 1, none⟩ = false) :=
  have k := fun o => arr_four (arr_kept (lb_alloc (Below.refl _ _) o) h)
  ⟨fun o => (k o).1, fun o => (k o).2.1, fun o => (k o).2.2.1, fun o => (k o).2.2.2.1⟩
/-- Behind the second one: both rows of ranks, and where they lie. -/
structure Snd (Y wc : World) (br x0 x1 N0 n : Nat) (l : List Int) : Prop where
  bel : Below Y.heap.size Y wc
  rb : wc.heap[br]? = some (.cells #[.slice (some ⟨x0, 0, none⟩) n N0, .slice (some ⟨x1, 0, none⟩) n n] 164)
  r0 : RwL wc x0 N0 n (nth l)
  r1 : RwN wc x1 n (fun _ => 0)
  cp : N0 ≤ maxLen
  b0 : br ≠ x0
  b1 : br ≠ x1
  x01 : x0 ≠ x1
  brl : Y.heap.size ≤ br
  x0l : Y.heap.size ≤ x0
  x1l : Y.heap.size ≤ x1
theorem snd_set {Y w6 : World} {b x0 x1 N0 n : Nat} {l : List Int} {v v' : Value} (H6 : Below Y.heap.size Y w6) (HR : RwL w6 x0 N0 n (nth l)) (hM : RwN w6 x1 n (fun _ => 0)) (hcp : N0 ≤ maxLen) (hQ : w6.heap[b]? = some (.cells #[v, v'] 164)) (hb : Y.heap.size ≤ b) (h0 : Y.heap.size ≤ x0) (h1 : Y.heap.size ≤ x1) (n0 : b ≠ x0) (n1 : b ≠ x1) (n2 : x0 ≠ x1) :
    Snd Y ((w6.setCell ⟨b, 0, none⟩ (.slice (some ⟨x0, 0, none⟩) n N0)).setCell ⟨b, 1, none⟩ (.slice (some ⟨x1, 0, none⟩) n n)) b x0 x1 N0 n l := by
  have hs : ButS (fun k => k = b) w6 ((w6.setCell ⟨b, 0, none⟩ (.slice (some ⟨x0, 0, none⟩) n N0)).setCell ⟨b, 1, none⟩ (.slice (some ⟨x1, 0, none⟩) n n)) := ((ButS.refl (fun k => k = b) w6).set rfl 0 _).set rfl 1 _
  exact ⟨set2_below H6 hb, heap_setCell_same _ _ _ _ _ _ (heap_setCell_same _ _ _ _ _ _ hQ), HR.keep hs (fun e => n0 e.symm), hM.keep hs (fun e => n1 e.symm), hcp, n0, n1, n2, hb, h0, h1⟩
theorem snd1 {Y w6 : World} {x0 N0 n : Nat} {l : List Int} (H6 : Below Y.heap.size Y w6) (HR : RwL w6 x0 N0 n (nth l)) (hcp : N0 ≤ maxLen) (h0 : Y.heap.size ≤ x0) : Snd Y ((w6.alloc (.cells (rowC n fun _ => 0).toArray 3)).alloc (.cells #[.slice (some ⟨x0, 0, none⟩) n N0, .slice (some ⟨w6.heap.size, 0, none⟩) n n] 164)) (w6.heap.size + 1) x0 w6.heap.size N0 n l := by
  have h1 := HR.lt
  have h2 := H6.size
  exact ⟨lb_alloc (lb_alloc H6 _) _, two_new _ _ _, HR.below (lb_alloc (lb_alloc (Below.refl _ _) _) _), (RwN.made w6 n _).below (lb_alloc (Below.refl _ _) _), hcp, by omega, by omega, by omega, by omega, h0, h2⟩
theorem snd2 {Y w6 : World} {x0 N0 n : Nat} {l : List Int} (H6 : Below Y.heap.size Y w6) (HR : RwL w6 x0 N0 n (nth l)) (hcp : N0 ≤ maxLen) (h0 : Y.heap.size ≤ x0) : Snd Y ((w6.alloc (.cells #[.slice (some ⟨x0, 0, none⟩) n N0, .slice (some ⟨w6.heap.size + 1, 0, none⟩) n n] 164)).alloc (.cells (rowC n fun _ => 0).toArray 3)) w6.heap.size x0 (w6.heap.size + 1) N0 n l := by
  have h1 := HR.lt
  have h2 := H6.size
  exact ⟨lb_alloc (lb_alloc H6 _) _, two_old _ _ _, HR.below (lb_alloc (lb_alloc (Below.refl _ _) _) _), two_new _ _ _, hcp, by omega, by omega, by omega, by omega, h0, by omega⟩
theorem snd3 {Y w6 : World} {x0 x1 N0 n : Nat} {l : List Int} (H6 : Below Y.heap.size Y w6) (HR : RwL w6 x0 N0 n (nth l)) (hM : RwN w6 x1 n (fun _ => 0)) (hcp : N0 ≤ maxLen) (h0 : Y.heap.size ≤ x0) (hx1 : Y.heap.size ≤ x1) (n2 : x0 ≠ x1) : Snd Y (w6.alloc (.cells #[.slice (some ⟨x0, 0, none⟩) n N0, .slice (some ⟨x1, 0, none⟩) n n] 164)) w6.heap.size x0 x1 N0 n l := by
  have h1 := HR.lt
  have h3 := hM.lt
  have h2 := H6.size
  exact ⟨lb_alloc H6 _, heap_alloc_new _ _, HR.below (lb_alloc (Below.refl _ _) _), hM.below (lb_alloc (Below.refl _ _) _), hcp, by omega, by omega, n2, by omega, h0, hx1⟩
theorem keepB {S : Nat → Prop} {w w' : World} {b : Nat} {o : Obj} (h : w.heap[b]? = some o) (hb : ButS S w w') (hn : ¬ S b) : w'.heap[b]? = some o := by
  rw [hb.2.2.2.2 b (Array.getElem?_eq_some_iff.1 h).1 hn]
  exact h
/-- Of's memory while it doubles. -/
structure OfM (w0 wr : World) (x0 x1 bk br bs bl bc g h bo N0 N1 s c cap n : Nat) (A : Addr) (f0 f1 : Nat → Int) (P : List Nat) : Prop where
  nd : [x0, x1, bk, br, bs, bl, bc, g, h, bo].Nodup
  lo : ∀ i, i < 10 → w0.heap.size ≤ snth [x0, x1, bk, br, bs, bl, bc, g, h, bo] i
  fk : wr.heap[bk]? = some (.cells #[.func (.func 82) #[] #[.pointer (some ⟨bc, 0, none⟩)]] 94)
  rb : wr.heap[br]? = some (.cells #[.slice (some ⟨x0, 0, none⟩) n N0, .slice (some ⟨x1, 0, none⟩) n N1] 164)
  st : Cst wr bs s
  cs : Cst wr bc c
  ln : wr.heap[bl]? = some (.cells #[.slice (some A) n cap] 36)
  ou : wr.heap[bo]? = some (.cells #[.slice none 0 0, .slice none 0 0, .int .i64 0] 107)
  rg : RwP wr g n (snth P)
  rh : ∃ fs, RwN wr h n fs
  r0 : RwL wr x0 N0 n f0
  r1 : RwL wr x1 N1 n f1
  cp : N0 ≤ maxLen ∧ N1 ≤ maxLen
  bel : Below w0.heap.size w0 wr
section
variable {w0 wr : World} {x0 x1 bk br bs bl bc g h bo N0 N1 s c cap n : Nat} {A : Addr} {f0 f1 : Nat → Int} {P : List Nat}
theorem OfM.ne (a : OfM w0 wr x0 x1 bk br bs bl bc g h bo N0 N1 s c cap n A f0 f1 P) (i k : Nat) (hi : i < k) (hk : k < 10) : snth [x0, x1, bk, br, bs, bl, bc, g, h, bo] i ≠ snth [x0, x1, bk, br, bs, bl, bc, g, h, bo] k := pair_nth.1 a.nd i k hi hk
theorem OfM.ne' (a : OfM w0 wr x0 x1 bk br bs bl bc g h bo N0 N1 s c cap n A f0 f1 P) (i k : Nat) (hi : i < k) (hk : k < 10) : snth [x0, x1, bk, br, bs, bl, bc, g, h, bo] k ≠ snth [x0, x1, bk, br, bs, bl, bc, g, h, bo] i := fun e => a.ne i k hi hk e.symm
theorem OfM.sur {r : List Int} (a : OfM w0 wr x0 x1 bk br bs bl bc g h bo N0 N1 s c cap n A (nth r) f1 P) : Sur wr bk br bs bl bc x0 r n s where
  fk := by rw [cell_of_row wr bk 0 _ _ _ a.fk]; rfl
  rk := ⟨N0, by rw [cell_of_row wr br 0 _ _ _ a.rb]; rfl⟩
  st := a.st.cell
  ln := ⟨some A, cap, by rw [cell_of_row wr bl 0 _ _ _ a.ln]; rfl⟩
  row := fun i hi => a.r0.cell hi
  off := ⟨a.ne 2 6 (by omega) (by omega), a.ne 3 6 (by omega) (by omega), a.ne 4 6 (by omega) (by omega), a.ne 5 6 (by omega) (by omega), a.ne 0 6 (by omega) (by omega)⟩
theorem OfM.ask {r : List Int} (a : OfM w0 wr x0 x1 bk br bs bl bc g h bo N0 N1 s c cap n A (nth r) f1 P) (hn : n ≤ 2048) (hs : s ≤ n) : Ask wr bk br bs bl bc x0 g h r n s where
  sur := a.sur
  gof := ⟨a.ne 2 7 (by omega) (by omega), a.ne 3 7 (by omega) (by omega), a.ne 4 7 (by omega) (by omega), a.ne 5 7 (by omega) (by omega), a.ne 0 7 (by omega) (by omega)⟩
  hof := ⟨a.ne 2 8 (by omega) (by omega), a.ne 3 8 (by omega) (by omega), a.ne 4 8 (by omega) (by omega), a.ne 5 8 (by omega) (by omega), a.ne 0 8 (by omega) (by omega)⟩
  gh := a.ne 7 8 (by omega) (by omega)
  gc := a.ne' 6 7 (by omega) (by omega)
  hc := a.ne' 6 8 (by omega) (by omega)
  nl := by omega
  sl := by omega
theorem heap_lt {w : World} {b : Nat} {o : Obj} (h : w.heap[b]? = some o) : b < w.heap.size := (Array.getElem?_eq_some_iff.1 h).1
theorem OfM.ask2 {r : List Int} (a : OfM w0 wr x0 x1 bk br bs bl bc g h bo N0 N1 s c cap n A (nth r) f1 P) (hn : n ≤ 2048) (hs : s ≤ n) : Ask wr bk br bs bl bc x0 x1 wr.heap.size r n s where
  sur := a.sur
  gof := ⟨a.ne' 1 2 (by omega) (by omega), a.ne' 1 3 (by omega) (by omega), a.ne' 1 4 (by omega) (by omega), a.ne' 1 5 (by omega) (by omega), a.ne 0 1 (by omega) (by omega)⟩
  hof := ⟨Nat.ne_of_lt (heap_lt a.fk), Nat.ne_of_lt (heap_lt a.rb), Nat.ne_of_lt a.st.lt, Nat.ne_of_lt (heap_lt a.ln), Nat.ne_of_lt a.r0.lt⟩
  gh := Nat.ne_of_lt a.r1.lt
  gc := a.ne 1 6 (by omega) (by omega)
  hc := Nat.ne_of_gt a.cs.lt
  nl := by omega
  sl := by omega
/-- What lies elsewhere is kept. -/
theorem OfM.sort {c2 : Nat} {Q : List Nat} {w2 : World} (a : OfM w0 wr x0 x1 bk br bs bl bc g h bo N0 N1 s c cap n A f0 f1 P) (hb : ButS (Trio g h bc) wr w2) (hg : RwP w2 g n (snth Q)) (hh : ∃ fs, RwN w2 h n fs) (hc : Cst w2 bc c2) : OfM w0 w2 x0 x1 bk br bs bl bc g h bo N0 N1 s c2 cap n A f0 f1 Q where
  nd := a.nd
  lo := a.lo
  fk := keepB a.fk hb (not_trio (a.ne 2 7 (by omega) (by omega)) (a.ne 2 8 (by omega) (by omega)) (a.ne 2 6 (by omega) (by omega)))
  rb := keepB a.rb hb (not_trio (a.ne 3 7 (by omega) (by omega)) (a.ne 3 8 (by omega) (by omega)) (a.ne 3 6 (by omega) (by omega)))
  st := a.st.keep hb (not_trio (a.ne 4 7 (by omega) (by omega)) (a.ne 4 8 (by omega) (by omega)) (a.ne 4 6 (by omega) (by omega)))
  cs := hc
  ln := keepB a.ln hb (not_trio (a.ne 5 7 (by omega) (by omega)) (a.ne 5 8 (by omega) (by omega)) (a.ne 5 6 (by omega) (by omega)))
  ou := keepB a.ou hb (not_trio (a.ne' 7 9 (by omega) (by omega)) (a.ne' 8 9 (by omega) (by omega)) (a.ne' 6 9 (by omega) (by omega)))
  rg := hg
  rh := hh
  r0 := a.r0.keep hb (not_trio (a.ne 0 7 (by omega) (by omega)) (a.ne 0 8 (by omega) (by omega)) (a.ne 0 6 (by omega) (by omega)))
  r1 := a.r1.keep hb (not_trio (a.ne 1 7 (by omega) (by omega)) (a.ne 1 8 (by omega) (by omega)) (a.ne 1 6 (by omega) (by omega)))
  cp := a.cp
  bel := hb.below a.bel fun k hk => by
    rcases hk with rfl | rfl | rfl
    · exact a.lo 7 (by omega)
    · exact a.lo 8 (by omega)
    · exact a.lo 6 (by omega)
theorem OfM.rank {c2 : Nat} {f2 : Nat → Int} {w2 : World} (a : OfM w0 wr x0 x1 bk br bs bl bc g h bo N0 N1 s c cap n A f0 f1 P) (hb : ButS (Trio x1 wr.heap.size bc) wr w2) (hx : RwL w2 x1 N1 n f2) (hc : Cst w2 bc c2) : OfM w0 w2 x0 x1 bk br bs bl bc g h bo N0 N1 s c2 cap n A f0 f2 P where
  nd := a.nd
  lo := a.lo
  fk := keepB a.fk hb (not_trio (a.ne' 1 2 (by omega) (by omega)) (Nat.ne_of_lt (heap_lt a.fk)) (a.ne 2 6 (by omega) (by omega)))
  rb := keepB a.rb hb (not_trio (a.ne' 1 3 (by omega) (by omega)) (Nat.ne_of_lt (heap_lt a.rb)) (a.ne 3 6 (by omega) (by omega)))
  st := a.st.keep hb (not_trio (a.ne' 1 4 (by omega) (by omega)) (Nat.ne_of_lt a.st.lt) (a.ne 4 6 (by omega) (by omega)))
  cs := hc
  ln := keepB a.ln hb (not_trio (a.ne' 1 5 (by omega) (by omega)) (Nat.ne_of_lt (heap_lt a.ln)) (a.ne 5 6 (by omega) (by omega)))
  ou := keepB a.ou hb (not_trio (a.ne' 1 9 (by omega) (by omega)) (Nat.ne_of_lt (heap_lt a.ou)) (a.ne' 6 9 (by omega) (by omega)))
  rg := RwN.keep a.rg hb (not_trio (a.ne' 1 7 (by omega) (by omega)) (Nat.ne_of_lt (RwN.lt a.rg)) (a.ne' 6 7 (by omega) (by omega)))
  rh := by
    obtain ⟨fs, k⟩ := a.rh
    exact ⟨fs, k.keep hb (not_trio (a.ne' 1 8 (by omega) (by omega)) (Nat.ne_of_lt k.lt) (a.ne' 6 8 (by omega) (by omega)))⟩
  r0 := a.r0.keep hb (not_trio (a.ne 0 1 (by omega) (by omega)) (Nat.ne_of_lt a.r0.lt) (a.ne 0 6 (by omega) (by omega)))
  r1 := hx
  cp := a.cp
  bel := hb.below a.bel fun k hk => by
    rcases hk with rfl | rfl | rfl
    · exact a.lo 1 (by omega)
    · exact a.bel.size
    · exact a.lo 6 (by omega)
theorem OfM.swap (a : OfM w0 wr x0 x1 bk br bs bl bc g h bo N0 N1 s c cap n A f0 f1 P) : OfM w0 ((wr.setCell ⟨br, 0, none⟩ (.slice (some ⟨x1, 0, none⟩) n N1)).setCell ⟨br, 1, none⟩ (.slice (some ⟨x0, 0, none⟩) n N0)) x1 x0 bk br bs bl bc g h bo N1 N0 s c cap n A f1 f0 P :=
  have hb : ButS (fun k => k = br) wr ((wr.setCell ⟨br, 0, none⟩ (.slice (some ⟨x1, 0, none⟩) n N1)).setCell ⟨br, 1, none⟩ (.slice (some ⟨x0, 0, none⟩) n N0)) := ((ButS.refl (fun k => k = br) wr).set rfl 0 _).set rfl 1 _
  { nd := (List.Perm.swap x0 x1 _).nodup_iff.2 a.nd
    lo := fun i hi => by
      match i, hi with
      | 0, _ => exact a.lo 1 (by omega)
      | 1, _ => exact a.lo 0 (by omega)
      | k + 2, hk => exact a.lo (k + 2) hk
    fk := keepB a.fk hb (a.ne 2 3 (by omega) (by omega))
    rb := heap_setCell_same _ _ _ _ _ _ (heap_setCell_same _ _ _ _ _ _ a.rb)
    st := a.st.keep hb (a.ne' 3 4 (by omega) (by omega))
    cs := a.cs.keep hb (a.ne' 3 6 (by omega) (by omega))
    ln := keepB a.ln hb (a.ne' 3 5 (by omega) (by omega))
    ou := keepB a.ou hb (a.ne' 3 9 (by omega) (by omega))
    rg := RwN.keep a.rg hb (a.ne' 3 7 (by omega) (by omega))
    rh := by
      obtain ⟨fs, k⟩ := a.rh
      exact ⟨fs, k.keep hb (a.ne' 3 8 (by omega) (by omega))⟩
    r0 := a.r1.keep hb (a.ne 1 3 (by omega) (by omega))
    r1 := a.r0.keep hb (a.ne 0 3 (by omega) (by omega))
    cp := ⟨a.cp.2, a.cp.1⟩
    bel := hb.below a.bel fun k hk => by
      subst hk
      exact a.lo 3 (by omega) }
theorem OfM.two (a : OfM w0 wr x0 x1 bk br bs bl bc g h bo N0 N1 s c cap n A f0 f1 P) (t : Nat) : OfM w0 (wr.setCell ⟨bs, 0, none⟩ (.int .i64 (t : Int))) x0 x1 bk br bs bl bc g h bo N0 N1 t c cap n A f0 f1 P :=
  have hb : ButS (fun k => k = bs) wr (wr.setCell ⟨bs, 0, none⟩ (.int .i64 (t : Int))) := (ButS.refl (fun k => k = bs) wr).set rfl 0 _
  { nd := a.nd
    lo := a.lo
    fk := keepB a.fk hb (a.ne 2 4 (by omega) (by omega))
    rb := keepB a.rb hb (a.ne 3 4 (by omega) (by omega))
    st := a.st.set t
    cs := a.cs.keep hb (a.ne' 4 6 (by omega) (by omega))
    ln := keepB a.ln hb (a.ne' 4 5 (by omega) (by omega))
    ou := keepB a.ou hb (a.ne' 4 9 (by omega) (by omega))
    rg := RwN.keep a.rg hb (a.ne' 4 7 (by omega) (by omega))
    rh := by
      obtain ⟨fs, k⟩ := a.rh
      exact ⟨fs, k.keep hb (a.ne' 4 8 (by omega) (by omega))⟩
    r0 := a.r0.keep hb (a.ne 0 4 (by omega) (by omega))
    r1 := a.r1.keep hb (a.ne 1 4 (by omega) (by omega))
    cp := a.cp
    bel := hb.below a.bel fun k hk => by
      subst hk
      exact a.lo 4 (by omega) }
end
theorem range_nth {n i : Nat} (h : i < n) : snth (List.range n) i = i := by simp [snth, h]
theorem of_start {w X wc wd : World} {g h br x0 x1 N0 cap : Nat} {A : Addr} {l : List Int} (hl : l.length ≤ 2048) (hBX : Below w.heap.size w X) (hXs : X.heap.size = w.heap.size + 2) (hO : X.heap[w.heap.size + 1]? = some (.cells #[.slice none 0 0, .slice none 0 0, .int .i64 0] 107)) (hL : X.heap[w.heap.size]? = some (.cells #[.slice (some A) l.length cap] 36)) (F : Fst X wc g h l.length) (S : Snd wc wd br x0 x1 N0 l.length l) :
    OfM w (((wd.alloc (.cells #[.int .i64 0] 3)).alloc (.cells #[.int .i64 1] 3)).alloc (.cells #[.func (.func 82) #[] #[.pointer (some ⟨wd.heap.size, 0, none⟩)]] 94)) x0 x1 (wd.heap.size + 2) br (wd.heap.size + 1) w.heap.size wd.heap.size g h (w.heap.size + 1) N0 l.length 1 0 cap l.length A (nth l) (fun _ => 0) (List.range l.length) := by
  have k0 := RwN.lt F.rg
  have k1 := RwN.lt F.rh
  have k2 := heap_lt S.rb
  have k3 := S.r0.lt
  have k4 := S.r1.lt
  have k5 := F.gl
  have k6 := F.hl
  have k7 := S.brl
  have k8 := S.x0l
  have k9 := S.x1l
  have k10 := F.gh
  have k11 := S.b0
  have k12 := S.b1
  have k13 := S.x01
  have hb1 : Below wd.heap.size wd (((wd.alloc (.cells #[.int .i64 0] 3)).alloc (.cells #[.int .i64 1] 3)).alloc (.cells #[.func (.func 82) #[] #[.pointer (some ⟨wd.heap.size, 0, none⟩)]] 94)) := lb_alloc (lb_alloc (lb_alloc (Below.refl _ _) _) _) _
  have hb2 := lb_trans S.bel hb1
  have hb3 := lb_trans F.bel hb2
  have e2 : ((wd.alloc (.cells #[.int .i64 0] 3)).alloc (.cells #[.int .i64 1] 3)).heap.size = wd.heap.size + 2 := by simp
  refine ⟨?_, ?_, ?_, arr_kept hb1 S.rb, ?_, ?_, arr_kept hb3 hL, arr_kept hb3 hO, ?_, ⟨_, F.rh.below hb2⟩, S.r0.below hb1, (S.r1.below hb1).rwl, ⟨S.cp, by unfold maxLen; omega⟩, lb_trans hBX hb3⟩
  · clear hb1 hb2 hb3 e2
    simp only [List.nodup_cons, List.mem_cons, List.not_mem_nil, not_or, or_false, List.nodup_nil, and_true, not_false_eq_true]
    refine ⟨⟨?_, ?_, ?_, ?_, ?_, ?_, ?_, ?_, ?_⟩, ⟨?_, ?_, ?_, ?_, ?_, ?_, ?_, ?_⟩, ⟨?_, ?_, ?_, ?_, ?_, ?_, ?_⟩, ⟨?_, ?_, ?_, ?_, ?_, ?_⟩, ⟨?_, ?_, ?_, ?_, ?_⟩, ⟨?_, ?_, ?_, ?_⟩, ⟨?_, ?_, ?_⟩, ⟨?_, ?_⟩, ?_⟩ <;> omega
  · intro i hi
    match i, hi with
    | 0, _ => show _ ≤ x0; omega
    | 1, _ => show _ ≤ x1; omega
    | 2, _ => show _ ≤ wd.heap.size + 2; omega
    | 3, _ => show _ ≤ br; omega
    | 4, _ => show _ ≤ wd.heap.size + 1; omega
    | 5, _ => show _ ≤ w.heap.size; omega
    | 6, _ => show _ ≤ wd.heap.size; omega
    | 7, _ => show _ ≤ g; omega
    | 8, _ => show _ ≤ h; omega
    | 9, _ => show _ ≤ w.heap.size + 1; omega
    | k + 10, hk => omega
  · rw [← e2]
    exact heap_alloc_new _ _
  · exact arr_kept (lb_alloc (Below.refl _ _) _) (two_new _ _ _)
  · exact arr_kept (lb_alloc (Below.refl _ _) _) (two_old _ _ _)
  · exact (F.rg.below hb2).same fun i hi => by rw [range_nth hi]
theorem own_rwl {w : World} {base g N n : Nat} {f : Nat → Int} {L : List Int} (h : RwL w g N n f) (hb : base ≤ g) (hN : N ≤ maxLen) (hL : L.length = n) (he : ∀ i, i < n → f i = nth L i) : w.ownsRow base 3 1 (.slice (some ⟨g, 0, none⟩) n N) n (iVals .i64 L) := by
  obtain ⟨cs, h1, h2, h3, h4⟩ := h
  refine ⟨by simp [iVals, hL], .inr ⟨g, N, cs, rfl, hb, h1, h3, hN, by omega, ?_⟩⟩
  apply List.ext_getElem?
  intro i
  rw [Nat.mul_one, List.getElem?_take]
  by_cases hi : i < n
  · rw [if_pos hi, iVals_get (by omega), ← he i hi]
    simpa using h4 i hi
  · rw [if_neg hi, List.getElem?_eq_none (by simp [iVals]; omega)]
theorem arr_three {w6 : World} {b : Nat} {v v' v2 : Value} {t : TypeId} (h : w6.heap[b]? = some (.cells #[v, v', v2] t)) : w6.cell? ⟨b, 0, none⟩ = some v ∧ w6.cell? ⟨b, 1, none⟩ = some v' ∧ w6.cell? ⟨b, 2, none⟩ = some v2 ∧ w6.frozen? ⟨b, 0, none⟩ = false ∧ w6.frozen? ⟨b, 1, none⟩ = false ∧ w6.frozen? ⟨b, 2, none⟩ = false :=
  ⟨by rw [cell_of_row w6 b 0 _ t _ h]; rfl, by rw [cell_of_row w6 b 1 _ t _ h]; rfl, by rw [cell_of_row w6 b 2 _ t _ h]; rfl, frz_row h 0, frz_row h 1, frz_row h 2⟩
theorem set3_cells {w : World} {b : Nat} {a1 a2 a3 u v z : Value} {t : TypeId} (h : w.heap[b]? = some (.cells #[a1, a2, a3] t)) : (((w.setCell ⟨b, 0, none⟩ u).setCell ⟨b, 1, none⟩ v).setCell ⟨b, 2, none⟩ z).heap[b]? = some (.cells #[u, v, z] t) := heap_setCell_same _ _ _ _ _ _ (heap_setCell_same _ _ _ _ _ _ (heap_setCell_same _ _ _ _ _ _ h))
theorem OfM.ends {w0 wr : World} {x0 x1 bk br bs bl bc g h bo N0 N1 s cap : Nat} {A : Addr} {f1 : Nat → Int} {l : List Int} (a : OfM w0 wr x0 x1 bk br bs bl bc g h bo N0 N1 s (cstN l) cap l.length A (nth (rkL l)) f1 (sufN l)) (hl : l.length ≤ 2048) : OfR l (cstI l) w0 (.returned (.agg #[.slice (some ⟨g, 0, none⟩) l.length l.length, .slice (some ⟨x0, 0, none⟩) l.length N0, .int .i64 (cstN l : Int)])) (((wr.setCell ⟨bo, 0, none⟩ (.slice (some ⟨g, 0, none⟩) l.length l.length)).setCell ⟨bo, 1, none⟩ (.slice (some ⟨x0, 0, none⟩) l.length N0)).setCell ⟨bo, 2, none⟩ (.int .i64 (cstN l : Int))) := by
  have hb : ButS (fun k => k = bo) wr (((wr.setCell ⟨bo, 0, none⟩ (.slice (some ⟨g, 0, none⟩) l.length l.length)).setCell ⟨bo, 1, none⟩ (.slice (some ⟨x0, 0, none⟩) l.length N0)).setCell ⟨bo, 2, none⟩ (.int .i64 (cstN l : Int))) := (((ButS.refl (fun k => k = bo) wr).set rfl 0 _).set rfl 1 _).set rfl 2 _
  refine ⟨some ⟨g, 0, none⟩, some ⟨x0, 0, none⟩, l.length, N0, rfl, ?_, ?_, ?_, hb.below a.bel fun k hk => by subst hk; exact a.lo 9 (by omega)⟩
  · exact own_rwl (RwN.rwl (RwN.keep a.rg hb (a.ne 7 9 (by omega) (by omega)))) (a.lo 7 (by omega)) (by unfold maxLen; omega) (sufL_len l) fun i hi => by simp [sufL, nth, snth, sufN_len, hi]
  · exact own_rwl (a.r0.keep hb (a.ne 0 9 (by omega) (by omega))) (a.lo 0 (by omega)) a.cp.1 (rkL_len l) fun i _ => rfl
  · intro k hk e
    have h1 : g = k := by simpa [Value.ownBlock] using hk
    have h2 : x0 = k := by simpa [Value.ownBlock] using e
    exact a.ne 0 7 (by omega) (by omega) (h2.trans h1.symm)
theorem bitsN_self : ∀ n, bitsN n ≤ n := fun n => by
  induction n using Nat.strongRecOn with
  | _ n ih =>
    by_cases h : n = 0
    · subst h; rw [bitsN_zero]; exact Nat.le_refl _
    · rw [bitsN_pos (by omega)]
      have := ih (n / 2) (by omega)
      by_cases h1 : n = 1
      · subst h1; rw [show 1 / 2 = 0 from rfl, bitsN_zero]; exact Nat.le_refl _
      · omega
theorem cst_low {l : List Int} (h0 : 0 < l.length) (h : l.length ≤ 2048) : cstN l ≤ 1099511627776 := by
  refine Nat.le_trans (cst_le h0) ?_
  have h1 := Nat.le_trans (bitsN_self l.length) h
  have h2 : bitsN l.length * (2 * l.length * (bitsN l.length + 1)) ≤ 2048 * (2 * 2048 * (2048 + 1)) := Nat.mul_le_mul h1 (Nat.mul_le_mul (Nat.mul_le_mul (Nat.le_refl _) h) (by omega))
  omega
/-- What is kept besides memory. -/
structure OfN (l r : List Int) (P : List Nat) (s c fuel : Nat) : Prop where
  rk : Rk l r s
  pl : PlsP l.length P
  co : dbl l.length fuel P r s c = cstN l
  fu : 0 < fuel
  fl : l.length ≤ s + fuel
  s0 : 0 < s
  sl : s ≤ l.length
theorem OfN.start (l : List Int) (h : 0 < l.length) : OfN l l (List.range l.length) 1 0 l.length :=
  ⟨Rk.start l, PlsP.start _, by unfold cstN; rw [if_neg (by omega)], h, by omega, by omega, h⟩
theorem OfN.cost {l r : List Int} {P : List Nat} {s c fuel : Nat} (a : OfN l r P s c fuel) : c + nxC l.length r s P ≤ cstN l := by
  obtain ⟨f, rfl⟩ : ∃ f, fuel = f + 1 := ⟨fuel - 1, by have := a.fu; omega⟩
  rw [← a.co, dbl]
  split
  · exact Nat.le_refl _
  · exact dbl_ge _ _ _ _ _ _
theorem OfN.done {l r : List Int} {P : List Nat} {s c fuel : Nat} (a : OfN l r P s c fuel) (hu : nxU l.length r s P = l.length) : c + nxC l.length r s P = cstN l ∧ nxA l.length r s P = sufN l ∧ nxR l.length r s P = rkL l := by
  obtain ⟨f, rfl⟩ : ∃ f, fuel = f + 1 := ⟨fuel - 1, by have := a.fu; omega⟩
  have h := a.co
  rw [dbl, if_pos hu] at h
  exact ⟨h, a.rk.done a.pl (Nat.lt_of_lt_of_le a.s0 a.sl) hu⟩
theorem OfN.next {l r : List Int} {P : List Nat} {s c fuel : Nat} (a : OfN l r P s c fuel) (hu : ¬ nxU l.length r s P = l.length) : OfN l (nxR l.length r s P) (nxA l.length r s P) (2 * s) (c + nxC l.length r s P) (fuel - 1) ∧ 2 * s < l.length := by
  obtain ⟨f, rfl⟩ : ∃ f, fuel = f + 1 := ⟨fuel - 1, by have := a.fu; omega⟩
  have h := a.co
  rw [dbl, if_neg hu] at h
  have h2 := nxU_on a.rk a.pl (Nat.lt_of_lt_of_le a.s0 a.sl) hu
  have := a.fl
  have := a.s0
  exact ⟨⟨a.rk.next a.pl, a.pl.next _ _, h, by simp; omega, by simp; omega, by omega, by omega⟩, h2⟩




end Go.Proofs.YtokhclindfipbaaGreatDoor
