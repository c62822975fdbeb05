/-
  Write of package wire: what it answers; the lists are at most 2^20 long, words of 32 bits. The program takes the beginning and the end of an input. The program takes the end of an input: the sum, and nothing behind it. The program takes a whole object of an input.
-/
import Derived.Test.YthpkekpojhmaaaaGreatDoorProg
import Derived.WalkKit
import Derived.WalkSpells
import Derived.WalkLawsBesides
import Derived.RowKit3
import Derived.Below
import Derived.Deep.QuietTactic
import Derived.BigQuiet
import Derived.WalkSmall
import Derived.Laws.Rows
import Derived.Test.YthpkekpojhmaaaaGreatDoorP15
import Derived.Test.YthpkekpojhmaaaaGreatDoorP16
import Derived.Test.YthpkekpojhmaaaaGreatDoorP05
import Derived.Test.YthpkekpojhmaaaaGreatDoorP06
import Derived.Test.YthpkekpojhmaaaaGreatDoorP08
namespace Go.Proofs.YthpkekpojhmaaaaGreatDoor
open Go.RowKit


theorem sum_any (A : Option Addr) (cap : Nat) (b : List Int) (w : World) (hB : IntsAt w A .u8 b) (hA : AreB b) (hN : b.length ≤ 1048576) : Calls Tryz.prog 85 #[.slice A b.length cap] w fun r w' => r = .returned (.int .u32 (sumB b)) ∧ w' = w := by
  go_enter Tryz.func85, Tryz.ntmps85
  go_wp2
  go_loop [8, 3] (fun i s => ∃ k : Nat, i = .int .i64 k ∧ k ≤ b.length ∧ s = .int .u32 (sumB (b.take k))) (fun i _ => b.length - (intOf i).toNat)
  case atStart => exact ⟨0, rfl, by omega, rfl⟩
  case round =>
    obtain ⟨k, rfl, hk, rfl⟩ := hrel
    by_cases hlt : k < b.length
    · obtain ⟨a, rfl, q⟩ := hB k hlt
      have HS : Hid _ := sum_step b k hlt
      have hx : 0 ≤ nth b k ∧ nth b k < 256 := hA _ (by simp [nth, List.getD, hlt])
      generalize nth b k = x at q HS hx
      generalize sumB (b.take k) = s at HS
      go_wp2
      go_round
      case rel => exact ⟨k + 1, by go_num, by omega, by rw [HS.out]; congr 1; omega⟩
      case measure => simp [intOf]; omega
    · obtain rfl : k = b.length := by omega
      go_wp2
      go_ret
      exact ⟨by simp, rfl⟩
/-- A row of bytes, as it lies. -/
theorem own_ints {w : World} {base n : Nat} {v : Value} {l : List Int} (h : w.ownsRow base 5 1 v n (bNews l)) : ∃ A c, v = .slice A l.length c ∧ IntsAt w A .u8 l ∧ l.length ≤ c := by
  have hn : l.length = n := by have := h.1; rw [bNews_len] at this; omega
  rcases h.2 with ⟨rfl, h0⟩ | ⟨g, cap, cur, rfl, hb, hg, hc, _⟩
  · refine ⟨none, 0, by rw [hn, h0], fun i hi => by omega, by omega⟩
  · refine ⟨some ⟨g, 0, none⟩, cap, by rw [hn], fun i hi => ⟨_, rfl, ?_⟩, by omega⟩
    exact h.cells rfl i _ (by simp [bNews, nth, List.getD, hi])
theorem textB_areB (s : ByteArray) : AreB (textB s) := (be4_areB _).app fun x hx => by
  unfold strB at hx
  obtain ⟨c, _, rfl⟩ := List.mem_map.1 hx
  have := c.toNat_lt
  omega
theorem flat_areB {α : Type} (f : α → List Int) (hf : ∀ x, AreB (f x)) (l : List α) : AreB (l.flatMap f) := fun x hx => by
  obtain ⟨y, _, h⟩ := List.mem_flatMap.1 hx
  exact hf y x h
theorem body_areB (nm : ByteArray) (code : List Int) (dA : Int) (data : List Int) (ss : List Sym) (rs : List Rel) : AreB (bodyB nm code dA data ss rs) := by
  unfold bodyB
  refine ((((((((((?_ : AreB [80, 76, 79, 49]).app (textB_areB _)).app (be4_areB _)).app (flat_areB _ be4_areB _)).app (be4_areB _)).app (be4_areB _)).app (flat_areB _ be8_areB _)).app (be4_areB _)).app (flat_areB _ (fun x => ((textB_areB _).app (be4_areB _)).app (be4_areB _)) _)).app (be4_areB _)).app (flat_areB _ (fun x => (be4_areB _).app (be4_areB _)) _)
  intro x hx
  simp at hx
  omega
/-- What Write answers. -/
def WroteP (nm : ByteArray) (code : List Int) (dA : Int) (data : List Int) (ss : List Sym) (rs : List Rel) (w : World) (r : Ending) (w' : World) : Prop :=
  if (checkC nm code dA data.length ss rs).1 = 0 then ∃ v, r = .returned (.tuple #[v, .int .i64 0]) ∧ w'.ownsRow w.heap.size 5 1 v (bytesB nm code dA data ss rs).length (bNews (bytesB nm code dA data ss rs)) ∧ Below w.heap.size w w'
  else r = .returned (.tuple #[.slice none 0 0, .int .i64 (checkC nm code dA data.length ss rs).1]) ∧ Below w.heap.size w w'
theorem ownsRow_mono {w : World} {b b' : Nat} {e : TypeId} {k n : Nat} {v : Value} {xs : List Value} (h : w.ownsRow b e k v n xs) (hb : b' ≤ b) : w.ownsRow b' e k v n xs := by
  refine ⟨h.1, ?_⟩
  rcases h.2 with h0 | ⟨g, cap, cur, hv, hg, r⟩
  · exact Or.inl h0
  · exact Or.inr ⟨g, cap, cur, hv, Nat.le_trans hb hg, r⟩
set_option maxRecDepth 100000 in
set_option maxHeartbeats 1000000 in
theorem write_any (nm : ByteArray) (dA : Int) (A1 A2 A3 A4 : Option Addr) (c1 c2 c3 c4 : Nat) (code data : List Int) (ss : List Sym) (rs : List Rel) (w : World)
    (hC : IntsAt w A1 .u32 code) (hD : IntsAt w A2 .i64 data) (hS : SymsAt w A3 ss) (hL : RelsAt w A4 rs) (hR : ∀ i, i < code.length → 0 ≤ nth code i ∧ nth code i < 4294967296) (hc : code.length ≤ 1048576) (hd : data.length ≤ 1048576) (hs : ss.length ≤ 1048576) (hl : rs.length ≤ 1048576) (hN : ∀ i, (sName ss i).size ≤ 140737488355328) (hA : -9223372036854775808 ≤ dA ∧ dA ≤ 9223372036854775807) :
    Calls Tryz.prog 28 #[.agg #[.string nm, .slice A1 code.length c1, .int .i64 dA, .slice A2 data.length c2, .slice A3 ss.length c3, .slice A4 rs.length c4]] w (WroteP nm code dA data ss rs w) := by
  have hB := lb_alloc (Below.refl w.heap.size w) (.cells #[.string nm, .slice A1 code.length c1, .int .i64 dA, .slice A2 data.length c2, .slice A3 ss.length c3, .slice A4 rs.length c4] 75)
  have C := fun (wx : World) (hb : Below w.heap.size w wx) => objcheck_any nm dA A1 A2 A3 A4 c1 data.length c2 c3 c4 code ss rs wx (hC.keep hb) (hS.keep hb) (hL.keep hb) hR hc hd hs hl hN hA
  have hbx : Hid ((w.alloc (.cells #[.string nm, .slice A1 code.length c1, .int .i64 dA, .slice A2 data.length c2, .slice A3 ss.length c3, .slice A4 rs.length c4] 75)).heap[w.heap.size]? = some (.cells #[.string nm, .slice A1 code.length c1, .int .i64 dA, .slice A2 data.length c2, .slice A3 ss.length c3, .slice A4 rs.length c4] 75 (0, 0))) := heap_alloc_new _ _
  by_cases h0 : (checkC nm code dA data.length ss rs).1 = 0
  · have hm := check_may h0
    have hf := may_fit hm
    have h5 := syms_size ss (syms_mem fun i hi => (hf.sym i hi).1)
    obtain ⟨p1, p2, p3, p4, p5, p6⟩ := part_lens nm code dA data ss rs
    have hlen : (bodyB nm code dA data ss rs).length ≤ 300000 := by
      have := hf.hnm; have := hf.hcode; have := hf.hdata; have := hf.hsyms; have := hf.hrels
      omega
    have hk : ∀ i, i < ss.length → 0 ≤ sKind ss i ∧ sKind ss i < 128 := fun i hi => by have := hf.sym i hi; omega
    have hareB := body_areB nm code dA data ss rs
    have hsum := sum_range (bodyB nm code dA data ss rs)
    have HP : Hid (∀ r w', WroteP nm code dA data ss rs w r w' = (∃ v, r = .returned (.tuple #[v, .int .i64 0]) ∧ w'.ownsRow w.heap.size 5 1 v (bytesB nm code dA data ss rs).length (bNews (bytesB nm code dA data ss rs)) ∧ Below w.heap.size w w')) := fun r w' => by unfold WroteP; rw [if_pos h0]
    rw [h0] at C
    clear p1 p2 p3 p4 p5 p6 h5 hm
    generalize (checkC nm code dA data.length ss rs).2 = q at C
    have H0 : Hid _ := h0
    clear h0
    have HW : Hid _ := hB
    go_enter Tryz.func28, Tryz.ntmps28
    go_wp2_with fail
    refine (C _ HW.out).mono ?_
    rintro e w1 ⟨rfl, h1⟩
    have hb1 : Hid (Below w.heap.size w w1) := lb_trans HW.out h1
    have hx1 : Hid (w1.heap[w.heap.size]? = _) := (h1.block w.heap.size (by simp)).trans hbx.out
    obtain ⟨d0, d1, d2, d3, d4, d5⟩ := box6_cell hx1.out
    have hz1 : w.heap.size < w1.heap.size := by have := h1.size; simp at this; omega
    clear h1
    have hgb : Hid (Below w1.heap.size w1 (w1.alloc (.cells #[.slice none 0 0] 149))) := lb_alloc (Below.refl _ _) _
    have hgv : Hid ((w1.alloc (.cells #[.slice none 0 0] 149)).heap[w1.heap.size]? = some (.cells #[.slice none 0 0] 149 (0, 0))) := heap_alloc_new _ _
    go_wp2_with fail
    refine (wObject w1.heap.size nm dA A1 A2 A3 A4 c1 c2 c3 c4 code data ss rs w _ hC hD hS hL hR hk (lb_trans hb1.out hgb.out) (by omega) (by omega) hs hgv.out).mono ?_
    rintro e w2 ⟨rfl, h2, t2⟩
    have t2 : Hid _ := t2
    have h2 : OutAt w2 w1.heap.size (bodyB nm code dA data ss rs) := h2
    have hg2 := h2.lt
    obtain ⟨v, hv, hr⟩ := h2
    have HO : Hid (OutAt w2 w1.heap.size (bodyB nm code dA data ss rs)) := ⟨v, hv, hr⟩
    obtain ⟨A', c', rfl, hI, hcap⟩ := own_ints hr
    have hcell := (box_cell hv).1
    have hfro := (box_cell hv).2
    clear hv hr
    go_wp2_with fail
    refine (sum_any A' c' (bodyB nm code dA data ss rs) _ hI hareB (by omega)).mono ?_
    rintro e w3 ⟨rfl, rfl⟩
    go_wp2_with fail
    refine (wNumber w1.heap.size (bodyB nm code dA data ss rs) _ hsum.1 hsum.2 (by omega) _ HO.out).mono ?_
    rintro e w3 ⟨rfl, h3, t3⟩
    have t3 : Hid _ := t3
    have h3 : OutAt w3 w1.heap.size (bytesB nm code dA data ss rs) := h3
    obtain ⟨v, hv, hr⟩ := h3
    obtain ⟨A2', c2', rfl, hI2, hcap2⟩ := own_ints hr
    have hcell2 := (box_cell hv).1
    have HR : Hid _ := hr
    clear hv hr
    go_wp2
    go_ret2
    rw [HP.out]
    refine ⟨_, rfl, ownsRow_mono HR.out (by omega), ?_⟩
    have q1 := (OutTo.of (g := w1.heap.size) hgb.out).trans (t2.out.trans t3.out)
    exact hb1.out.trans ⟨q1.os, q1.tape, q1.output, q1.size, fun k hk => q1.block k (by omega) (by omega) (Or.inl (by omega))⟩
  · have HP : Hid (∀ r w', WroteP nm code dA data ss rs w r w' = (r = .returned (.tuple #[.slice none 0 0, .int .i64 (checkC nm code dA data.length ss rs).1]) ∧ Below w.heap.size w w')) := fun r w' => by unfold WroteP; rw [if_neg h0]
    have h0b : ((checkC nm code dA data.length ss rs).1 != 0) = true := by simpa using h0
    generalize (checkC nm code dA data.length ss rs).1 = E at C h0b HP
    generalize (checkC nm code dA data.length ss rs).2 = q at C
    clear h0
    have HW : Hid _ := hB
    go_enter Tryz.func28, Tryz.ntmps28
    go_wp2_with fail
    refine (C _ HW.out).mono ?_
    rintro e w1 ⟨rfl, h1⟩
    have hb1 : Hid (Below w.heap.size w w1) := lb_trans HW.out h1
    clear h1
    go_wp2
    go_ret2
    rw [HP.out]
    exact ⟨rfl, hb1.out⟩


end Go.Proofs.YthpkekpojhmaaaaGreatDoor

namespace Go.Proofs.YthpkekpojhmaaaaGreatDoor
open Go.RowKit


def begL : List Int := [80, 76, 79, 49]
theorem begin_at {b : List Int} {i : Nat} (hi : i < 4) (h : ∀ j, j < i → j < b.length ∧ nth b j = nth begL j) (hn : b.length ≤ i ∨ ¬ nth b i = nth begL i) : tBegin b [80, 76, 79, 49] = ⟨4, 27, i⟩ := by
  have e : (List.range ([80, 76, 79, 49] : List Int).length).find? (fun i => decide (b.length ≤ i) || nth b i != nth [80, 76, 79, 49] i) = some i := by
    rw [List.find?_range_eq_some]
    refine ⟨?_, by simpa using hi, fun j hj => ?_⟩
    · rcases hn with hn | hn
      · simp [hn]
      · simp [show nth [80, 76, 79, 49] i = nth begL i from rfl, hn]
    · obtain ⟨h1, h2⟩ := h j hj
      simp [h1, h2, show nth [80, 76, 79, 49] j = nth begL j from rfl]
  unfold tBegin
  rw [e]
  rfl
theorem begin_all {b : List Int} (h : ∀ j, j < 4 → j < b.length ∧ nth b j = nth begL j) : tBegin b [80, 76, 79, 49] = ⟨4, 0, 0⟩ := by
  have e : (List.range ([80, 76, 79, 49] : List Int).length).find? (fun i => decide (b.length ≤ i) || nth b i != nth [80, 76, 79, 49] i) = none := by
    rw [List.find?_eq_none]
    intro j hj
    obtain ⟨h1, h2⟩ := h j (by simpa using hj)
    simp [h1, h2, show nth [80, 76, 79, 49] j = nth begL j from rfl]
  unfold tBegin
  rw [e]
  rfl
theorem begin_good {b : List Int} (h : (tBegin b [80, 76, 79, 49]).bad = 0) : tBegin b [80, 76, 79, 49] = ⟨4, 0, 0⟩ := by
  unfold tBegin at h ⊢
  split at h
  · cases h
  · rfl
theorem bne_of {x y : Int} (h : ¬ x = y) : (x != y) = true := by simpa using h
/-- What a taker that tells an error alone answers. -/
def TakesE (w0 : World) (g : Nat) (A : Option Addr) (c : Nat) (b : List Int) (t : Tk) (w : World) (r : Ending) (w' : World) : Prop :=
  But g w w' ∧ ((t.bad = 0 ∧ r = .returned .nilIface ∧ InBy w0 g A c b t.pos w') ∨ (¬ t.bad = 0 ∧ r = .returned (errV t.bad t.place) ∧ ∃ p, InBy w0 g A c b p w'))
theorem takesE_yes {w0 : World} {g : Nat} {A : Option Addr} {c : Nat} {b : List Int} {t : Tk} {w w' : World} {q : Nat} (hb : But g w w') (h : t = ⟨q, 0, 0⟩) (hi : InBy w0 g A c b q w') : TakesE w0 g A c b t w (.returned .nilIface) w' := by
  subst h
  exact ⟨hb, Or.inl ⟨rfl, rfl, hi⟩⟩
theorem takesE_no {w0 : World} {g : Nat} {A : Option Addr} {c : Nat} {b : List Int} {t : Tk} {w w' : World} {x y : Int} {p q : Nat} (hb : But g w w') (h : t = ⟨q, x, y⟩) (hx : ¬ x = 0) (hi : InBy w0 g A c b p w') : TakesE w0 g A c b t w (.returned (.iface 161 (.agg #[.int .i64 x, .int .i64 y]))) w' := by
  subst h
  exact ⟨hb, Or.inr ⟨hx, rfl, p, hi⟩⟩
theorem TakesE.ok {w0 : World} {g : Nat} {A : Option Addr} {c : Nat} {b : List Int} {t : Tk} {w w' : World} {r : Ending} (h : TakesE w0 g A c b t w r w') (e : t.bad = 0) : r = .returned .nilIface ∧ InBy w0 g A c b t.pos w' ∧ But g w w' := by
  obtain ⟨hb, ⟨_, h1, h2⟩ | ⟨h0, _⟩⟩ := h
  · exact ⟨h1, h2, hb⟩
  · exact absurd e h0
theorem TakesE.err {w0 : World} {g : Nat} {A : Option Addr} {c : Nat} {b : List Int} {t : Tk} {w w' : World} {r : Ending} (h : TakesE w0 g A c b t w r w') (e : ¬ t.bad = 0) : ∃ p, r = .returned (.iface 161 (.agg #[.int .i64 t.bad, .int .i64 t.place])) ∧ InBy w0 g A c b p w' ∧ But g w w' := by
  obtain ⟨hb, ⟨h0, _⟩ | ⟨_, h1, p, h2⟩⟩ := h
  · exact absurd h0 e
  · exact ⟨p, h1, h2, hb⟩
set_option maxRecDepth 100000 in
set_option maxHeartbeats 1000000 in
theorem beginning_any (w0 : World) (g : Nat) (A : Option Addr) (c : Nat) (b : List Int) (w : World) (h : InBy w0 g A c b 0 w) :
    Calls Tryz.prog 126 #[.pointer (some ⟨g, 0, none⟩)] w (TakesE w0 g A c b (tBegin b [80, 76, 79, 49]) w) := by
  have HI : Hid _ := h
  clear h
  go_enter Tryz.func126, Tryz.ntmps126
  go_wp2
  go_loopw [6] (fun i wr => ∃ k : Nat, i = .int .i64 k ∧ k ≤ 4 ∧ (∀ j, j < k → j < b.length ∧ nth b j = nth begL j) ∧ InBy w0 g A c b k wr ∧ But g w wr) (fun i _ => 4 - (intOf i).toNat)
  case atStart => exact ⟨0, rfl, by omega, fun j hj => by omega, HI.out, But.refl _ _⟩
  case round =>
    obtain ⟨k, rfl, hk, hall, hin, hbut⟩ := hrel
    have HB : Hid (But g w wr) := hbut
    have HA : Hid _ := hall
    clear hbut hall HI
    by_cases hk4 : k = 4
    · subst hk4
      go_wp2
      go_ret
      exact takesE_yes HB.out (begin_all HA.out) hin
    · by_cases hlt : k < b.length
      · have C := next_ok w0 g A c b k wr hin hlt
        by_cases hx : nth b k = nth begL k
        · have HA2 : Hid (∀ j, j < k + 1 → j < b.length ∧ nth b j = nth begL j) := fun j hj => by
            by_cases e : j = k
            · subst e; exact ⟨hlt, hx⟩
            · exact HA.out j (by omega)
          rw [hx] at C
          clear hx
          have h4 : k = 0 ∨ k = 1 ∨ k = 2 ∨ k = 3 := by omega
          rcases h4 with rfl | rfl | rfl | rfl
          · simp only [begL, nth, List.getD_cons_zero] at C
            go_wp2_with (go_at_call 164; refine C.mono ?_; rintro e w1 ⟨rfl, hin1, hb1⟩)
            exact ⟨⟨1, rfl, by omega, HA2.out, hin1, HB.out.trans hb1⟩, by simp [intOf]⟩
          · simp only [begL, nth, List.getD_cons_zero, List.getD_cons_succ] at C
            go_wp2_with (go_at_call 164; refine C.mono ?_; rintro e w1 ⟨rfl, hin1, hb1⟩)
            exact ⟨⟨2, rfl, by omega, HA2.out, hin1, HB.out.trans hb1⟩, by simp [intOf]⟩
          · simp only [begL, nth, List.getD_cons_zero, List.getD_cons_succ] at C
            go_wp2_with (go_at_call 164; refine C.mono ?_; rintro e w1 ⟨rfl, hin1, hb1⟩)
            exact ⟨⟨3, rfl, by omega, HA2.out, hin1, HB.out.trans hb1⟩, by simp [intOf]⟩
          · simp only [begL, nth, List.getD_cons_zero, List.getD_cons_succ] at C
            go_wp2_with (go_at_call 164; refine C.mono ?_; rintro e w1 ⟨rfl, hin1, hb1⟩)
            exact ⟨⟨4, rfl, by omega, HA2.out, hin1, HB.out.trans hb1⟩, by simp [intOf]⟩
        · have HN : Hid _ := begin_at (by omega) HA.out (Or.inr hx)
          have hx0 := (hin.byte hlt)
          obtain ⟨a, e, q, hx0, hx1⟩ := hx0
          clear q e
          generalize nth b k = x at *
          have h4 : k = 0 ∨ k = 1 ∨ k = 2 ∨ k = 3 := by omega
          rcases h4 with rfl | rfl | rfl | rfl
          · have hxb : (x != (((⟨#[80, 76, 79, 49]⟩ : ByteArray)[0]).toNat : Int)) = true := bne_of hx
            clear hx
            go_wp2_with (go_at_call 164; refine C.mono ?_; rintro e w1 ⟨rfl, hin1, hb1⟩)
            go_ret
            exact takesE_no (HB.out.trans hb1) HN.out (by omega) hin1
          · have hxb : (x != (((⟨#[80, 76, 79, 49]⟩ : ByteArray)[1]).toNat : Int)) = true := bne_of hx
            clear hx
            go_wp2_with (go_at_call 164; refine C.mono ?_; rintro e w1 ⟨rfl, hin1, hb1⟩)
            go_ret
            exact takesE_no (HB.out.trans hb1) HN.out (by omega) hin1
          · have hxb : (x != (((⟨#[80, 76, 79, 49]⟩ : ByteArray)[2]).toNat : Int)) = true := bne_of hx
            clear hx
            go_wp2_with (go_at_call 164; refine C.mono ?_; rintro e w1 ⟨rfl, hin1, hb1⟩)
            go_ret
            exact takesE_no (HB.out.trans hb1) HN.out (by omega) hin1
          · have hxb : (x != (((⟨#[80, 76, 79, 49]⟩ : ByteArray)[3]).toNat : Int)) = true := bne_of hx
            clear hx
            go_wp2_with (go_at_call 164; refine C.mono ?_; rintro e w1 ⟨rfl, hin1, hb1⟩)
            go_ret
            exact takesE_no (HB.out.trans hb1) HN.out (by omega) hin1
      · have C := next_end w0 g A c b k wr hin (by have := hin.pos; omega)
        unfold errV at C
        have hke : k = b.length := by have := hin.pos; omega
        have HN : Hid _ := begin_at (by omega) HA.out (Or.inl (by omega))
        go_wp2_with (go_at_call 164; refine C.mono ?_; rintro e w1 ⟨rfl, hin1, hb1⟩)
        go_ret
        exact takesE_no (HB.out.trans hb1) (by rw [HN.out, hke]) (by omega) hin1


end Go.Proofs.YthpkekpojhmaaaaGreatDoor

namespace Go.Proofs.YthpkekpojhmaaaaGreatDoor
open Go.RowKit


theorem end_a {b : List Int} {p : Nat} (h : ¬ p + 4 ≤ b.length) : tEnd b ⟨p, 0, 0⟩ = ⟨p, 27, b.length⟩ := by
  unfold tEnd
  rw [four_no h, if_neg (by simp)]
theorem end_b {b : List Int} {p : Nat} (h : p + 4 < b.length) : tEnd b ⟨p, 0, 0⟩ = ⟨p + 4, 27, p + 4⟩ := by
  unfold tEnd
  rw [four_yes (by omega), if_pos rfl, if_pos h]
theorem end_c {b : List Int} {p : Nat} (h : p + 4 = b.length) (hs : ¬ v4 (b.drop p) = sumB (b.take p)) : tEnd b ⟨p, 0, 0⟩ = ⟨p + 4, 28, p⟩ := by
  unfold tEnd
  rw [four_yes (by omega), if_pos rfl, if_neg (by simp; omega), if_neg hs]
theorem end_d {b : List Int} {p : Nat} (h : p + 4 = b.length) (hs : v4 (b.drop p) = sumB (b.take p)) : tEnd b ⟨p, 0, 0⟩ = ⟨p + 4, 0, 0⟩ := by
  unfold tEnd
  rw [four_yes (by omega), if_pos rfl, if_neg (by simp; omega), if_pos hs]
theorem HB_drew {g : Nat} {w w1 : World} (h : But g w w1) (n : Nat) : But g w (w1.drewN n) := h
theorem ints_take {w : World} {A : Option Addr} {K : IntKind} {zs : List Int} (h : IntsAt w A K zs) (n : Nat) : IntsAt w A K (zs.take n) := fun i hi => by
  rw [List.length_take] at hi
  obtain ⟨a, e, q⟩ := h i (by omega)
  refine ⟨a, e, ?_⟩
  rw [q]
  simp [nth, List.getD, show i < n by omega]
set_option maxRecDepth 100000 in
set_option maxHeartbeats 1000000 in
theorem rend_any (w0 : World) (g : Nat) (A : Option Addr) (c : Nat) (b : List Int) (p : Nat) (w : World) (h : InBy w0 g A c b p w) :
    Calls Tryz.prog 137 #[.pointer (some ⟨g, 0, none⟩)] w (TakesE w0 g A c b (tEnd b ⟨p, 0, 0⟩) w) := by
  obtain ⟨c0, c1, f1⟩ := h.cells
  have C := take4_any w0 g A c b p w h
  have hl := h.len
  have hcap := h.cap
  by_cases hp : p + 4 ≤ b.length
  · rw [four_yes hp] at C
    by_cases hb : p + 4 < b.length
    · have HN : Hid _ := end_b hb
      have hbd : decide (((p + 4 : Nat) : Int) < (b.length : Int)) = true := decide_eq_true (by omega)
      go_enter Tryz.func137, Tryz.ntmps137
      go_wp2_with fail
      refine C.mono ?_
      intro r w1 hr
      obtain ⟨rfl, hi, hb1⟩ := hr.ok rfl
      clear hr C
      obtain ⟨d0, d1, _⟩ := hi.cells
      simp only at d0 d1
      go_wp2_with fail
      go_quiet (fail)
      go_wp2
      go_ret
      exact takesE_no ((HB_drew hb1 _)) (by rw [HN.out]) (by omega) (hi.drewN _)
    · have hpe : p + 4 = b.length := by omega
      have hbd : decide (((p + 4 : Nat) : Int) < (b.length : Int)) = false := decide_eq_false (by omega)
      have hlt : (b.take p).length = p := by simp; omega
      have CS := fun wx (hb : Below w0.heap.size w0 wx) => sum_any A c (b.take p) wx (ints_take (h.ints.keep hb) p) (h.areB.take p) (by omega)
      rw [hlt] at CS
      by_cases hs : v4 (b.drop p) = sumB (b.take p)
      · have HN : Hid _ := end_d hpe hs
        rw [hs] at C
        clear hs
        generalize sumB (b.take p) = S at *
        go_enter Tryz.func137, Tryz.ntmps137
        go_wp2_with fail
        refine C.mono ?_
        intro r w1 hr
        obtain ⟨rfl, hi, hb1⟩ := hr.ok rfl
        clear hr C
        obtain ⟨d0, d1, _⟩ := hi.cells
        simp only at d0 d1
        go_wp2_with fail
        go_quiet (fail)
        have hi2 := hi.drewN nq
        go_wp2_with (go_at_call 85; refine (CS _ hi2.below).mono ?_; rintro e w2 ⟨rfl, rfl⟩)
        go_ret
        exact takesE_yes ((HB_drew hb1 _)) (by rw [HN.out]) (hi.drewN _)
      · have HN : Hid _ := end_c hpe hs
        have hsb := bne_of hs
        clear hs
        generalize sumB (b.take p) = S at *
        generalize v4 (b.drop p) = V at *
        go_enter Tryz.func137, Tryz.ntmps137
        go_wp2_with fail
        refine C.mono ?_
        intro r w1 hr
        obtain ⟨rfl, hi, hb1⟩ := hr.ok rfl
        clear hr C
        obtain ⟨d0, d1, _⟩ := hi.cells
        simp only at d0 d1
        go_wp2_with fail
        go_quiet (fail)
        have hi2 := hi.drewN nq
        go_wp2_with (go_at_call 85; refine (CS _ hi2.below).mono ?_; rintro e w2 ⟨rfl, rfl⟩)
        go_ret
        exact takesE_no ((HB_drew hb1 _)) (by rw [HN.out]) (by omega) (hi.drewN _)
  · rw [four_no hp] at C
    have HN : Hid _ := end_a hp
    go_enter Tryz.func137, Tryz.ntmps137
    go_wp2_with fail
    refine C.mono ?_
    intro r w1 hr
    obtain ⟨_, q, rfl, rfl, hi, hb1⟩ := hr.err (by simp)
    clear hr C
    go_wp2
    go_ret
    exact takesE_no hb1 HN.out (by omega) hi


end Go.Proofs.YthpkekpojhmaaaaGreatDoor

namespace Go.Proofs.YthpkekpojhmaaaaGreatDoor
open Go.RowKit


theorem all_stick {α : Type} {b : List Int} {m : Int} {f : Tk → α × Tk} {t : Tk} (h : ¬ t.bad = 0) : (tAll b m f t).2 = t := by
  unfold tAll
  rw [count_stick h]
  rfl
theorem count_stick2 {b : List Int} {m : Int} {t : Tk} (h : ¬ t.bad = 0) : (tCount b m t).2 = t := by rw [count_stick h]
theorem end_stick {b : List Int} {t : Tk} (h : ¬ t.bad = 0) : tEnd b t = t := by
  unfold tEnd
  rw [four_stick h, if_neg h]
theorem own_form {w : World} {b n : Nat} {e : TypeId} {sz : Nat} {v : Value} {xs : List Value} (h : w.ownsRow b e sz v n xs) : ∃ A c, v = .slice A n c := by
  rcases h.2 with ⟨rfl, rfl⟩ | ⟨g, cap, cur, rfl, _⟩
  · exact ⟨_, _, rfl⟩
  · exact ⟨_, _, rfl⟩
/-- An object's four lists, each in memory of its own. -/
structure RowsO (w : World) (base : Nat) (A1 A2 A3 A4 : Option Addr) (c1 c2 c3 c4 : Nat) (code data : List Int) (ss : List Sym) (rs : List Rel) : Prop where
  r1 : w.ownsRow base 78 1 (.slice A1 code.length c1) code.length (iVals .u32 code)
  r2 : w.ownsRow base 2 1 (.slice A2 data.length c2) data.length (iVals .i64 data)
  r3 : w.ownsRow base 131 3 (.slice A3 ss.length c3) ss.length (sVals ss)
  r4 : w.ownsRow base 83 2 (.slice A4 rs.length c4) rs.length (rVals rs)
/-- An object that is not looked at. -/
def IsObj (u : Value) : Prop := ∃ (x : ByteArray) (A1 A2 A3 A4 : Option Addr) (n1 n2 n3 n4 c1 c2 c3 c4 : Nat) (y : Int), u = .agg #[.string x, .slice A1 n1 c1, .int .i64 y, .slice A2 n2 c2, .slice A3 n3 c3, .slice A4 n4 c4]
/-- What taking an object answers. -/
def TakesO (g : Nat) (b : List Int) (w : World) (r : Ending) (w' : World) : Prop :=
  But g w w' ∧ (((took b).t.bad = 0 ∧ ∃ (A1 A2 A3 A4 : Option Addr) (c1 c2 c3 c4 : Nat), r = .returned (.tuple #[.agg #[.string (took b).nm, .slice A1 (took b).code.length c1, .int .i64 (took b).dA, .slice A2 (took b).data.length c2, .slice A3 (took b).ss.length c3, .slice A4 (took b).rs.length c4], .nilIface]) ∧ RowsO w' w.heap.size A1 A2 A3 A4 c1 c2 c3 c4 (took b).code (took b).data (took b).ss (took b).rs) ∨
    (¬ (took b).t.bad = 0 ∧ ∃ u, IsObj u ∧ r = .returned (.tuple #[u, .iface 161 (.agg #[.int .i64 (took b).t.bad, .int .i64 (took b).t.place])])))
theorem takesO_no {g : Nat} {b : List Int} {w w' : World} {u : Value} {T : Tk} (hb : But g w w') (hu : IsObj u) (e : (took b).t = T) (h : ¬ T.bad = 0) : TakesO g b w (.returned (.tuple #[u, .iface 161 (.agg #[.int .i64 T.bad, .int .i64 T.place])])) w' := by
  subst e
  exact ⟨hb, Or.inr ⟨h, u, hu, rfl⟩⟩
theorem takesO_yes {g : Nat} {b : List Int} {w w' : World} {nm : ByteArray} {code data : List Int} {dA : Int} {ss : List Sym} {rs : List Rel} {A1 A2 A3 A4 : Option Addr} {c1 c2 c3 c4 q : Nat} (hb : But g w w') (e : took b = ⟨nm, code, dA, data, ss, rs, ⟨q, 0, 0⟩⟩) (h : RowsO w' w.heap.size A1 A2 A3 A4 c1 c2 c3 c4 code data ss rs) : TakesO g b w (.returned (.tuple #[.agg #[.string nm, .slice A1 code.length c1, .int .i64 dA, .slice A2 data.length c2, .slice A3 ss.length c3, .slice A4 rs.length c4], .nilIface])) w' := by
  unfold TakesO
  rw [e]
  exact ⟨hb, Or.inl ⟨rfl, A1, A2, A3, A4, c1, c2, c3, c4, rfl, h⟩⟩
theorem box6_fro {w : World} {B : Nat} {cs : Array Value} {t : TypeId} (h : w.heap[B]? = some (.cells cs t (0, 0))) : w.frozen? ⟨B, 0, none⟩ = false ∧ w.frozen? ⟨B, 1, none⟩ = false ∧ w.frozen? ⟨B, 2, none⟩ = false ∧ w.frozen? ⟨B, 3, none⟩ = false ∧ w.frozen? ⟨B, 4, none⟩ = false ∧ w.frozen? ⟨B, 5, none⟩ = false :=
  ⟨box_fro h _, box_fro h _, box_fro h _, box_fro h _, box_fro h _, box_fro h _⟩
theorem but_set6 {w w1 : World} {g : Nat} (h : But g w w1) (x0 x1 x2 x3 x4 x5 : Value) : But g w ((((((w1.setCell ⟨w.heap.size, 0, none⟩ x0).setCell ⟨w.heap.size, 1, none⟩ x1).setCell ⟨w.heap.size, 2, none⟩ x2).setCell ⟨w.heap.size, 3, none⟩ x3).setCell ⟨w.heap.size, 4, none⟩ x4).setCell ⟨w.heap.size, 5, none⟩ x5) :=
  but_setB (but_setB (but_setB (but_setB (but_setB (but_setB h (Nat.le_refl _) _ _) (Nat.le_refl _) _ _) (Nat.le_refl _) _ _) (Nat.le_refl _) _ _) (Nat.le_refl _) _ _) (Nat.le_refl _) _ _
theorem row_set6 {w1 : World} {B base n : Nat} {e : TypeId} {sz : Nat} {v : Value} {xs : List Value} (h : w1.ownsRow base e sz v n xs) (hB : B < base) (x0 x1 x2 x3 x4 x5 : Value) : ((((((w1.setCell ⟨B, 0, none⟩ x0).setCell ⟨B, 1, none⟩ x1).setCell ⟨B, 2, none⟩ x2).setCell ⟨B, 3, none⟩ x3).setCell ⟨B, 4, none⟩ x4).setCell ⟨B, 5, none⟩ x5).ownsRow base e sz v n xs :=
  ownsRow_setCell_below (ownsRow_setCell_below (ownsRow_setCell_below (ownsRow_setCell_below (ownsRow_setCell_below (ownsRow_setCell_below h hB _) hB _) hB _) hB _) hB _) hB _

theorem end_good {b : List Int} {p : Nat} (h : (tEnd b ⟨p, 0, 0⟩).bad = 0) : tEnd b ⟨p, 0, 0⟩ = ⟨(tEnd b ⟨p, 0, 0⟩).pos, 0, 0⟩ := by
  by_cases h1 : p + 4 ≤ b.length
  · by_cases h2 : p + 4 < b.length
    · rw [end_b h2] at h; cases h
    · by_cases h3 : v4 (b.drop p) = sumB (b.take p)
      · rw [end_d (by omega) h3]
      · rw [end_c (by omega) h3] at h; cases h
  · rw [end_a h1] at h; cases h
theorem fail_rels {b : List Int} (h : ¬ (tRels b).2.bad = 0) : (took b).t = (tRels b).2 := end_stick h
theorem fail_syms {b : List Int} (h : ¬ (tSyms b).2.bad = 0) : (took b).t = (tSyms b).2 := by
  have e : (tRels b).2 = (tSyms b).2 := all_stick (f := tRel b) (m := (tCode b).1.length) h
  rw [fail_rels (by rw [e]; exact h), e]
theorem fail_data {b : List Int} (h : ¬ (tData b).2.bad = 0) : (took b).t = (tData b).2 := by
  have e : (tSyms b).2 = (tData b).2 := all_stick (f := tSym b) (m := 256) h
  rw [fail_syms (by rw [e]; exact h), e]
theorem fail_dat {b : List Int} (h : ¬ (tDat b).2.bad = 0) : (took b).t = (tDat b).2 := by
  have e : (tData b).2 = (tDat b).2 := all_stick (f := tEight b) (m := 4096) h
  rw [fail_data (by rw [e]; exact h), e]
theorem fail_code {b : List Int} (h : ¬ (tCode b).2.bad = 0) : (took b).t = (tCode b).2 := by
  have e : (tDat b).2 = (tCode b).2 := count_stick2 h
  rw [fail_dat (by rw [e]; exact h), e]
theorem fail_name {b : List Int} (h : ¬ (tName b (tBegin b [80, 76, 79, 49])).2.bad = 0) : (took b).t = (tName b (tBegin b [80, 76, 79, 49])).2 := by
  have e : (tCode b).2 = (tName b (tBegin b [80, 76, 79, 49])).2 := all_stick (f := tFour b) (m := 16384) h
  rw [fail_code (by rw [e]; exact h), e]
theorem fail_begin {b : List Int} (h : ¬ (tBegin b [80, 76, 79, 49]).bad = 0) : (took b).t = tBegin b [80, 76, 79, 49] := by
  have e : (tName b (tBegin b [80, 76, 79, 49])).2 = tBegin b [80, 76, 79, 49] := name_stick h
  rw [fail_name (by rw [e]; exact h), e]

theorem all_len {α : Type} {b : List Int} {m : Nat} {f : Tk → α × Tk} {p : Nat} (hb : AreB b) (h : (tAll b (m : Int) f ⟨p, 0, 0⟩).2.bad = 0) : (tAll b (m : Int) f ⟨p, 0, 0⟩).1.length ≤ m := by
  by_cases hg : (tCount b m ⟨p, 0, 0⟩).2.bad = 0
  · have := (count_range hb hg).2
    have hl : ∀ (n : Nat) (t : Tk), (tList f n t).1.length ≤ n := by
      intro n
      induction n with
      | zero => intro t; simp [tList]
      | succ n ih =>
        intro t
        rw [tList]
        split
        · have := ih (f t).2
          simp
          omega
        · simp
    have h2 := hl (tCount b m ⟨p, 0, 0⟩).1.toNat (tCount b m ⟨p, 0, 0⟩).2
    unfold tAll
    omega
  · rw [all_bad hg] at h
    exact absurd h hg
set_option maxRecDepth 100000 in
set_option maxHeartbeats 8000000 in
theorem robject_any (w0 : World) (g : Nat) (A : Option Addr) (c : Nat) (b : List Int) (w : World) (h : InBy w0 g A c b 0 w) :
    Calls Tryz.prog 86 #[.pointer (some ⟨g, 0, none⟩)] w (TakesO g b w) := by
  have hgw := h.lt
  have hle := h.below.size
  have hab := h.areB
  have hin1 := h.keep (lb_alloc (Below.refl _ _) (.cells #[.string ⟨#[]⟩, .slice none 0 0, .int .i64 0, .slice none 0 0, .slice none 0 0, .slice none 0 0] 75))
  have hbx1 : Hid ((w.alloc (.cells #[.string ⟨#[]⟩, .slice none 0 0, .int .i64 0, .slice none 0 0, .slice none 0 0, .slice none 0 0] 75)).heap[w.heap.size]? = some (.cells #[.string ⟨#[]⟩, .slice none 0 0, .int .i64 0, .slice none 0 0, .slice none 0 0, .slice none 0 0] 75 (0, 0))) := heap_alloc_new _ _
  have HB1 : Hid (But g w (w.alloc (.cells #[.string ⟨#[]⟩, .slice none 0 0, .int .i64 0, .slice none 0 0, .slice none 0 0, .slice none 0 0] 75))) := But.of (lb_alloc (Below.refl _ _) _)
  have C := beginning_any w0 g A c b _ hin1
  clear h hin1
  by_cases hg : (tBegin b [80, 76, 79, 49]).bad = 0
  · have et : tBegin b [80, 76, 79, 49] = ⟨4, 0, 0⟩ := begin_good hg
    have P1 : Hid (tName b (tBegin b [80, 76, 79, 49]) = tName b ⟨4, 0, 0⟩) := by
      show _ = _
      rw [et]
    rw [et] at C
    clear hg et
    go_enter Tryz.func86, Tryz.ntmps86
    go_wp2_with fail
    refine C.mono ?_
    intro r w1 hr
    obtain ⟨rfl, hin, hb⟩ := hr.ok rfl
    clear hr C
    have hbx := but_box hb hbx1.out (by omega)
    have HB : Hid (But g w w1) := HB1.out.trans hb
    have HX : Hid _ := hbx
    obtain ⟨d0, d1, d2, d3, d4, d5⟩ := box6_cell hbx
    obtain ⟨f0, f1, f2, f3, f4, f5⟩ := box6_fro hbx
    have hz1 : w.heap.size < w1.heap.size := (Array.getElem?_eq_some_iff.1 hbx).1
    have hin : InBy w0 g A c b 4 w1 := hin
    clear hb hbx hbx1 HB1
    have C1 := rtext_any w0 g A c b 4 _ hin
    by_cases hg : (tName b ⟨4, 0, 0⟩).2.bad = 0
    · have et := plain_tk (plain_name b hab) hg
      have E1 : Hid (tName b (tBegin b [80, 76, 79, 49]) = ((tName b ⟨4, 0, 0⟩).1, ⟨(tName b ⟨4, 0, 0⟩).2.pos, 0, 0⟩)) := by
        show _ = _
        rw [P1.out, ← et]
      go_wp2_with fail
      refine C1.mono ?_
      intro r w2 hr
      obtain ⟨rfl, hin, hb⟩ := hr.ok hg
      clear hr C1 hg et
      have hbx := but_box hb HX.out (by omega)
      have HB : Hid (But g w w2) := But.trans HB.out hb
      obtain ⟨d0, d1, d2, d3, d4, d5⟩ := box6_cell hbx
      obtain ⟨f0, f1, f2, f3, f4, f5⟩ := box6_fro hbx
      have hz2 : w.heap.size < w2.heap.size := (Array.getElem?_eq_some_iff.1 hbx).1
      generalize (tName b ⟨4, 0, 0⟩).1 = x1 at *
      generalize (tName b ⟨4, 0, 0⟩).2.pos = q1 at *
      have HX : Hid ((w2.setCell ⟨w.heap.size, 0, none⟩ (.string x1)).heap[w.heap.size]? = some (.cells #[.string x1, .slice none 0 0, .int .i64 0, .slice none 0 0, .slice none 0 0, .slice none 0 0] 75 (0, 0))) := box_set hbx 0 (.string x1)
      have HB : Hid (But g w (w2.setCell ⟨w.heap.size, 0, none⟩ (.string x1))) := but_setB HB.out (Nat.le_refl _) 0 (.string x1)
      have hin : InBy w0 g A c b q1 (w2.setCell ⟨w.heap.size, 0, none⟩ (.string x1)) := hin.setB (by omega) hle 0 (.string x1)
      clear hb hbx
      have P2 : Hid (tCode b = tAll b 16384 (tFour b) ⟨q1, 0, 0⟩) := by
        show tAll b 16384 (tFour b) (tName b (tBegin b [80, 76, 79, 49])).2 = _
        rw [E1.out]
      have C2 := takeWords 16384 (by omega) (by omega) w0 g A c b q1 _ hin
      by_cases hg : (tAll b 16384 (tFour b) ⟨q1, 0, 0⟩).2.bad = 0
      · have et := plain_tk (plain_all (plain_four b) b 16384) hg
        have E2 : Hid (tCode b = ((tAll b 16384 (tFour b) ⟨q1, 0, 0⟩).1, ⟨(tAll b 16384 (tFour b) ⟨q1, 0, 0⟩).2.pos, 0, 0⟩)) := by
          show _ = _
          rw [P2.out, ← et]
        have hl1 : (tAll b 16384 (tFour b) ⟨q1, 0, 0⟩).1.length ≤ 16384 := all_len hab hg
        go_wp2_with fail
        refine C2.mono ?_
        intro r w3 hr
        obtain ⟨v, rfl, ho, hin, hb⟩ := hr.ok hg
        clear hr C2 hg et
        have hbx := but_box hb HX.out (by omega)
        have HB : Hid (But g w w3) := But.trans HB.out hb
        obtain ⟨d0, d1, d2, d3, d4, d5⟩ := box6_cell hbx
        obtain ⟨f0, f1, f2, f3, f4, f5⟩ := box6_fro hbx
        have hz3 : w.heap.size < w3.heap.size := (Array.getElem?_eq_some_iff.1 hbx).1
        generalize (tAll b 16384 (tFour b) ⟨q1, 0, 0⟩).1 = l1 at *
        generalize (tAll b 16384 (tFour b) ⟨q1, 0, 0⟩).2.pos = q2 at *
        obtain ⟨A1, c1, rfl⟩ := own_form ho
        have R1 : Hid (w3.ownsRow (w.heap.size + 1) 78 1 (.slice A1 l1.length c1) l1.length (iVals .u32 l1)) := ownsRow_mono ho (by first | omega | (simp; omega))
        clear ho
        have HX : Hid ((w3.setCell ⟨w.heap.size, 1, none⟩ (.slice A1 l1.length c1)).heap[w.heap.size]? = some (.cells #[.string x1, .slice A1 l1.length c1, .int .i64 0, .slice none 0 0, .slice none 0 0, .slice none 0 0] 75 (0, 0))) := box_set hbx 1 (.slice A1 l1.length c1)
        have HB : Hid (But g w (w3.setCell ⟨w.heap.size, 1, none⟩ (.slice A1 l1.length c1))) := but_setB HB.out (Nat.le_refl _) 1 (.slice A1 l1.length c1)
        have hin : InBy w0 g A c b q2 (w3.setCell ⟨w.heap.size, 1, none⟩ (.slice A1 l1.length c1)) := hin.setB (by omega) hle 1 (.slice A1 l1.length c1)
        have R1 : Hid ((w3.setCell ⟨w.heap.size, 1, none⟩ (.slice A1 l1.length c1)).ownsRow (w.heap.size + 1) 78 1 (.slice A1 l1.length c1) l1.length (iVals .u32 l1)) := ownsRow_setCell_below R1.out (by show w.heap.size < w.heap.size + 1; omega) _
        clear hb hbx
        have P3 : Hid (tDat b = tCount b great ⟨q2, 0, 0⟩) := by
          show tCount b great (tCode b).2 = _
          rw [E2.out]
        have C3 : Calls Tryz.prog 130 #[.pointer (some ⟨g, 0, none⟩), .int .i64 2147483647] _ (Takes w0 g A c b (tCount b great ⟨q2, 0, 0⟩) (.int .i64) (IsZ .i64) _) := upto_any 2147483647 (by omega) (by omega) w0 g A c b q2 _ hin
        by_cases hg : (tCount b great ⟨q2, 0, 0⟩).2.bad = 0
        · have et := plain_tk (plain_count b great) hg
          have E3 : Hid (tDat b = ((tCount b great ⟨q2, 0, 0⟩).1, ⟨(tCount b great ⟨q2, 0, 0⟩).2.pos, 0, 0⟩)) := by
            show _ = _
            rw [P3.out, ← et]
          go_wp2_with fail
          refine C3.mono ?_
          intro r w4 hr
          obtain ⟨rfl, hin, hb⟩ := hr.ok hg
          clear hr C3 hg et
          have hbx := but_box hb HX.out (by omega)
          have HB : Hid (But g w w4) := But.trans HB.out hb
          obtain ⟨d0, d1, d2, d3, d4, d5⟩ := box6_cell hbx
          obtain ⟨f0, f1, f2, f3, f4, f5⟩ := box6_fro hbx
          have hz4 : w.heap.size < w4.heap.size := (Array.getElem?_eq_some_iff.1 hbx).1
          have R1 : Hid (w4.ownsRow (w.heap.size + 1) 78 1 (.slice A1 l1.length c1) l1.length (iVals .u32 l1)) := row_but R1.out (by omega) hb
          generalize (tCount b great ⟨q2, 0, 0⟩).1 = x3 at *
          generalize (tCount b great ⟨q2, 0, 0⟩).2.pos = q3 at *
          have HX : Hid ((w4.setCell ⟨w.heap.size, 2, none⟩ (.int .i64 x3)).heap[w.heap.size]? = some (.cells #[.string x1, .slice A1 l1.length c1, .int .i64 x3, .slice none 0 0, .slice none 0 0, .slice none 0 0] 75 (0, 0))) := box_set hbx 2 (.int .i64 x3)
          have HB : Hid (But g w (w4.setCell ⟨w.heap.size, 2, none⟩ (.int .i64 x3))) := but_setB HB.out (Nat.le_refl _) 2 (.int .i64 x3)
          have hin : InBy w0 g A c b q3 (w4.setCell ⟨w.heap.size, 2, none⟩ (.int .i64 x3)) := hin.setB (by omega) hle 2 (.int .i64 x3)
          have R1 : Hid ((w4.setCell ⟨w.heap.size, 2, none⟩ (.int .i64 x3)).ownsRow (w.heap.size + 1) 78 1 (.slice A1 l1.length c1) l1.length (iVals .u32 l1)) := ownsRow_setCell_below R1.out (by show w.heap.size < w.heap.size + 1; omega) _
          clear hb hbx
          have P4 : Hid (tData b = tAll b 4096 (tEight b) ⟨q3, 0, 0⟩) := by
            show tAll b 4096 (tEight b) (tDat b).2 = _
            rw [E3.out]
          have C4 := takeLongs 4096 (by omega) (by omega) w0 g A c b q3 _ hin
          by_cases hg : (tAll b 4096 (tEight b) ⟨q3, 0, 0⟩).2.bad = 0
          · have et := plain_tk (plain_all (plain_eight b) b 4096) hg
            have E4 : Hid (tData b = ((tAll b 4096 (tEight b) ⟨q3, 0, 0⟩).1, ⟨(tAll b 4096 (tEight b) ⟨q3, 0, 0⟩).2.pos, 0, 0⟩)) := by
              show _ = _
              rw [P4.out, ← et]
            go_wp2_with fail
            refine C4.mono ?_
            intro r w5 hr
            obtain ⟨v, rfl, ho, hin, hb⟩ := hr.ok hg
            clear hr C4 hg et
            have hbx := but_box hb HX.out (by omega)
            have HB : Hid (But g w w5) := But.trans HB.out hb
            obtain ⟨d0, d1, d2, d3, d4, d5⟩ := box6_cell hbx
            obtain ⟨f0, f1, f2, f3, f4, f5⟩ := box6_fro hbx
            have hz5 : w.heap.size < w5.heap.size := (Array.getElem?_eq_some_iff.1 hbx).1
            have R1 : Hid (w5.ownsRow (w.heap.size + 1) 78 1 (.slice A1 l1.length c1) l1.length (iVals .u32 l1)) := row_but R1.out (by omega) hb
            generalize (tAll b 4096 (tEight b) ⟨q3, 0, 0⟩).1 = l2 at *
            generalize (tAll b 4096 (tEight b) ⟨q3, 0, 0⟩).2.pos = q4 at *
            obtain ⟨A2, c2, rfl⟩ := own_form ho
            have R2 : Hid (w5.ownsRow (w.heap.size + 1) 2 1 (.slice A2 l2.length c2) l2.length (iVals .i64 l2)) := ownsRow_mono ho (by first | omega | (simp; omega))
            clear ho
            have HX : Hid ((w5.setCell ⟨w.heap.size, 3, none⟩ (.slice A2 l2.length c2)).heap[w.heap.size]? = some (.cells #[.string x1, .slice A1 l1.length c1, .int .i64 x3, .slice A2 l2.length c2, .slice none 0 0, .slice none 0 0] 75 (0, 0))) := box_set hbx 3 (.slice A2 l2.length c2)
            have HB : Hid (But g w (w5.setCell ⟨w.heap.size, 3, none⟩ (.slice A2 l2.length c2))) := but_setB HB.out (Nat.le_refl _) 3 (.slice A2 l2.length c2)
            have hin : InBy w0 g A c b q4 (w5.setCell ⟨w.heap.size, 3, none⟩ (.slice A2 l2.length c2)) := hin.setB (by omega) hle 3 (.slice A2 l2.length c2)
            have R1 : Hid ((w5.setCell ⟨w.heap.size, 3, none⟩ (.slice A2 l2.length c2)).ownsRow (w.heap.size + 1) 78 1 (.slice A1 l1.length c1) l1.length (iVals .u32 l1)) := ownsRow_setCell_below R1.out (by show w.heap.size < w.heap.size + 1; omega) _
            have R2 : Hid ((w5.setCell ⟨w.heap.size, 3, none⟩ (.slice A2 l2.length c2)).ownsRow (w.heap.size + 1) 2 1 (.slice A2 l2.length c2) l2.length (iVals .i64 l2)) := ownsRow_setCell_below R2.out (by show w.heap.size < w.heap.size + 1; omega) _
            clear hb hbx
            have P5 : Hid (tSyms b = tAll b 256 (tSym b) ⟨q4, 0, 0⟩) := by
              show tAll b 256 (tSym b) (tData b).2 = _
              rw [E4.out]
            have C5 := takeSyms 256 (by omega) (by omega) w0 g A c b q4 _ hin
            by_cases hg : (tAll b 256 (tSym b) ⟨q4, 0, 0⟩).2.bad = 0
            · have et := plain_tk (plain_all (plain_sym b hab) b 256) hg
              have E5 : Hid (tSyms b = ((tAll b 256 (tSym b) ⟨q4, 0, 0⟩).1, ⟨(tAll b 256 (tSym b) ⟨q4, 0, 0⟩).2.pos, 0, 0⟩)) := by
                show _ = _
                rw [P5.out, ← et]
              go_wp2_with fail
              refine C5.mono ?_
              intro r w6 hr
              obtain ⟨v, rfl, ho, hin, hb⟩ := hr.ok hg
              clear hr C5 hg et
              have hbx := but_box hb HX.out (by omega)
              have HB : Hid (But g w w6) := But.trans HB.out hb
              obtain ⟨d0, d1, d2, d3, d4, d5⟩ := box6_cell hbx
              obtain ⟨f0, f1, f2, f3, f4, f5⟩ := box6_fro hbx
              have hz6 : w.heap.size < w6.heap.size := (Array.getElem?_eq_some_iff.1 hbx).1
              have R1 : Hid (w6.ownsRow (w.heap.size + 1) 78 1 (.slice A1 l1.length c1) l1.length (iVals .u32 l1)) := row_but R1.out (by omega) hb
              have R2 : Hid (w6.ownsRow (w.heap.size + 1) 2 1 (.slice A2 l2.length c2) l2.length (iVals .i64 l2)) := row_but R2.out (by omega) hb
              generalize (tAll b 256 (tSym b) ⟨q4, 0, 0⟩).1 = l3 at *
              generalize (tAll b 256 (tSym b) ⟨q4, 0, 0⟩).2.pos = q5 at *
              obtain ⟨A3, c3, rfl⟩ := own_form ho
              have R3 : Hid (w6.ownsRow (w.heap.size + 1) 131 3 (.slice A3 l3.length c3) l3.length (sVals l3)) := ownsRow_mono ho (by first | omega | (simp; omega))
              clear ho
              have HX : Hid ((w6.setCell ⟨w.heap.size, 4, none⟩ (.slice A3 l3.length c3)).heap[w.heap.size]? = some (.cells #[.string x1, .slice A1 l1.length c1, .int .i64 x3, .slice A2 l2.length c2, .slice A3 l3.length c3, .slice none 0 0] 75 (0, 0))) := box_set hbx 4 (.slice A3 l3.length c3)
              have HB : Hid (But g w (w6.setCell ⟨w.heap.size, 4, none⟩ (.slice A3 l3.length c3))) := but_setB HB.out (Nat.le_refl _) 4 (.slice A3 l3.length c3)
              have hin : InBy w0 g A c b q5 (w6.setCell ⟨w.heap.size, 4, none⟩ (.slice A3 l3.length c3)) := hin.setB (by omega) hle 4 (.slice A3 l3.length c3)
              have R1 : Hid ((w6.setCell ⟨w.heap.size, 4, none⟩ (.slice A3 l3.length c3)).ownsRow (w.heap.size + 1) 78 1 (.slice A1 l1.length c1) l1.length (iVals .u32 l1)) := ownsRow_setCell_below R1.out (by show w.heap.size < w.heap.size + 1; omega) _
              have R2 : Hid ((w6.setCell ⟨w.heap.size, 4, none⟩ (.slice A3 l3.length c3)).ownsRow (w.heap.size + 1) 2 1 (.slice A2 l2.length c2) l2.length (iVals .i64 l2)) := ownsRow_setCell_below R2.out (by show w.heap.size < w.heap.size + 1; omega) _
              have R3 : Hid ((w6.setCell ⟨w.heap.size, 4, none⟩ (.slice A3 l3.length c3)).ownsRow (w.heap.size + 1) 131 3 (.slice A3 l3.length c3) l3.length (sVals l3)) := ownsRow_setCell_below R3.out (by show w.heap.size < w.heap.size + 1; omega) _
              clear hb hbx
              have P6 : Hid (tRels b = tAll b (l1.length : Int) (tRel b) ⟨q5, 0, 0⟩) := by
                show tAll b ((tCode b).1.length : Int) (tRel b) (tSyms b).2 = _
                rw [E5.out, E2.out]
              have C6 := takeRels (l1.length : Int) (by omega) (by omega) w0 g A c b q5 _ hin
              by_cases hg : (tAll b (l1.length : Int) (tRel b) ⟨q5, 0, 0⟩).2.bad = 0
              · have et := plain_tk (plain_all (plain_rel b) b (l1.length : Int)) hg
                have E6 : Hid (tRels b = ((tAll b (l1.length : Int) (tRel b) ⟨q5, 0, 0⟩).1, ⟨(tAll b (l1.length : Int) (tRel b) ⟨q5, 0, 0⟩).2.pos, 0, 0⟩)) := by
                  show _ = _
                  rw [P6.out, ← et]
                go_wp2_with fail
                refine C6.mono ?_
                intro r w7 hr
                obtain ⟨v, rfl, ho, hin, hb⟩ := hr.ok hg
                clear hr C6 hg et
                have hbx := but_box hb HX.out (by omega)
                have HB : Hid (But g w w7) := But.trans HB.out hb
                obtain ⟨d0, d1, d2, d3, d4, d5⟩ := box6_cell hbx
                obtain ⟨f0, f1, f2, f3, f4, f5⟩ := box6_fro hbx
                have hz7 : w.heap.size < w7.heap.size := (Array.getElem?_eq_some_iff.1 hbx).1
                have R1 : Hid (w7.ownsRow (w.heap.size + 1) 78 1 (.slice A1 l1.length c1) l1.length (iVals .u32 l1)) := row_but R1.out (by omega) hb
                have R2 : Hid (w7.ownsRow (w.heap.size + 1) 2 1 (.slice A2 l2.length c2) l2.length (iVals .i64 l2)) := row_but R2.out (by omega) hb
                have R3 : Hid (w7.ownsRow (w.heap.size + 1) 131 3 (.slice A3 l3.length c3) l3.length (sVals l3)) := row_but R3.out (by omega) hb
                generalize (tAll b (l1.length : Int) (tRel b) ⟨q5, 0, 0⟩).1 = l4 at *
                generalize (tAll b (l1.length : Int) (tRel b) ⟨q5, 0, 0⟩).2.pos = q6 at *
                obtain ⟨A4, c4, rfl⟩ := own_form ho
                have R4 : Hid (w7.ownsRow (w.heap.size + 1) 83 2 (.slice A4 l4.length c4) l4.length (rVals l4)) := ownsRow_mono ho (by first | omega | (simp; omega))
                clear ho
                have HX : Hid ((w7.setCell ⟨w.heap.size, 5, none⟩ (.slice A4 l4.length c4)).heap[w.heap.size]? = some (.cells #[.string x1, .slice A1 l1.length c1, .int .i64 x3, .slice A2 l2.length c2, .slice A3 l3.length c3, .slice A4 l4.length c4] 75 (0, 0))) := box_set hbx 5 (.slice A4 l4.length c4)
                have HB : Hid (But g w (w7.setCell ⟨w.heap.size, 5, none⟩ (.slice A4 l4.length c4))) := but_setB HB.out (Nat.le_refl _) 5 (.slice A4 l4.length c4)
                have hin : InBy w0 g A c b q6 (w7.setCell ⟨w.heap.size, 5, none⟩ (.slice A4 l4.length c4)) := hin.setB (by omega) hle 5 (.slice A4 l4.length c4)
                have R1 : Hid ((w7.setCell ⟨w.heap.size, 5, none⟩ (.slice A4 l4.length c4)).ownsRow (w.heap.size + 1) 78 1 (.slice A1 l1.length c1) l1.length (iVals .u32 l1)) := ownsRow_setCell_below R1.out (by show w.heap.size < w.heap.size + 1; omega) _
                have R2 : Hid ((w7.setCell ⟨w.heap.size, 5, none⟩ (.slice A4 l4.length c4)).ownsRow (w.heap.size + 1) 2 1 (.slice A2 l2.length c2) l2.length (iVals .i64 l2)) := ownsRow_setCell_below R2.out (by show w.heap.size < w.heap.size + 1; omega) _
                have R3 : Hid ((w7.setCell ⟨w.heap.size, 5, none⟩ (.slice A4 l4.length c4)).ownsRow (w.heap.size + 1) 131 3 (.slice A3 l3.length c3) l3.length (sVals l3)) := ownsRow_setCell_below R3.out (by show w.heap.size < w.heap.size + 1; omega) _
                have R4 : Hid ((w7.setCell ⟨w.heap.size, 5, none⟩ (.slice A4 l4.length c4)).ownsRow (w.heap.size + 1) 83 2 (.slice A4 l4.length c4) l4.length (rVals l4)) := ownsRow_setCell_below R4.out (by show w.heap.size < w.heap.size + 1; omega) _
                clear hb hbx
                have P7 : Hid ((took b).t = tEnd b ⟨q6, 0, 0⟩) := by
                  show tEnd b (tRels b).2 = _
                  rw [E6.out]
                have C := fun wx (h : InBy w0 g A c b q6 wx) => rend_any w0 g A c b q6 wx h
                by_cases hg : (tEnd b ⟨q6, 0, 0⟩).bad = 0
                · have et := end_good hg
                  have E7 : Hid (took b = ⟨x1, l1, x3, l2, l3, l4, ⟨(tEnd b ⟨q6, 0, 0⟩).pos, 0, 0⟩⟩) := by
                    show _ = _
                    have e : took b = ⟨(tName b (tBegin b [80, 76, 79, 49])).1, (tCode b).1, (tDat b).1, (tData b).1, (tSyms b).1, (tRels b).1, tEnd b (tRels b).2⟩ := rfl
                    rw [e, E1.out, E2.out, E3.out, E4.out, E5.out, E6.out, ← et]
                  go_wp2_with fail
                  go_region_with (go_at_call 137; refine (C _ (by first | exact hin | exact hin.drewN _)).mono ?_; intro r w8 hr; obtain ⟨rfl, hin8, hb8⟩ := hr.ok hg; have hbx8 := but_box hb8 HX.out (by omega); obtain ⟨e0, e1, e2, e3, e4, e5⟩ := box6_cell hbx8; obtain ⟨g0, g1, g2, g3, g4, g5⟩ := box6_fro hbx8; have hz8 : w.heap.size < w8.heap.size := (Array.getElem?_eq_some_iff.1 hbx8).1; have HB8 : Hid (But g w w8) := But.trans HB.out hb8; have S1 : Hid (w8.ownsRow (w.heap.size + 1) 78 1 (.slice A1 l1.length c1) l1.length (iVals .u32 l1)) := row_but R1.out (by omega) hb8; have S2 : Hid (w8.ownsRow (w.heap.size + 1) 2 1 (.slice A2 l2.length c2) l2.length (iVals .i64 l2)) := row_but R2.out (by omega) hb8; have S3 : Hid (w8.ownsRow (w.heap.size + 1) 131 3 (.slice A3 l3.length c3) l3.length (sVals l3)) := row_but R3.out (by omega) hb8; have S4 : Hid (w8.ownsRow (w.heap.size + 1) 83 2 (.slice A4 l4.length c4) l4.length (rVals l4)) := row_but R4.out (by omega) hb8; clear hr hb8 hbx8)
                  all_goals go_wp2_with fail
                  all_goals exact bodyPost_ret (v := .tuple #[.agg #[.string x1, .slice A1 l1.length c1, .int .i64 x3, .slice A2 l2.length c2, .slice A3 l3.length c3, .slice A4 l4.length c4], .nilIface]) (by simp [results, Tryz.results86, go_sem, e0, e1, e2, e3, e4, e5]) rfl (takesO_yes (but_set6 HB8.out _ _ _ _ _ _) E7.out ⟨ownsRow_mono (row_set6 S1.out (by omega) _ _ _ _ _ _) (by omega), ownsRow_mono (row_set6 S2.out (by omega) _ _ _ _ _ _) (by omega), ownsRow_mono (row_set6 S3.out (by omega) _ _ _ _ _ _) (by omega), ownsRow_mono (row_set6 S4.out (by omega) _ _ _ _ _ _) (by omega)⟩)
                · have HG : Hid _ := hg
                  go_wp2_with fail
                  go_region_with (go_at_call 137; refine (C _ (by first | exact hin | exact hin.drewN _)).mono ?_; intro r w8 hr; obtain ⟨qq, rfl, hin8, hb8⟩ := hr.err hg; have hbx8 := but_box hb8 HX.out (by omega); obtain ⟨e0, e1, e2, e3, e4, e5⟩ := box6_cell hbx8; obtain ⟨g0, g1, g2, g3, g4, g5⟩ := box6_fro hbx8; have hz8 : w.heap.size < w8.heap.size := (Array.getElem?_eq_some_iff.1 hbx8).1; have HB8 : Hid (But g w w8) := But.trans HB.out hb8; have S1 : Hid (w8.ownsRow (w.heap.size + 1) 78 1 (.slice A1 l1.length c1) l1.length (iVals .u32 l1)) := row_but R1.out (by omega) hb8; have S2 : Hid (w8.ownsRow (w.heap.size + 1) 2 1 (.slice A2 l2.length c2) l2.length (iVals .i64 l2)) := row_but R2.out (by omega) hb8; have S3 : Hid (w8.ownsRow (w.heap.size + 1) 131 3 (.slice A3 l3.length c3) l3.length (sVals l3)) := row_but R3.out (by omega) hb8; have S4 : Hid (w8.ownsRow (w.heap.size + 1) 83 2 (.slice A4 l4.length c4) l4.length (rVals l4)) := row_but R4.out (by omega) hb8; clear hr hb8 hbx8)
                  all_goals go_wp2_with fail
                  all_goals exact bodyPost_ret (v := .tuple #[.agg #[.string x1, .slice A1 l1.length c1, .int .i64 x3, .slice A2 l2.length c2, .slice A3 l3.length c3, .slice A4 l4.length c4], .iface 161 (.agg #[.int .i64 (tEnd b ⟨q6, 0, 0⟩).bad, .int .i64 (tEnd b ⟨q6, 0, 0⟩).place])]) (by simp [results, Tryz.results86, go_sem, e0, e1, e2, e3, e4, e5]) rfl (takesO_no (but_set6 HB8.out _ _ _ _ _ _) ⟨_, _, _, _, _, _, _, _, _, _, _, _, _, _, rfl⟩ P7.out HG.out)
              · have HE : Hid ((took b).t = (tAll b (l1.length : Int) (tRel b) ⟨q5, 0, 0⟩).2) := by
                  show _ = _
                  rw [← P6.out]
                  exact fail_rels (by rw [P6.out]; exact hg)
                have HG : Hid _ := hg
                go_wp2_with fail
                refine C6.mono ?_
                intro r w7 hr
                obtain ⟨q, rfl, hin, hb⟩ := hr.err hg
                clear hr C6 hg
                have hbx := but_box hb HX.out (by omega)
                have HB : Hid (But g w w7) := But.trans HB.out hb
                obtain ⟨d0, d1, d2, d3, d4, d5⟩ := box6_cell hbx
                obtain ⟨f0, f1, f2, f3, f4, f5⟩ := box6_fro hbx
                have hz7 : w.heap.size < w7.heap.size := (Array.getElem?_eq_some_iff.1 hbx).1
                generalize (tAll b (l1.length : Int) (tRel b) ⟨q5, 0, 0⟩).2 = T at *
                clear hb hbx
                go_wp2
                exact bodyPost_ret (v := .tuple #[.agg #[.string x1, .slice A1 l1.length c1, .int .i64 x3, .slice A2 l2.length c2, .slice A3 l3.length c3, .slice none 0 0], .iface 161 (.agg #[.int .i64 T.bad, .int .i64 T.place])]) (by simp [results, Tryz.results86, go_sem, d0, d1, d2, d3, d4, d5]) rfl (takesO_no (but_set6 (but_setB HB.out (Nat.le_refl _) _ _) _ _ _ _ _ _) ⟨_, _, _, _, _, _, _, _, _, _, _, _, _, _, rfl⟩ HE.out HG.out)
            · have HE : Hid ((took b).t = (tAll b 256 (tSym b) ⟨q4, 0, 0⟩).2) := by
                show _ = _
                rw [← P5.out]
                exact fail_syms (by rw [P5.out]; exact hg)
              have HG : Hid _ := hg
              go_wp2_with fail
              refine C5.mono ?_
              intro r w6 hr
              obtain ⟨q, rfl, hin, hb⟩ := hr.err hg
              clear hr C5 hg
              have hbx := but_box hb HX.out (by omega)
              have HB : Hid (But g w w6) := But.trans HB.out hb
              obtain ⟨d0, d1, d2, d3, d4, d5⟩ := box6_cell hbx
              obtain ⟨f0, f1, f2, f3, f4, f5⟩ := box6_fro hbx
              have hz6 : w.heap.size < w6.heap.size := (Array.getElem?_eq_some_iff.1 hbx).1
              generalize (tAll b 256 (tSym b) ⟨q4, 0, 0⟩).2 = T at *
              clear hb hbx
              go_wp2
              exact bodyPost_ret (v := .tuple #[.agg #[.string x1, .slice A1 l1.length c1, .int .i64 x3, .slice A2 l2.length c2, .slice none 0 0, .slice none 0 0], .iface 161 (.agg #[.int .i64 T.bad, .int .i64 T.place])]) (by simp [results, Tryz.results86, go_sem, d0, d1, d2, d3, d4, d5]) rfl (takesO_no (but_set6 (but_setB HB.out (Nat.le_refl _) _ _) _ _ _ _ _ _) ⟨_, _, _, _, _, _, _, _, _, _, _, _, _, _, rfl⟩ HE.out HG.out)
          · have HE : Hid ((took b).t = (tAll b 4096 (tEight b) ⟨q3, 0, 0⟩).2) := by
              show _ = _
              rw [← P4.out]
              exact fail_data (by rw [P4.out]; exact hg)
            have HG : Hid _ := hg
            go_wp2_with fail
            refine C4.mono ?_
            intro r w5 hr
            obtain ⟨q, rfl, hin, hb⟩ := hr.err hg
            clear hr C4 hg
            have hbx := but_box hb HX.out (by omega)
            have HB : Hid (But g w w5) := But.trans HB.out hb
            obtain ⟨d0, d1, d2, d3, d4, d5⟩ := box6_cell hbx
            obtain ⟨f0, f1, f2, f3, f4, f5⟩ := box6_fro hbx
            have hz5 : w.heap.size < w5.heap.size := (Array.getElem?_eq_some_iff.1 hbx).1
            generalize (tAll b 4096 (tEight b) ⟨q3, 0, 0⟩).2 = T at *
            clear hb hbx
            go_wp2
            exact bodyPost_ret (v := .tuple #[.agg #[.string x1, .slice A1 l1.length c1, .int .i64 x3, .slice none 0 0, .slice none 0 0, .slice none 0 0], .iface 161 (.agg #[.int .i64 T.bad, .int .i64 T.place])]) (by simp [results, Tryz.results86, go_sem, d0, d1, d2, d3, d4, d5]) rfl (takesO_no (but_set6 (but_setB HB.out (Nat.le_refl _) _ _) _ _ _ _ _ _) ⟨_, _, _, _, _, _, _, _, _, _, _, _, _, _, rfl⟩ HE.out HG.out)
        · have HE : Hid ((took b).t = (tCount b great ⟨q2, 0, 0⟩).2) := by
            show _ = _
            rw [← P3.out]
            exact fail_dat (by rw [P3.out]; exact hg)
          have HG : Hid _ := hg
          go_wp2_with fail
          refine C3.mono ?_
          intro r w4 hr
          obtain ⟨_, q, rfl, rfl, hin, hb⟩ := hr.err hg
          clear hr C3 hg
          have hbx := but_box hb HX.out (by omega)
          have HB : Hid (But g w w4) := But.trans HB.out hb
          obtain ⟨d0, d1, d2, d3, d4, d5⟩ := box6_cell hbx
          obtain ⟨f0, f1, f2, f3, f4, f5⟩ := box6_fro hbx
          have hz4 : w.heap.size < w4.heap.size := (Array.getElem?_eq_some_iff.1 hbx).1
          generalize (tCount b great ⟨q2, 0, 0⟩).2 = T at *
          clear hb hbx
          go_wp2
          exact bodyPost_ret (v := .tuple #[.agg #[.string x1, .slice A1 l1.length c1, .int .i64 0, .slice none 0 0, .slice none 0 0, .slice none 0 0], .iface 161 (.agg #[.int .i64 T.bad, .int .i64 T.place])]) (by simp [results, Tryz.results86, go_sem, d0, d1, d2, d3, d4, d5]) rfl (takesO_no (but_set6 (but_setB HB.out (Nat.le_refl _) _ _) _ _ _ _ _ _) ⟨_, _, _, _, _, _, _, _, _, _, _, _, _, _, rfl⟩ HE.out HG.out)
      · have HE : Hid ((took b).t = (tAll b 16384 (tFour b) ⟨q1, 0, 0⟩).2) := by
          show _ = _
          rw [← P2.out]
          exact fail_code (by rw [P2.out]; exact hg)
        have HG : Hid _ := hg
        go_wp2_with fail
        refine C2.mono ?_
        intro r w3 hr
        obtain ⟨q, rfl, hin, hb⟩ := hr.err hg
        clear hr C2 hg
        have hbx := but_box hb HX.out (by omega)
        have HB : Hid (But g w w3) := But.trans HB.out hb
        obtain ⟨d0, d1, d2, d3, d4, d5⟩ := box6_cell hbx
        obtain ⟨f0, f1, f2, f3, f4, f5⟩ := box6_fro hbx
        have hz3 : w.heap.size < w3.heap.size := (Array.getElem?_eq_some_iff.1 hbx).1
        generalize (tAll b 16384 (tFour b) ⟨q1, 0, 0⟩).2 = T at *
        clear hb hbx
        go_wp2
        exact bodyPost_ret (v := .tuple #[.agg #[.string x1, .slice none 0 0, .int .i64 0, .slice none 0 0, .slice none 0 0, .slice none 0 0], .iface 161 (.agg #[.int .i64 T.bad, .int .i64 T.place])]) (by simp [results, Tryz.results86, go_sem, d0, d1, d2, d3, d4, d5]) rfl (takesO_no (but_set6 (but_setB HB.out (Nat.le_refl _) _ _) _ _ _ _ _ _) ⟨_, _, _, _, _, _, _, _, _, _, _, _, _, _, rfl⟩ HE.out HG.out)
    · have HE : Hid ((took b).t = (tName b ⟨4, 0, 0⟩).2) := by
        show _ = _
        rw [← P1.out]
        exact fail_name (by rw [P1.out]; exact hg)
      have HG : Hid _ := hg
      go_wp2_with fail
      refine C1.mono ?_
      intro r w2 hr
      obtain ⟨_, q, rfl, rfl, hin, hb⟩ := hr.err hg
      clear hr C1 hg
      have hbx := but_box hb HX.out (by omega)
      have HB : Hid (But g w w2) := But.trans HB.out hb
      obtain ⟨d0, d1, d2, d3, d4, d5⟩ := box6_cell hbx
      obtain ⟨f0, f1, f2, f3, f4, f5⟩ := box6_fro hbx
      have hz2 : w.heap.size < w2.heap.size := (Array.getElem?_eq_some_iff.1 hbx).1
      generalize (tName b ⟨4, 0, 0⟩).2 = T at *
      clear hb hbx
      go_wp2
      exact bodyPost_ret (v := .tuple #[.agg #[.string ⟨#[]⟩, .slice none 0 0, .int .i64 0, .slice none 0 0, .slice none 0 0, .slice none 0 0], .iface 161 (.agg #[.int .i64 T.bad, .int .i64 T.place])]) (by simp [results, Tryz.results86, go_sem, d0, d1, d2, d3, d4, d5]) rfl (takesO_no (but_set6 (but_setB HB.out (Nat.le_refl _) _ _) _ _ _ _ _ _) ⟨_, _, _, _, _, _, _, _, _, _, _, _, _, _, rfl⟩ HE.out HG.out)
  · have HE : Hid _ := fail_begin hg
    have HG : Hid _ := hg
    go_enter Tryz.func86, Tryz.ntmps86
    go_wp2_with fail
    refine C.mono ?_
    intro r w1 hr
    obtain ⟨q, rfl, hin, hb⟩ := hr.err hg
    clear hr C hg
    have hbx := but_box hb hbx1.out (by omega)
    have HB : Hid (But g w w1) := HB1.out.trans hb
    obtain ⟨d0, d1, d2, d3, d4, d5⟩ := box6_cell hbx
    obtain ⟨f0, f1, f2, f3, f4, f5⟩ := box6_fro hbx
    have hz1 : w.heap.size < w1.heap.size := (Array.getElem?_eq_some_iff.1 hbx).1
    generalize tBegin b [80, 76, 79, 49] = T at *
    clear hb hbx
    go_wp2
    exact bodyPost_ret (v := .tuple #[.agg #[.string ⟨#[]⟩, .slice none 0 0, .int .i64 0, .slice none 0 0, .slice none 0 0, .slice none 0 0], .iface 161 (.agg #[.int .i64 T.bad, .int .i64 T.place])]) (by simp [results, Tryz.results86, go_sem, d0, d1, d2, d3, d4, d5]) rfl (takesO_no (but_set6 HB.out _ _ _ _ _ _) ⟨_, _, _, _, _, _, _, _, _, _, _, _, _, _, rfl⟩ HE.out HG.out)


end Go.Proofs.YthpkekpojhmaaaaGreatDoor
