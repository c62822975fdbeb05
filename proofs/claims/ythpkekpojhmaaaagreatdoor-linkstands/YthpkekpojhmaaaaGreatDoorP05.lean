/-
  Write of package wire: what it answers; the lists are at most 2^20 long, words of 32 bits. The program takes the beginning and the end of an input. The program takes the end of an input: the sum, and nothing behind it. The program takes a whole object of an input. Rows of an object as its lists lie in memory; no Go in sight. Read of package wire: what it answers; bytes are at most 2^20. Where the handle of the type error lies as the program's text lays it, its cell holds it; a world that meets this. When an image may be, as plain mathematics; no Go in sight. What coding and aiming words keep; no Go in sight. Rows with blocks of their own, marked and grown: what stays; no Go in sight. A list of objects in memory. What names stand for, as plain mathematics; no Go in sight. What is asked of a list of objects, as plain mathematics; no Go in sight. A list of numbers copied into memory of its own, with marks behind it, by the document's helpers; it is at most 2^20 long. A list of relocations copied into memory of its own, with marks behind it, by the document's helper; it is at most 2^20 long. A list of symbols copied into memory of its own, with marks behind it, by the document's helper; it is at most 2^20 long.
-/
import Derived.Test.YthpkekpojhmaaaaGreatDoorProg
import Derived.WalkKit
import Derived.WalkSpells
import Derived.WalkLawsBesides
import Derived.RowKit3
import Derived.Below
import Derived.Deep.QuietTactic
import Derived.BigQuiet
import Derived.WalkSmall
import Derived.Laws.Rows
import Derived.Test.YthpkekpojhmaaaaGreatDoorP04
import Derived.Test.YthpkekpojhmaaaaGreatDoorP02
import Derived.Test.YthpkekpojhmaaaaGreatDoorP01
import Derived.Test.YthpkekpojhmaaaaGreatDoorRows
import Derived.ChangeSame
import Derived.ChangeVars
import Derived.JoinedOf
import Derived.RowKit
import Derived.RowKitTokens
import Derived.LaidLaws
import Derived.LaidHandle
import Derived.Stop.Joined
import Derived.Deep.AppendLies
import Derived.Laws.OwnMore
import Derived.Laws.MakeOwn
namespace Go.Proofs.YthpkekpojhmaaaaGreatDoor
open Go.RowKit


theorem sum_any (A : Option Addr) (cap : Nat) (b : List Int) (w : World) (hB : IntsAt w A .u8 b) (hA : AreB b) (hN : b.length ≤ 1048576) : Calls Tryz.prog 85 #[.slice A b.length cap] w fun r w' => r = .returned (.int .u32 (sumB b)) ∧ w' = w := by
  go_enter Tryz.func85, Tryz.ntmps85
  go_wp2
  go_loop [8, 3] (fun i s => ∃ k : Nat, i = .int .i64 k ∧ k ≤ b.length ∧ s = .int .u32 (sumB (b.take k))) (fun i _ => b.length - (intOf i).toNat)
  case atStart => exact ⟨0, rfl, by omega, rfl⟩
  case round =>
    obtain ⟨k, rfl, hk, rfl⟩ := hrel
    by_cases hlt : k < b.length
    · obtain ⟨a, rfl, q⟩ := hB k hlt
      have HS : Hid _ := sum_step b k hlt
      have hx : 0 ≤ nth b k ∧ nth b k < 256 := hA _ (by simp [nth, List.getD, hlt])
      generalize nth b k = x at q HS hx
      generalize sumB (b.take k) = s at HS
      go_wp2
      go_round
      case rel => exact ⟨k + 1, by go_num, by omega, by rw [HS.out]; congr 1; omega⟩
      case measure => simp [intOf]; omega
    · obtain rfl : k = b.length := by omega
      go_wp2
      go_ret
      exact ⟨by simp, rfl⟩
/-- A row of bytes, as it lies. -/
theorem own_ints {w : World} {base n : Nat} {v : Value} {l : List Int} (h : w.ownsRow base 5 1 v n (bNews l)) : ∃ A c, v = .slice A l.length c ∧ IntsAt w A .u8 l ∧ l.length ≤ c := by
  have hn : l.length = n := by have := h.1; rw [bNews_len] at this; omega
  rcases h.2 with ⟨rfl, h0⟩ | ⟨g, cap, cur, rfl, hb, hg, hc, _⟩
  · refine ⟨none, 0, by rw [hn, h0], fun i hi => by omega, by omega⟩
  · refine ⟨some ⟨g, 0, none⟩, cap, by rw [hn], fun i hi => ⟨_, rfl, ?_⟩, by omega⟩
    exact h.cells rfl i _ (by simp [bNews, nth, List.getD, hi])
theorem textB_areB (s : ByteArray) : AreB (textB s) := (be4_areB _).app fun x hx => by
  unfold strB at hx
  obtain ⟨c, _, rfl⟩ := List.mem_map.1 hx
  have := c.toNat_lt
  omega
theorem flat_areB {α : Type} (f : α → List Int) (hf : ∀ x, AreB (f x)) (l : List α) : AreB (l.flatMap f) := fun x hx => by
  obtain ⟨y, _, h⟩ := List.mem_flatMap.1 hx
  exact hf y x h
theorem body_areB (nm : ByteArray) (code : List Int) (dA : Int) (data : List Int) (ss : List Sym) (rs : List Rel) : AreB (bodyB nm code dA data ss rs) := by
  unfold bodyB
  refine ((((((((((?_ : AreB [80, 76, 79, 49]).app (textB_areB _)).app (be4_areB _)).app (flat_areB _ be4_areB _)).app (be4_areB _)).app (be4_areB _)).app (flat_areB _ be8_areB _)).app (be4_areB _)).app (flat_areB _ (fun x => ((textB_areB _).app (be4_areB _)).app (be4_areB _)) _)).app (be4_areB _)).app (flat_areB _ (fun x => (be4_areB _).app (be4_areB _)) _)
  intro x hx
  simp at hx
  omega
/-- What Write answers. -/
def WroteP (nm : ByteArray) (code : List Int) (dA : Int) (data : List Int) (ss : List Sym) (rs : List Rel) (w : World) (r : Ending) (w' : World) : Prop :=
  if (checkC nm code dA data.length ss rs).1 = 0 then ∃ v, r = .returned (.tuple #[v, .int .i64 0]) ∧ w'.ownsRow w.heap.size 5 1 v (bytesB nm code dA data ss rs).length (bNews (bytesB nm code dA data ss rs)) ∧ Below w.heap.size w w'
  else r = .returned (.tuple #[.slice none 0 0, .int .i64 (checkC nm code dA data.length ss rs).1]) ∧ Below w.heap.size w w'
theorem ownsRow_mono {w : World} {b b' : Nat} {e : TypeId} {k n : Nat} {v : Value} {xs : List Value} (h : w.ownsRow b e k v n xs) (hb : b' ≤ b) : w.ownsRow b' e k v n xs := by
  refine ⟨h.1, ?_⟩
  rcases h.2 with h0 | ⟨g, cap, cur, hv, hg, r⟩
  · exact Or.inl h0
  · exact Or.inr ⟨g, cap, cur, hv, Nat.le_trans hb hg, r⟩
set_option maxRecDepth 100000 in
set_option maxHeartbeats 1000000 in
theorem write_any (nm : ByteArray) (dA : Int) (A1 A2 A3 A4 : Option Addr) (c1 c2 c3 c4 : Nat) (code data : List Int) (ss : List Sym) (rs : List Rel) (w : World)
    (hC : IntsAt w A1 .u32 code) (hD : IntsAt w A2 .i64 data) (hS : SymsAt w A3 ss) (hL : RelsAt w A4 rs) (hR : ∀ i, i < code.length → 0 ≤ nth code i ∧ nth code i < 4294967296) (hc : code.length ≤ 1048576) (hd : data.length ≤ 1048576) (hs : ss.length ≤ 1048576) (hl : rs.length ≤ 1048576) (hN : ∀ i, (sName ss i).size ≤ 140737488355328) (hA : -9223372036854775808 ≤ dA ∧ dA ≤ 9223372036854775807) :
    Calls Tryz.prog 28 #[.agg #[.string nm, .slice A1 code.length c1, .int .i64 dA, .slice A2 data.length c2, .slice A3 ss.length c3, .slice A4 rs.length c4]] w (WroteP nm code dA data ss rs w) := by
  have hB := lb_alloc (Below.refl w.heap.size w) (.cells #[.string nm, .slice A1 code.length c1, .int .i64 dA, .slice A2 data.length c2, .slice A3 ss.length c3, .slice A4 rs.length c4] 75)
  have C := fun (wx : World) (hb : Below w.heap.size w wx) => objcheck_any nm dA A1 A2 A3 A4 c1 data.length c2 c3 c4 code ss rs wx (hC.keep hb) (hS.keep hb) (hL.keep hb) hR hc hd hs hl hN hA
  have hbx : Hid ((w.alloc (.cells #[.string nm, .slice A1 code.length c1, .int .i64 dA, .slice A2 data.length c2, .slice A3 ss.length c3, .slice A4 rs.length c4] 75)).heap[w.heap.size]? = some (.cells #[.string nm, .slice A1 code.length c1, .int .i64 dA, .slice A2 data.length c2, .slice A3 ss.length c3, .slice A4 rs.length c4] 75 (0, 0))) := heap_alloc_new _ _
  by_cases h0 : (checkC nm code dA data.length ss rs).1 = 0
  · have hm := check_may h0
    have hf := may_fit hm
    have h5 := syms_size ss (syms_mem fun i hi => (hf.sym i hi).1)
    obtain ⟨p1, p2, p3, p4, p5, p6⟩ := part_lens nm code dA data ss rs
    have hlen : (bodyB nm code dA data ss rs).length ≤ 300000 := by
      have := hf.hnm; have := hf.hcode; have := hf.hdata; have := hf.hsyms; have := hf.hrels
      omega
    have hk : ∀ i, i < ss.length → 0 ≤ sKind ss i ∧ sKind ss i < 128 := fun i hi => by have := hf.sym i hi; omega
    have hareB := body_areB nm code dA data ss rs
    have hsum := sum_range (bodyB nm code dA data ss rs)
    have HP : Hid (∀ r w', WroteP nm code dA data ss rs w r w' = (∃ v, r = .returned (.tuple #[v, .int .i64 0]) ∧ w'.ownsRow w.heap.size 5 1 v (bytesB nm code dA data ss rs).length (bNews (bytesB nm code dA data ss rs)) ∧ Below w.heap.size w w')) := fun r w' => by unfold WroteP; rw [if_pos h0]
    rw [h0] at C
    clear p1 p2 p3 p4 p5 p6 h5 hm
    generalize (checkC nm code dA data.length ss rs).2 = q at C
    have H0 : Hid _ := h0
    clear h0
    have HW : Hid _ := hB
    go_enter Tryz.func28, Tryz.ntmps28
    go_wp2_with fail
    refine (C _ HW.out).mono ?_
    rintro e w1 ⟨rfl, h1⟩
    have hb1 : Hid (Below w.heap.size w w1) := lb_trans HW.out h1
    have hx1 : Hid (w1.heap[w.heap.size]? = _) := (h1.block w.heap.size (by simp)).trans hbx.out
    obtain ⟨d0, d1, d2, d3, d4, d5⟩ := box6_cell hx1.out
    have hz1 : w.heap.size < w1.heap.size := by have := h1.size; simp at this; omega
    clear h1
    have hgb : Hid (Below w1.heap.size w1 (w1.alloc (.cells #[.slice none 0 0] 149))) := lb_alloc (Below.refl _ _) _
    have hgv : Hid ((w1.alloc (.cells #[.slice none 0 0] 149)).heap[w1.heap.size]? = some (.cells #[.slice none 0 0] 149 (0, 0))) := heap_alloc_new _ _
    go_wp2_with fail
    refine (wObject w1.heap.size nm dA A1 A2 A3 A4 c1 c2 c3 c4 code data ss rs w _ hC hD hS hL hR hk (lb_trans hb1.out hgb.out) (by omega) (by omega) hs hgv.out).mono ?_
    rintro e w2 ⟨rfl, h2, t2⟩
    have t2 : Hid _ := t2
    have h2 : OutAt w2 w1.heap.size (bodyB nm code dA data ss rs) := h2
    have hg2 := h2.lt
    obtain ⟨v, hv, hr⟩ := h2
    have HO : Hid (OutAt w2 w1.heap.size (bodyB nm code dA data ss rs)) := ⟨v, hv, hr⟩
    obtain ⟨A', c', rfl, hI, hcap⟩ := own_ints hr
    have hcell := (box_cell hv).1
    have hfro := (box_cell hv).2
    clear hv hr
    go_wp2_with fail
    refine (sum_any A' c' (bodyB nm code dA data ss rs) _ hI hareB (by omega)).mono ?_
    rintro e w3 ⟨rfl, rfl⟩
    go_wp2_with fail
    refine (wNumber w1.heap.size (bodyB nm code dA data ss rs) _ hsum.1 hsum.2 (by omega) _ HO.out).mono ?_
    rintro e w3 ⟨rfl, h3, t3⟩
    have t3 : Hid _ := t3
    have h3 : OutAt w3 w1.heap.size (bytesB nm code dA data ss rs) := h3
    obtain ⟨v, hv, hr⟩ := h3
    obtain ⟨A2', c2', rfl, hI2, hcap2⟩ := own_ints hr
    have hcell2 := (box_cell hv).1
    have HR : Hid _ := hr
    clear hv hr
    go_wp2
    go_ret2
    rw [HP.out]
    refine ⟨_, rfl, ownsRow_mono HR.out (by omega), ?_⟩
    have q1 := (OutTo.of (g := w1.heap.size) hgb.out).trans (t2.out.trans t3.out)
    exact hb1.out.trans ⟨q1.os, q1.tape, q1.output, q1.size, fun k hk => q1.block k (by omega) (by omega) (Or.inl (by omega))⟩
  · have HP : Hid (∀ r w', WroteP nm code dA data ss rs w r w' = (r = .returned (.tuple #[.slice none 0 0, .int .i64 (checkC nm code dA data.length ss rs).1]) ∧ Below w.heap.size w w')) := fun r w' => by unfold WroteP; rw [if_neg h0]
    have h0b : ((checkC nm code dA data.length ss rs).1 != 0) = true := by simpa using h0
    generalize (checkC nm code dA data.length ss rs).1 = E at C h0b HP
    generalize (checkC nm code dA data.length ss rs).2 = q at C
    clear h0
    have HW : Hid _ := hB
    go_enter Tryz.func28, Tryz.ntmps28
    go_wp2_with fail
    refine (C _ HW.out).mono ?_
    rintro e w1 ⟨rfl, h1⟩
    have hb1 : Hid (Below w.heap.size w w1) := lb_trans HW.out h1
    clear h1
    go_wp2
    go_ret2
    rw [HP.out]
    exact ⟨rfl, hb1.out⟩


end Go.Proofs.YthpkekpojhmaaaaGreatDoor

namespace Go.Proofs.YthpkekpojhmaaaaGreatDoor
open Go.RowKit


def begL : List Int := [80, 76, 79, 49]
theorem begin_at {b : List Int} {i : Nat} (hi : i < 4) (h : ∀ j, j < i → j < b.length ∧ nth b j = nth begL j) (hn : b.length ≤ i ∨ ¬ nth b i = nth begL i) : tBegin b [80, 76, 79, 49] = ⟨4, 27, i⟩ := by
  have e : (List.range ([80, 76, 79, 49] : List Int).length).find? (fun i => decide (b.length ≤ i) || nth b i != nth [80, 76, 79, 49] i) = some i := by
    rw [List.find?_range_eq_some]
    refine ⟨?_, by simpa using hi, fun j hj => ?_⟩
    · rcases hn with hn | hn
      · simp [hn]
      · simp [show nth [80, 76, 79, 49] i = nth begL i from rfl, hn]
    · obtain ⟨h1, h2⟩ := h j hj
      simp [h1, h2, show nth [80, 76, 79, 49] j = nth begL j from rfl]
  unfold tBegin
  rw [e]
  rfl
theorem begin_all {b : List Int} (h : ∀ j, j < 4 → j < b.length ∧ nth b j = nth begL j) : tBegin b [80, 76, 79, 49] = ⟨4, 0, 0⟩ := by
  have e : (List.range ([80, 76, 79, 49] : List Int).length).find? (fun i => decide (b.length ≤ i) || nth b i != nth [80, 76, 79, 49] i) = none := by
    rw [List.find?_eq_none]
    intro j hj
    obtain ⟨h1, h2⟩ := h j (by simpa using hj)
    simp [h1, h2, show nth [80, 76, 79, 49] j = nth begL j from rfl]
  unfold tBegin
  rw [e]
  rfl
theorem begin_good {b : List Int} (h : (tBegin b [80, 76, 79, 49]).bad = 0) : tBegin b [80, 76, 79, 49] = ⟨4, 0, 0⟩ := by
  unfold tBegin at h ⊢
  split at h
  · cases h
  · rfl
theorem bne_of {x y : Int} (h : ¬ x = y) : (x != y) = true := by simpa using h
/-- What a taker that tells an error alone answers. -/
def TakesE (w0 : World) (g : Nat) (A : Option Addr) (c : Nat) (b : List Int) (t : Tk) (w : World) (r : Ending) (w' : World) : Prop :=
  But g w w' ∧ ((t.bad = 0 ∧ r = .returned .nilIface ∧ InBy w0 g A c b t.pos w') ∨ (¬ t.bad = 0 ∧ r = .returned (errV t.bad t.place) ∧ ∃ p, InBy w0 g A c b p w'))
theorem takesE_yes {w0 : World} {g : Nat} {A : Option Addr} {c : Nat} {b : List Int} {t : Tk} {w w' : World} {q : Nat} (hb : But g w w') (h : t = ⟨q, 0, 0⟩) (hi : InBy w0 g A c b q w') : TakesE w0 g A c b t w (.returned .nilIface) w' := by
  subst h
  exact ⟨hb, Or.inl ⟨rfl, rfl, hi⟩⟩
theorem takesE_no {w0 : World} {g : Nat} {A : Option Addr} {c : Nat} {b : List Int} {t : Tk} {w w' : World} {x y : Int} {p q : Nat} (hb : But g w w') (h : t = ⟨q, x, y⟩) (hx : ¬ x = 0) (hi : InBy w0 g A c b p w') : TakesE w0 g A c b t w (.returned (.iface 161 (.agg #[.int .i64 x, .int .i64 y]))) w' := by
  subst h
  exact ⟨hb, Or.inr ⟨hx, rfl, p, hi⟩⟩
theorem TakesE.ok {w0 : World} {g : Nat} {A : Option Addr} {c : Nat} {b : List Int} {t : Tk} {w w' : World} {r : Ending} (h : TakesE w0 g A c b t w r w') (e : t.bad = 0) : r = .returned .nilIface ∧ InBy w0 g A c b t.pos w' ∧ But g w w' := by
  obtain ⟨hb, ⟨_, h1, h2⟩ | ⟨h0, _⟩⟩ := h
  · exact ⟨h1, h2, hb⟩
  · exact absurd e h0
theorem TakesE.err {w0 : World} {g : Nat} {A : Option Addr} {c : Nat} {b : List Int} {t : Tk} {w w' : World} {r : Ending} (h : TakesE w0 g A c b t w r w') (e : ¬ t.bad = 0) : ∃ p, r = .returned (.iface 161 (.agg #[.int .i64 t.bad, .int .i64 t.place])) ∧ InBy w0 g A c b p w' ∧ But g w w' := by
  obtain ⟨hb, ⟨h0, _⟩ | ⟨_, h1, p, h2⟩⟩ := h
  · exact absurd h0 e
  · exact ⟨p, h1, h2, hb⟩
set_option maxRecDepth 100000 in
set_option maxHeartbeats 1000000 in
theorem beginning_any (w0 : World) (g : Nat) (A : Option Addr) (c : Nat) (b : List Int) (w : World) (h : InBy w0 g A c b 0 w) :
    Calls Tryz.prog 126 #[.pointer (some ⟨g, 0, none⟩)] w (TakesE w0 g A c b (tBegin b [80, 76, 79, 49]) w) := by
  have HI : Hid _ := h
  clear h
  go_enter Tryz.func126, Tryz.ntmps126
  go_wp2
  go_loopw [6] (fun i wr => ∃ k : Nat, i = .int .i64 k ∧ k ≤ 4 ∧ (∀ j, j < k → j < b.length ∧ nth b j = nth begL j) ∧ InBy w0 g A c b k wr ∧ But g w wr) (fun i _ => 4 - (intOf i).toNat)
  case atStart => exact ⟨0, rfl, by omega, fun j hj => by omega, HI.out, But.refl _ _⟩
  case round =>
    obtain ⟨k, rfl, hk, hall, hin, hbut⟩ := hrel
    have HB : Hid (But g w wr) := hbut
    have HA : Hid _ := hall
    clear hbut hall HI
    by_cases hk4 : k = 4
    · subst hk4
      go_wp2
      go_ret
      exact takesE_yes HB.out (begin_all HA.out) hin
    · by_cases hlt : k < b.length
      · have C := next_ok w0 g A c b k wr hin hlt
        by_cases hx : nth b k = nth begL k
        · have HA2 : Hid (∀ j, j < k + 1 → j < b.length ∧ nth b j = nth begL j) := fun j hj => by
            by_cases e : j = k
            · subst e; exact ⟨hlt, hx⟩
            · exact HA.out j (by omega)
          rw [hx] at C
          clear hx
          have h4 : k = 0 ∨ k = 1 ∨ k = 2 ∨ k = 3 := by omega
          rcases h4 with rfl | rfl | rfl | rfl
          · simp only [begL, nth, List.getD_cons_zero] at C
            go_wp2_with (go_at_call 164; refine C.mono ?_; rintro e w1 ⟨rfl, hin1, hb1⟩)
            exact ⟨⟨1, rfl, by omega, HA2.out, hin1, HB.out.trans hb1⟩, by simp [intOf]⟩
          · simp only [begL, nth, List.getD_cons_zero, List.getD_cons_succ] at C
            go_wp2_with (go_at_call 164; refine C.mono ?_; rintro e w1 ⟨rfl, hin1, hb1⟩)
            exact ⟨⟨2, rfl, by omega, HA2.out, hin1, HB.out.trans hb1⟩, by simp [intOf]⟩
          · simp only [begL, nth, List.getD_cons_zero, List.getD_cons_succ] at C
            go_wp2_with (go_at_call 164; refine C.mono ?_; rintro e w1 ⟨rfl, hin1, hb1⟩)
            exact ⟨⟨3, rfl, by omega, HA2.out, hin1, HB.out.trans hb1⟩, by simp [intOf]⟩
          · simp only [begL, nth, List.getD_cons_zero, List.getD_cons_succ] at C
            go_wp2_with (go_at_call 164; refine C.mono ?_; rintro e w1 ⟨rfl, hin1, hb1⟩)
            exact ⟨⟨4, rfl, by omega, HA2.out, hin1, HB.out.trans hb1⟩, by simp [intOf]⟩
        · have HN : Hid _ := begin_at (by omega) HA.out (Or.inr hx)
          have hx0 := (hin.byte hlt)
          obtain ⟨a, e, q, hx0, hx1⟩ := hx0
          clear q e
          generalize nth b k = x at *
          have h4 : k = 0 ∨ k = 1 ∨ k = 2 ∨ k = 3 := by omega
          rcases h4 with rfl | rfl | rfl | rfl
          · have hxb : (x != (((⟨#[80, 76, 79, 49]⟩ : ByteArray)[0]).toNat : Int)) = true := bne_of hx
            clear hx
            go_wp2_with (go_at_call 164; refine C.mono ?_; rintro e w1 ⟨rfl, hin1, hb1⟩)
            go_ret
            exact takesE_no (HB.out.trans hb1) HN.out (by omega) hin1
          · have hxb : (x != (((⟨#[80, 76, 79, 49]⟩ : ByteArray)[1]).toNat : Int)) = true := bne_of hx
            clear hx
            go_wp2_with (go_at_call 164; refine C.mono ?_; rintro e w1 ⟨rfl, hin1, hb1⟩)
            go_ret
            exact takesE_no (HB.out.trans hb1) HN.out (by omega) hin1
          · have hxb : (x != (((⟨#[80, 76, 79, 49]⟩ : ByteArray)[2]).toNat : Int)) = true := bne_of hx
            clear hx
            go_wp2_with (go_at_call 164; refine C.mono ?_; rintro e w1 ⟨rfl, hin1, hb1⟩)
            go_ret
            exact takesE_no (HB.out.trans hb1) HN.out (by omega) hin1
          · have hxb : (x != (((⟨#[80, 76, 79, 49]⟩ : ByteArray)[3]).toNat : Int)) = true := bne_of hx
            clear hx
            go_wp2_with (go_at_call 164; refine C.mono ?_; rintro e w1 ⟨rfl, hin1, hb1⟩)
            go_ret
            exact takesE_no (HB.out.trans hb1) HN.out (by omega) hin1
      · have C := next_end w0 g A c b k wr hin (by have := hin.pos; omega)
        unfold errV at C
        have hke : k = b.length := by have := hin.pos; omega
        have HN : Hid _ := begin_at (by omega) HA.out (Or.inl (by omega))
        go_wp2_with (go_at_call 164; refine C.mono ?_; rintro e w1 ⟨rfl, hin1, hb1⟩)
        go_ret
        exact takesE_no (HB.out.trans hb1) (by rw [HN.out, hke]) (by omega) hin1


end Go.Proofs.YthpkekpojhmaaaaGreatDoor

namespace Go.Proofs.YthpkekpojhmaaaaGreatDoor
open Go.RowKit


theorem end_a {b : List Int} {p : Nat} (h : ¬ p + 4 ≤ b.length) : tEnd b ⟨p, 0, 0⟩ = ⟨p, 27, b.length⟩ := by
  unfold tEnd
  rw [four_no h, if_neg (by simp)]
theorem end_b {b : List Int} {p : Nat} (h : p + 4 < b.length) : tEnd b ⟨p, 0, 0⟩ = ⟨p + 4, 27, p + 4⟩ := by
  unfold tEnd
  rw [four_yes (by omega), if_pos rfl, if_pos h]
theorem end_c {b : List Int} {p : Nat} (h : p + 4 = b.length) (hs : ¬ v4 (b.drop p) = sumB (b.take p)) : tEnd b ⟨p, 0, 0⟩ = ⟨p + 4, 28, p⟩ := by
  unfold tEnd
  rw [four_yes (by omega), if_pos rfl, if_neg (by simp; omega), if_neg hs]
theorem end_d {b : List Int} {p : Nat} (h : p + 4 = b.length) (hs : v4 (b.drop p) = sumB (b.take p)) : tEnd b ⟨p, 0, 0⟩ = ⟨p + 4, 0, 0⟩ := by
  unfold tEnd
  rw [four_yes (by omega), if_pos rfl, if_neg (by simp; omega), if_pos hs]
theorem HB_drew {g : Nat} {w w1 : World} (h : But g w w1) (n : Nat) : But g w (w1.drewN n) := h
theorem ints_take {w : World} {A : Option Addr} {K : IntKind} {zs : List Int} (h : IntsAt w A K zs) (n : Nat) : IntsAt w A K (zs.take n) := fun i hi => by
  rw [List.length_take] at hi
  obtain ⟨a, e, q⟩ := h i (by omega)
  refine ⟨a, e, ?_⟩
  rw [q]
  simp [nth, List.getD, show i < n by omega]
set_option maxRecDepth 100000 in
set_option maxHeartbeats 1000000 in
theorem rend_any (w0 : World) (g : Nat) (A : Option Addr) (c : Nat) (b : List Int) (p : Nat) (w : World) (h : InBy w0 g A c b p w) :
    Calls Tryz.prog 137 #[.pointer (some ⟨g, 0, none⟩)] w (TakesE w0 g A c b (tEnd b ⟨p, 0, 0⟩) w) := by
  obtain ⟨c0, c1, f1⟩ := h.cells
  have C := take4_any w0 g A c b p w h
  have hl := h.len
  have hcap := h.cap
  by_cases hp : p + 4 ≤ b.length
  · rw [four_yes hp] at C
    by_cases hb : p + 4 < b.length
    · have HN : Hid _ := end_b hb
      have hbd : decide (((p + 4 : Nat) : Int) < (b.length : Int)) = true := decide_eq_true (by omega)
      go_enter Tryz.func137, Tryz.ntmps137
      go_wp2_with fail
      refine C.mono ?_
      intro r w1 hr
      obtain ⟨rfl, hi, hb1⟩ := hr.ok rfl
      clear hr C
      obtain ⟨d0, d1, _⟩ := hi.cells
      simp only at d0 d1
      go_wp2_with fail
      go_quiet (fail)
      go_wp2
      go_ret
      exact takesE_no ((HB_drew hb1 _)) (by rw [HN.out]) (by omega) (hi.drewN _)
    · have hpe : p + 4 = b.length := by omega
      have hbd : decide (((p + 4 : Nat) : Int) < (b.length : Int)) = false := decide_eq_false (by omega)
      have hlt : (b.take p).length = p := by simp; omega
      have CS := fun wx (hb : Below w0.heap.size w0 wx) => sum_any A c (b.take p) wx (ints_take (h.ints.keep hb) p) (h.areB.take p) (by omega)
      rw [hlt] at CS
      by_cases hs : v4 (b.drop p) = sumB (b.take p)
      · have HN : Hid _ := end_d hpe hs
        rw [hs] at C
        clear hs
        generalize sumB (b.take p) = S at *
        go_enter Tryz.func137, Tryz.ntmps137
        go_wp2_with fail
        refine C.mono ?_
        intro r w1 hr
        obtain ⟨rfl, hi, hb1⟩ := hr.ok rfl
        clear hr C
        obtain ⟨d0, d1, _⟩ := hi.cells
        simp only at d0 d1
        go_wp2_with fail
        go_quiet (fail)
        have hi2 := hi.drewN nq
        go_wp2_with (go_at_call 85; refine (CS _ hi2.below).mono ?_; rintro e w2 ⟨rfl, rfl⟩)
        go_ret
        exact takesE_yes ((HB_drew hb1 _)) (by rw [HN.out]) (hi.drewN _)
      · have HN : Hid _ := end_c hpe hs
        have hsb := bne_of hs
        clear hs
        generalize sumB (b.take p) = S at *
        generalize v4 (b.drop p) = V at *
        go_enter Tryz.func137, Tryz.ntmps137
        go_wp2_with fail
        refine C.mono ?_
        intro r w1 hr
        obtain ⟨rfl, hi, hb1⟩ := hr.ok rfl
        clear hr C
        obtain ⟨d0, d1, _⟩ := hi.cells
        simp only at d0 d1
        go_wp2_with fail
        go_quiet (fail)
        have hi2 := hi.drewN nq
        go_wp2_with (go_at_call 85; refine (CS _ hi2.below).mono ?_; rintro e w2 ⟨rfl, rfl⟩)
        go_ret
        exact takesE_no ((HB_drew hb1 _)) (by rw [HN.out]) (by omega) (hi.drewN _)
  · rw [four_no hp] at C
    have HN : Hid _ := end_a hp
    go_enter Tryz.func137, Tryz.ntmps137
    go_wp2_with fail
    refine C.mono ?_
    intro r w1 hr
    obtain ⟨_, q, rfl, rfl, hi, hb1⟩ := hr.err (by simp)
    clear hr C
    go_wp2
    go_ret
    exact takesE_no hb1 HN.out (by omega) hi


end Go.Proofs.YthpkekpojhmaaaaGreatDoor

namespace Go.Proofs.YthpkekpojhmaaaaGreatDoor
open Go.RowKit


theorem all_stick {α : Type} {b : List Int} {m : Int} {f : Tk → α × Tk} {t : Tk} (h : ¬ t.bad = 0) : (tAll b m f t).2 = t := by
  unfold tAll
  rw [count_stick h]
  rfl
theorem count_stick2 {b : List Int} {m : Int} {t : Tk} (h : ¬ t.bad = 0) : (tCount b m t).2 = t := by rw [count_stick h]
theorem end_stick {b : List Int} {t : Tk} (h : ¬ t.bad = 0) : tEnd b t = t := by
  unfold tEnd
  rw [four_stick h, if_neg h]
theorem own_form {w : World} {b n : Nat} {e : TypeId} {sz : Nat} {v : Value} {xs : List Value} (h : w.ownsRow b e sz v n xs) : ∃ A c, v = .slice A n c := by
  rcases h.2 with ⟨rfl, rfl⟩ | ⟨g, cap, cur, rfl, _⟩
  · exact ⟨_, _, rfl⟩
  · exact ⟨_, _, rfl⟩
/-- An object's four lists, each in memory of its own. -/
structure RowsO (w : World) (base : Nat) (A1 A2 A3 A4 : Option Addr) (c1 c2 c3 c4 : Nat) (code data : List Int) (ss : List Sym) (rs : List Rel) : Prop where
  r1 : w.ownsRow base 78 1 (.slice A1 code.length c1) code.length (iVals .u32 code)
  r2 : w.ownsRow base 2 1 (.slice A2 data.length c2) data.length (iVals .i64 data)
  r3 : w.ownsRow base 131 3 (.slice A3 ss.length c3) ss.length (sVals ss)
  r4 : w.ownsRow base 83 2 (.slice A4 rs.length c4) rs.length (rVals rs)
/-- An object that is not looked at. -/
def IsObj (u : Value) : Prop := ∃ (x : ByteArray) (A1 A2 A3 A4 : Option Addr) (n1 n2 n3 n4 c1 c2 c3 c4 : Nat) (y : Int), u = .agg #[.string x, .slice A1 n1 c1, .int .i64 y, .slice A2 n2 c2, .slice A3 n3 c3, .slice A4 n4 c4]
/-- What taking an object answers. -/
def TakesO (g : Nat) (b : List Int) (w : World) (r : Ending) (w' : World) : Prop :=
  But g w w' ∧ (((took b).t.bad = 0 ∧ ∃ (A1 A2 A3 A4 : Option Addr) (c1 c2 c3 c4 : Nat), r = .returned (.tuple #[.agg #[.string (took b).nm, .slice A1 (took b).code.length c1, .int .i64 (took b).dA, .slice A2 (took b).data.length c2, .slice A3 (took b).ss.length c3, .slice A4 (took b).rs.length c4], .nilIface]) ∧ RowsO w' w.heap.size A1 A2 A3 A4 c1 c2 c3 c4 (took b).code (took b).data (took b).ss (took b).rs) ∨
    (¬ (took b).t.bad = 0 ∧ ∃ u, IsObj u ∧ r = .returned (.tuple #[u, .iface 161 (.agg #[.int .i64 (took b).t.bad, .int .i64 (took b).t.place])])))
theorem takesO_no {g : Nat} {b : List Int} {w w' : World} {u : Value} {T : Tk} (hb : But g w w') (hu : IsObj u) (e : (took b).t = T) (h : ¬ T.bad = 0) : TakesO g b w (.returned (.tuple #[u, .iface 161 (.agg #[.int .i64 T.bad, .int .i64 T.place])])) w' := by
  subst e
  exact ⟨hb, Or.inr ⟨h, u, hu, rfl⟩⟩
theorem takesO_yes {g : Nat} {b : List Int} {w w' : World} {nm : ByteArray} {code data : List Int} {dA : Int} {ss : List Sym} {rs : List Rel} {A1 A2 A3 A4 : Option Addr} {c1 c2 c3 c4 q : Nat} (hb : But g w w') (e : took b = ⟨nm, code, dA, data, ss, rs, ⟨q, 0, 0⟩⟩) (h : RowsO w' w.heap.size A1 A2 A3 A4 c1 c2 c3 c4 code data ss rs) : TakesO g b w (.returned (.tuple #[.agg #[.string nm, .slice A1 code.length c1, .int .i64 dA, .slice A2 data.length c2, .slice A3 ss.length c3, .slice A4 rs.length c4], .nilIface])) w' := by
  unfold TakesO
  rw [e]
  exact ⟨hb, Or.inl ⟨rfl, A1, A2, A3, A4, c1, c2, c3, c4, rfl, h⟩⟩
theorem box6_fro {w : World} {B : Nat} {cs : Array Value} {t : TypeId} (h : w.heap[B]? = some (.cells cs t (0, 0))) : w.frozen? ⟨B, 0, none⟩ = false ∧ w.frozen? ⟨B, 1, none⟩ = false ∧ w.frozen? ⟨B, 2, none⟩ = false ∧ w.frozen? ⟨B, 3, none⟩ = false ∧ w.frozen? ⟨B, 4, none⟩ = false ∧ w.frozen? ⟨B, 5, none⟩ = false :=
  ⟨box_fro h _, box_fro h _, box_fro h _, box_fro h _, box_fro h _, box_fro h _⟩
theorem but_set6 {w w1 : World} {g : Nat} (h : But g w w1) (x0 x1 x2 x3 x4 x5 : Value) : But g w ((((((w1.setCell ⟨w.heap.size, 0, none⟩ x0).setCell ⟨w.heap.size, 1, none⟩ x1).setCell ⟨w.heap.size, 2, none⟩ x2).setCell ⟨w.heap.size, 3, none⟩ x3).setCell ⟨w.heap.size, 4, none⟩ x4).setCell ⟨w.heap.size, 5, none⟩ x5) :=
  but_setB (but_setB (but_setB (but_setB (but_setB (but_setB h (Nat.le_refl _) _ _) (Nat.le_refl _) _ _) (Nat.le_refl _) _ _) (Nat.le_refl _) _ _) (Nat.le_refl _) _ _) (Nat.le_refl _) _ _
theorem row_set6 {w1 : World} {B base n : Nat} {e : TypeId} {sz : Nat} {v : Value} {xs : List Value} (h : w1.ownsRow base e sz v n xs) (hB : B < base) (x0 x1 x2 x3 x4 x5 : Value) : ((((((w1.setCell ⟨B, 0, none⟩ x0).setCell ⟨B, 1, none⟩ x1).setCell ⟨B, 2, none⟩ x2).setCell ⟨B, 3, none⟩ x3).setCell ⟨B, 4, none⟩ x4).setCell ⟨B, 5, none⟩ x5).ownsRow base e sz v n xs :=
  ownsRow_setCell_below (ownsRow_setCell_below (ownsRow_setCell_below (ownsRow_setCell_below (ownsRow_setCell_below (ownsRow_setCell_below h hB _) hB _) hB _) hB _) hB _) hB _

theorem end_good {b : List Int} {p : Nat} (h : (tEnd b ⟨p, 0, 0⟩).bad = 0) : tEnd b ⟨p, 0, 0⟩ = ⟨(tEnd b ⟨p, 0, 0⟩).pos, 0, 0⟩ := by
  by_cases h1 : p + 4 ≤ b.length
  · by_cases h2 : p + 4 < b.length
    · rw [end_b h2] at h; cases h
    · by_cases h3 : v4 (b.drop p) = sumB (b.take p)
      · rw [end_d (by omega) h3]
      · rw [end_c (by omega) h3] at h; cases h
  · rw [end_a h1] at h; cases h
theorem fail_rels {b : List Int} (h : ¬ (tRels b).2.bad = 0) : (took b).t = (tRels b).2 := end_stick h
theorem fail_syms {b : List Int} (h : ¬ (tSyms b).2.bad = 0) : (took b).t = (tSyms b).2 := by
  have e : (tRels b).2 = (tSyms b).2 := all_stick (f := tRel b) (m := (tCode b).1.length) h
  rw [fail_rels (by rw [e]; exact h), e]
theorem fail_data {b : List Int} (h : ¬ (tData b).2.bad = 0) : (took b).t = (tData b).2 := by
  have e : (tSyms b).2 = (tData b).2 := all_stick (f := tSym b) (m := 256) h
  rw [fail_syms (by rw [e]; exact h), e]
theorem fail_dat {b : List Int} (h : ¬ (tDat b).2.bad = 0) : (took b).t = (tDat b).2 := by
  have e : (tData b).2 = (tDat b).2 := all_stick (f := tEight b) (m := 4096) h
  rw [fail_data (by rw [e]; exact h), e]
theorem fail_code {b : List Int} (h : ¬ (tCode b).2.bad = 0) : (took b).t = (tCode b).2 := by
  have e : (tDat b).2 = (tCode b).2 := count_stick2 h
  rw [fail_dat (by rw [e]; exact h), e]
theorem fail_name {b : List Int} (h : ¬ (tName b (tBegin b [80, 76, 79, 49])).2.bad = 0) : (took b).t = (tName b (tBegin b [80, 76, 79, 49])).2 := by
  have e : (tCode b).2 = (tName b (tBegin b [80, 76, 79, 49])).2 := all_stick (f := tFour b) (m := 16384) h
  rw [fail_code (by rw [e]; exact h), e]
theorem fail_begin {b : List Int} (h : ¬ (tBegin b [80, 76, 79, 49]).bad = 0) : (took b).t = tBegin b [80, 76, 79, 49] := by
  have e : (tName b (tBegin b [80, 76, 79, 49])).2 = tBegin b [80, 76, 79, 49] := name_stick h
  rw [fail_name (by rw [e]; exact h), e]

theorem all_len {α : Type} {b : List Int} {m : Nat} {f : Tk → α × Tk} {p : Nat} (hb : AreB b) (h : (tAll b (m : Int) f ⟨p, 0, 0⟩).2.bad = 0) : (tAll b (m : Int) f ⟨p, 0, 0⟩).1.length ≤ m := by
  by_cases hg : (tCount b m ⟨p, 0, 0⟩).2.bad = 0
  · have := (count_range hb hg).2
    have hl : ∀ (n : Nat) (t : Tk), (tList f n t).1.length ≤ n := by
      intro n
      induction n with
      | zero => intro t; simp [tList]
      | succ n ih =>
        intro t
        rw [tList]
        split
        · have := ih (f t).2
          simp
          omega
        · simp
    have h2 := hl (tCount b m ⟨p, 0, 0⟩).1.toNat (tCount b m ⟨p, 0, 0⟩).2
    unfold tAll
    omega
  · rw [all_bad hg] at h
    exact absurd h hg
set_option maxRecDepth 100000 in
set_option maxHeartbeats 8000000 in
theorem robject_any (w0 : World) (g : Nat) (A : Option Addr) (c : Nat) (b : List Int) (w : World) (h : InBy w0 g A c b 0 w) :
    Calls Tryz.prog 86 #[.pointer (some ⟨g, 0, none⟩)] w (TakesO g b w) := by
  have hgw := h.lt
  have hle := h.below.size
  have hab := h.areB
  have hin1 := h.keep (lb_alloc (Below.refl _ _) (.cells #[.string ⟨#[]⟩, .slice none 0 0, .int .i64 0, .slice none 0 0, .slice none 0 0, .slice none 0 0] 75))
  have hbx1 : Hid ((w.alloc (.cells #[.string ⟨#[]⟩, .slice none 0 0, .int .i64 0, .slice none 0 0, .slice none 0 0, .slice none 0 0] 75)).heap[w.heap.size]? = some (.cells #[.string ⟨#[]⟩, .slice none 0 0, .int .i64 0, .slice none 0 0, .slice none 0 0, .slice none 0 0] 75 (0, 0))) := heap_alloc_new _ _
  have HB1 : Hid (But g w (w.alloc (.cells #[.string ⟨#[]⟩, .slice none 0 0, .int .i64 0, .slice none 0 0, .slice none 0 0, .slice none 0 0] 75))) := But.of (lb_alloc (Below.refl _ _) _)
  have C := beginning_any w0 g A c b _ hin1
  clear h hin1
  by_cases hg : (tBegin b [80, 76, 79, 49]).bad = 0
  · have et : tBegin b [80, 76, 79, 49] = ⟨4, 0, 0⟩ := begin_good hg
    have P1 : Hid (tName b (tBegin b [80, 76, 79, 49]) = tName b ⟨4, 0, 0⟩) := by
      show _ = _
      rw [et]
    rw [et] at C
    clear hg et
    go_enter Tryz.func86, Tryz.ntmps86
    go_wp2_with fail
    refine C.mono ?_
    intro r w1 hr
    obtain ⟨rfl, hin, hb⟩ := hr.ok rfl
    clear hr C
    have hbx := but_box hb hbx1.out (by omega)
    have HB : Hid (But g w w1) := HB1.out.trans hb
    have HX : Hid _ := hbx
    obtain ⟨d0, d1, d2, d3, d4, d5⟩ := box6_cell hbx
    obtain ⟨f0, f1, f2, f3, f4, f5⟩ := box6_fro hbx
    have hz1 : w.heap.size < w1.heap.size := (Array.getElem?_eq_some_iff.1 hbx).1
    have hin : InBy w0 g A c b 4 w1 := hin
    clear hb hbx hbx1 HB1
    have C1 := rtext_any w0 g A c b 4 _ hin
    by_cases hg : (tName b ⟨4, 0, 0⟩).2.bad = 0
    · have et := plain_tk (plain_name b hab) hg
      have E1 : Hid (tName b (tBegin b [80, 76, 79, 49]) = ((tName b ⟨4, 0, 0⟩).1, ⟨(tName b ⟨4, 0, 0⟩).2.pos, 0, 0⟩)) := by
        show _ = _
        rw [P1.out, ← et]
      go_wp2_with fail
      refine C1.mono ?_
      intro r w2 hr
      obtain ⟨rfl, hin, hb⟩ := hr.ok hg
      clear hr C1 hg et
      have hbx := but_box hb HX.out (by omega)
      have HB : Hid (But g w w2) := But.trans HB.out hb
      obtain ⟨d0, d1, d2, d3, d4, d5⟩ := box6_cell hbx
      obtain ⟨f0, f1, f2, f3, f4, f5⟩ := box6_fro hbx
      have hz2 : w.heap.size < w2.heap.size := (Array.getElem?_eq_some_iff.1 hbx).1
      generalize (tName b ⟨4, 0, 0⟩).1 = x1 at *
      generalize (tName b ⟨4, 0, 0⟩).2.pos = q1 at *
      have HX : Hid ((w2.setCell ⟨w.heap.size, 0, none⟩ (.string x1)).heap[w.heap.size]? = some (.cells #[.string x1, .slice none 0 0, .int .i64 0, .slice none 0 0, .slice none 0 0, .slice none 0 0] 75 (0, 0))) := box_set hbx 0 (.string x1)
      have HB : Hid (But g w (w2.setCell ⟨w.heap.size, 0, none⟩ (.string x1))) := but_setB HB.out (Nat.le_refl _) 0 (.string x1)
      have hin : InBy w0 g A c b q1 (w2.setCell ⟨w.heap.size, 0, none⟩ (.string x1)) := hin.setB (by omega) hle 0 (.string x1)
      clear hb hbx
      have P2 : Hid (tCode b = tAll b 16384 (tFour b) ⟨q1, 0, 0⟩) := by
        show tAll b 16384 (tFour b) (tName b (tBegin b [80, 76, 79, 49])).2 = _
        rw [E1.out]
      have C2 := takeWords 16384 (by omega) (by omega) w0 g A c b q1 _ hin
      by_cases hg : (tAll b 16384 (tFour b) ⟨q1, 0, 0⟩).2.bad = 0
      · have et := plain_tk (plain_all (plain_four b) b 16384) hg
        have E2 : Hid (tCode b = ((tAll b 16384 (tFour b) ⟨q1, 0, 0⟩).1, ⟨(tAll b 16384 (tFour b) ⟨q1, 0, 0⟩).2.pos, 0, 0⟩)) := by
          show _ = _
          rw [P2.out, ← et]
        have hl1 : (tAll b 16384 (tFour b) ⟨q1, 0, 0⟩).1.length ≤ 16384 := all_len hab hg
        go_wp2_with fail
        refine C2.mono ?_
        intro r w3 hr
        obtain ⟨v, rfl, ho, hin, hb⟩ := hr.ok hg
        clear hr C2 hg et
        have hbx := but_box hb HX.out (by omega)
        have HB : Hid (But g w w3) := But.trans HB.out hb
        obtain ⟨d0, d1, d2, d3, d4, d5⟩ := box6_cell hbx
        obtain ⟨f0, f1, f2, f3, f4, f5⟩ := box6_fro hbx
        have hz3 : w.heap.size < w3.heap.size := (Array.getElem?_eq_some_iff.1 hbx).1
        generalize (tAll b 16384 (tFour b) ⟨q1, 0, 0⟩).1 = l1 at *
        generalize (tAll b 16384 (tFour b) ⟨q1, 0, 0⟩).2.pos = q2 at *
        obtain ⟨A1, c1, rfl⟩ := own_form ho
        have R1 : Hid (w3.ownsRow (w.heap.size + 1) 78 1 (.slice A1 l1.length c1) l1.length (iVals .u32 l1)) := ownsRow_mono ho (by first | omega | (simp; omega))
        clear ho
        have HX : Hid ((w3.setCell ⟨w.heap.size, 1, none⟩ (.slice A1 l1.length c1)).heap[w.heap.size]? = some (.cells #[.string x1, .slice A1 l1.length c1, .int .i64 0, .slice none 0 0, .slice none 0 0, .slice none 0 0] 75 (0, 0))) := box_set hbx 1 (.slice A1 l1.length c1)
        have HB : Hid (But g w (w3.setCell ⟨w.heap.size, 1, none⟩ (.slice A1 l1.length c1))) := but_setB HB.out (Nat.le_refl _) 1 (.slice A1 l1.length c1)
        have hin : InBy w0 g A c b q2 (w3.setCell ⟨w.heap.size, 1, none⟩ (.slice A1 l1.length c1)) := hin.setB (by omega) hle 1 (.slice A1 l1.length c1)
        have R1 : Hid ((w3.setCell ⟨w.heap.size, 1, none⟩ (.slice A1 l1.length c1)).ownsRow (w.heap.size + 1) 78 1 (.slice A1 l1.length c1) l1.length (iVals .u32 l1)) := ownsRow_setCell_below R1.out (by show w.heap.size < w.heap.size + 1; omega) _
        clear hb hbx
        have P3 : Hid (tDat b = tCount b great ⟨q2, 0, 0⟩) := by
          show tCount b great (tCode b).2 = _
          rw [E2.out]
        have C3 : Calls Tryz.prog 130 #[.pointer (some ⟨g, 0, none⟩), .int .i64 2147483647] _ (Takes w0 g A c b (tCount b great ⟨q2, 0, 0⟩) (.int .i64) (IsZ .i64) _) := upto_any 2147483647 (by omega) (by omega) w0 g A c b q2 _ hin
        by_cases hg : (tCount b great ⟨q2, 0, 0⟩).2.bad = 0
        · have et := plain_tk (plain_count b great) hg
          have E3 : Hid (tDat b = ((tCount b great ⟨q2, 0, 0⟩).1, ⟨(tCount b great ⟨q2, 0, 0⟩).2.pos, 0, 0⟩)) := by
            show _ = _
            rw [P3.out, ← et]
          go_wp2_with fail
          refine C3.mono ?_
          intro r w4 hr
          obtain ⟨rfl, hin, hb⟩ := hr.ok hg
          clear hr C3 hg et
          have hbx := but_box hb HX.out (by omega)
          have HB : Hid (But g w w4) := But.trans HB.out hb
          obtain ⟨d0, d1, d2, d3, d4, d5⟩ := box6_cell hbx
          obtain ⟨f0, f1, f2, f3, f4, f5⟩ := box6_fro hbx
          have hz4 : w.heap.size < w4.heap.size := (Array.getElem?_eq_some_iff.1 hbx).1
          have R1 : Hid (w4.ownsRow (w.heap.size + 1) 78 1 (.slice A1 l1.length c1) l1.length (iVals .u32 l1)) := row_but R1.out (by omega) hb
          generalize (tCount b great ⟨q2, 0, 0⟩).1 = x3 at *
          generalize (tCount b great ⟨q2, 0, 0⟩).2.pos = q3 at *
          have HX : Hid ((w4.setCell ⟨w.heap.size, 2, none⟩ (.int .i64 x3)).heap[w.heap.size]? = some (.cells #[.string x1, .slice A1 l1.length c1, .int .i64 x3, .slice none 0 0, .slice none 0 0, .slice none 0 0] 75 (0, 0))) := box_set hbx 2 (.int .i64 x3)
          have HB : Hid (But g w (w4.setCell ⟨w.heap.size, 2, none⟩ (.int .i64 x3))) := but_setB HB.out (Nat.le_refl _) 2 (.int .i64 x3)
          have hin : InBy w0 g A c b q3 (w4.setCell ⟨w.heap.size, 2, none⟩ (.int .i64 x3)) := hin.setB (by omega) hle 2 (.int .i64 x3)
          have R1 : Hid ((w4.setCell ⟨w.heap.size, 2, none⟩ (.int .i64 x3)).ownsRow (w.heap.size + 1) 78 1 (.slice A1 l1.length c1) l1.length (iVals .u32 l1)) := ownsRow_setCell_below R1.out (by show w.heap.size < w.heap.size + 1; omega) _
          clear hb hbx
          have P4 : Hid (tData b = tAll b 4096 (tEight b) ⟨q3, 0, 0⟩) := by
            show tAll b 4096 (tEight b) (tDat b).2 = _
            rw [E3.out]
          have C4 := takeLongs 4096 (by omega) (by omega) w0 g A c b q3 _ hin
          by_cases hg : (tAll b 4096 (tEight b) ⟨q3, 0, 0⟩).2.bad = 0
          · have et := plain_tk (plain_all (plain_eight b) b 4096) hg
            have E4 : Hid (tData b = ((tAll b 4096 (tEight b) ⟨q3, 0, 0⟩).1, ⟨(tAll b 4096 (tEight b) ⟨q3, 0, 0⟩).2.pos, 0, 0⟩)) := by
              show _ = _
              rw [P4.out, ← et]
            go_wp2_with fail
            refine C4.mono ?_
            intro r w5 hr
            obtain ⟨v, rfl, ho, hin, hb⟩ := hr.ok hg
            clear hr C4 hg et
            have hbx := but_box hb HX.out (by omega)
            have HB : Hid (But g w w5) := But.trans HB.out hb
            obtain ⟨d0, d1, d2, d3, d4, d5⟩ := box6_cell hbx
            obtain ⟨f0, f1, f2, f3, f4, f5⟩ := box6_fro hbx
            have hz5 : w.heap.size < w5.heap.size := (Array.getElem?_eq_some_iff.1 hbx).1
            have R1 : Hid (w5.ownsRow (w.heap.size + 1) 78 1 (.slice A1 l1.length c1) l1.length (iVals .u32 l1)) := row_but R1.out (by omega) hb
            generalize (tAll b 4096 (tEight b) ⟨q3, 0, 0⟩).1 = l2 at *
            generalize (tAll b 4096 (tEight b) ⟨q3, 0, 0⟩).2.pos = q4 at *
            obtain ⟨A2, c2, rfl⟩ := own_form ho
            have R2 : Hid (w5.ownsRow (w.heap.size + 1) 2 1 (.slice A2 l2.length c2) l2.length (iVals .i64 l2)) := ownsRow_mono ho (by first | omega | (simp; omega))
            clear ho
            have HX : Hid ((w5.setCell ⟨w.heap.size, 3, none⟩ (.slice A2 l2.length c2)).heap[w.heap.size]? = some (.cells #[.string x1, .slice A1 l1.length c1, .int .i64 x3, .slice A2 l2.length c2, .slice none 0 0, .slice none 0 0] 75 (0, 0))) := box_set hbx 3 (.slice A2 l2.length c2)
            have HB : Hid (But g w (w5.setCell ⟨w.heap.size, 3, none⟩ (.slice A2 l2.length c2))) := but_setB HB.out (Nat.le_refl _) 3 (.slice A2 l2.length c2)
            have hin : InBy w0 g A c b q4 (w5.setCell ⟨w.heap.size, 3, none⟩ (.slice A2 l2.length c2)) := hin.setB (by omega) hle 3 (.slice A2 l2.length c2)
            have R1 : Hid ((w5.setCell ⟨w.heap.size, 3, none⟩ (.slice A2 l2.length c2)).ownsRow (w.heap.size + 1) 78 1 (.slice A1 l1.length c1) l1.length (iVals .u32 l1)) := ownsRow_setCell_below R1.out (by show w.heap.size < w.heap.size + 1; omega) _
            have R2 : Hid ((w5.setCell ⟨w.heap.size, 3, none⟩ (.slice A2 l2.length c2)).ownsRow (w.heap.size + 1) 2 1 (.slice A2 l2.length c2) l2.length (iVals .i64 l2)) := ownsRow_setCell_below R2.out (by show w.heap.size < w.heap.size + 1; omega) _
            clear hb hbx
            have P5 : Hid (tSyms b = tAll b 256 (tSym b) ⟨q4, 0, 0⟩) := by
              show tAll b 256 (tSym b) (tData b).2 = _
              rw [E4.out]
            have C5 := takeSyms 256 (by omega) (by omega) w0 g A c b q4 _ hin
            by_cases hg : (tAll b 256 (tSym b) ⟨q4, 0, 0⟩).2.bad = 0
            · have et := plain_tk (plain_all (plain_sym b hab) b 256) hg
              have E5 : Hid (tSyms b = ((tAll b 256 (tSym b) ⟨q4, 0, 0⟩).1, ⟨(tAll b 256 (tSym b) ⟨q4, 0, 0⟩).2.pos, 0, 0⟩)) := by
                show _ = _
                rw [P5.out, ← et]
              go_wp2_with fail
              refine C5.mono ?_
              intro r w6 hr
              obtain ⟨v, rfl, ho, hin, hb⟩ := hr.ok hg
              clear hr C5 hg et
              have hbx := but_box hb HX.out (by omega)
              have HB : Hid (But g w w6) := But.trans HB.out hb
              obtain ⟨d0, d1, d2, d3, d4, d5⟩ := box6_cell hbx
              obtain ⟨f0, f1, f2, f3, f4, f5⟩ := box6_fro hbx
              have hz6 : w.heap.size < w6.heap.size := (Array.getElem?_eq_some_iff.1 hbx).1
              have R1 : Hid (w6.ownsRow (w.heap.size + 1) 78 1 (.slice A1 l1.length c1) l1.length (iVals .u32 l1)) := row_but R1.out (by omega) hb
              have R2 : Hid (w6.ownsRow (w.heap.size + 1) 2 1 (.slice A2 l2.length c2) l2.length (iVals .i64 l2)) := row_but R2.out (by omega) hb
              generalize (tAll b 256 (tSym b) ⟨q4, 0, 0⟩).1 = l3 at *
              generalize (tAll b 256 (tSym b) ⟨q4, 0, 0⟩).2.pos = q5 at *
              obtain ⟨A3, c3, rfl⟩ := own_form ho
              have R3 : Hid (w6.ownsRow (w.heap.size + 1) 131 3 (.slice A3 l3.length c3) l3.length (sVals l3)) := ownsRow_mono ho (by first | omega | (simp; omega))
              clear ho
              have HX : Hid ((w6.setCell ⟨w.heap.size, 4, none⟩ (.slice A3 l3.length c3)).heap[w.heap.size]? = some (.cells #[.string x1, .slice A1 l1.length c1, .int .i64 x3, .slice A2 l2.length c2, .slice A3 l3.length c3, .slice none 0 0] 75 (0, 0))) := box_set hbx 4 (.slice A3 l3.length c3)
              have HB : Hid (But g w (w6.setCell ⟨w.heap.size, 4, none⟩ (.slice A3 l3.length c3))) := but_setB HB.out (Nat.le_refl _) 4 (.slice A3 l3.length c3)
              have hin : InBy w0 g A c b q5 (w6.setCell ⟨w.heap.size, 4, none⟩ (.slice A3 l3.length c3)) := hin.setB (by omega) hle 4 (.slice A3 l3.length c3)
              have R1 : Hid ((w6.setCell ⟨w.heap.size, 4, none⟩ (.slice A3 l3.length c3)).ownsRow (w.heap.size + 1) 78 1 (.slice A1 l1.length c1) l1.length (iVals .u32 l1)) := ownsRow_setCell_below R1.out (by show w.heap.size < w.heap.size + 1; omega) _
              have R2 : Hid ((w6.setCell ⟨w.heap.size, 4, none⟩ (.slice A3 l3.length c3)).ownsRow (w.heap.size + 1) 2 1 (.slice A2 l2.length c2) l2.length (iVals .i64 l2)) := ownsRow_setCell_below R2.out (by show w.heap.size < w.heap.size + 1; omega) _
              have R3 : Hid ((w6.setCell ⟨w.heap.size, 4, none⟩ (.slice A3 l3.length c3)).ownsRow (w.heap.size + 1) 131 3 (.slice A3 l3.length c3) l3.length (sVals l3)) := ownsRow_setCell_below R3.out (by show w.heap.size < w.heap.size + 1; omega) _
              clear hb hbx
              have P6 : Hid (tRels b = tAll b (l1.length : Int) (tRel b) ⟨q5, 0, 0⟩) := by
                show tAll b ((tCode b).1.length : Int) (tRel b) (tSyms b).2 = _
                rw [E5.out, E2.out]
              have C6 := takeRels (l1.length : Int) (by omega) (by omega) w0 g A c b q5 _ hin
              by_cases hg : (tAll b (l1.length : Int) (tRel b) ⟨q5, 0, 0⟩).2.bad = 0
              · have et := plain_tk (plain_all (plain_rel b) b (l1.length : Int)) hg
                have E6 : Hid (tRels b = ((tAll b (l1.length : Int) (tRel b) ⟨q5, 0, 0⟩).1, ⟨(tAll b (l1.length : Int) (tRel b) ⟨q5, 0, 0⟩).2.pos, 0, 0⟩)) := by
                  show _ = _
                  rw [P6.out, ← et]
                go_wp2_with fail
                refine C6.mono ?_
                intro r w7 hr
                obtain ⟨v, rfl, ho, hin, hb⟩ := hr.ok hg
                clear hr C6 hg et
                have hbx := but_box hb HX.out (by omega)
                have HB : Hid (But g w w7) := But.trans HB.out hb
                obtain ⟨d0, d1, d2, d3, d4, d5⟩ := box6_cell hbx
                obtain ⟨f0, f1, f2, f3, f4, f5⟩ := box6_fro hbx
                have hz7 : w.heap.size < w7.heap.size := (Array.getElem?_eq_some_iff.1 hbx).1
                have R1 : Hid (w7.ownsRow (w.heap.size + 1) 78 1 (.slice A1 l1.length c1) l1.length (iVals .u32 l1)) := row_but R1.out (by omega) hb
                have R2 : Hid (w7.ownsRow (w.heap.size + 1) 2 1 (.slice A2 l2.length c2) l2.length (iVals .i64 l2)) := row_but R2.out (by omega) hb
                have R3 : Hid (w7.ownsRow (w.heap.size + 1) 131 3 (.slice A3 l3.length c3) l3.length (sVals l3)) := row_but R3.out (by omega) hb
                generalize (tAll b (l1.length : Int) (tRel b) ⟨q5, 0, 0⟩).1 = l4 at *
                generalize (tAll b (l1.length : Int) (tRel b) ⟨q5, 0, 0⟩).2.pos = q6 at *
                obtain ⟨A4, c4, rfl⟩ := own_form ho
                have R4 : Hid (w7.ownsRow (w.heap.size + 1) 83 2 (.slice A4 l4.length c4) l4.length (rVals l4)) := ownsRow_mono ho (by first | omega | (simp; omega))
                clear ho
                have HX : Hid ((w7.setCell ⟨w.heap.size, 5, none⟩ (.slice A4 l4.length c4)).heap[w.heap.size]? = some (.cells #[.string x1, .slice A1 l1.length c1, .int .i64 x3, .slice A2 l2.length c2, .slice A3 l3.length c3, .slice A4 l4.length c4] 75 (0, 0))) := box_set hbx 5 (.slice A4 l4.length c4)
                have HB : Hid (But g w (w7.setCell ⟨w.heap.size, 5, none⟩ (.slice A4 l4.length c4))) := but_setB HB.out (Nat.le_refl _) 5 (.slice A4 l4.length c4)
                have hin : InBy w0 g A c b q6 (w7.setCell ⟨w.heap.size, 5, none⟩ (.slice A4 l4.length c4)) := hin.setB (by omega) hle 5 (.slice A4 l4.length c4)
                have R1 : Hid ((w7.setCell ⟨w.heap.size, 5, none⟩ (.slice A4 l4.length c4)).ownsRow (w.heap.size + 1) 78 1 (.slice A1 l1.length c1) l1.length (iVals .u32 l1)) := ownsRow_setCell_below R1.out (by show w.heap.size < w.heap.size + 1; omega) _
                have R2 : Hid ((w7.setCell ⟨w.heap.size, 5, none⟩ (.slice A4 l4.length c4)).ownsRow (w.heap.size + 1) 2 1 (.slice A2 l2.length c2) l2.length (iVals .i64 l2)) := ownsRow_setCell_below R2.out (by show w.heap.size < w.heap.size + 1; omega) _
                have R3 : Hid ((w7.setCell ⟨w.heap.size, 5, none⟩ (.slice A4 l4.length c4)).ownsRow (w.heap.size + 1) 131 3 (.slice A3 l3.length c3) l3.length (sVals l3)) := ownsRow_setCell_below R3.out (by show w.heap.size < w.heap.size + 1; omega) _
                have R4 : Hid ((w7.setCell ⟨w.heap.size, 5, none⟩ (.slice A4 l4.length c4)).ownsRow (w.heap.size + 1) 83 2 (.slice A4 l4.length c4) l4.length (rVals l4)) := ownsRow_setCell_below R4.out (by show w.heap.size < w.heap.size + 1; omega) _
                clear hb hbx
                have P7 : Hid ((took b).t = tEnd b ⟨q6, 0, 0⟩) := by
                  show tEnd b (tRels b).2 = _
                  rw [E6.out]
                have C := fun wx (h : InBy w0 g A c b q6 wx) => rend_any w0 g A c b q6 wx h
                by_cases hg : (tEnd b ⟨q6, 0, 0⟩).bad = 0
                · have et := end_good hg
                  have E7 : Hid (took b = ⟨x1, l1, x3, l2, l3, l4, ⟨(tEnd b ⟨q6, 0, 0⟩).pos, 0, 0⟩⟩) := by
                    show _ = _
                    have e : took b = ⟨(tName b (tBegin b [80, 76, 79, 49])).1, (tCode b).1, (tDat b).1, (tData b).1, (tSyms b).1, (tRels b).1, tEnd b (tRels b).2⟩ := rfl
                    rw [e, E1.out, E2.out, E3.out, E4.out, E5.out, E6.out, ← et]
                  go_wp2_with fail
                  go_region_with (go_at_call 137; refine (C _ (by first | exact hin | exact hin.drewN _)).mono ?_; intro r w8 hr; obtain ⟨rfl, hin8, hb8⟩ := hr.ok hg; have hbx8 := but_box hb8 HX.out (by omega); obtain ⟨e0, e1, e2, e3, e4, e5⟩ := box6_cell hbx8; obtain ⟨g0, g1, g2, g3, g4, g5⟩ := box6_fro hbx8; have hz8 : w.heap.size < w8.heap.size := (Array.getElem?_eq_some_iff.1 hbx8).1; have HB8 : Hid (But g w w8) := But.trans HB.out hb8; have S1 : Hid (w8.ownsRow (w.heap.size + 1) 78 1 (.slice A1 l1.length c1) l1.length (iVals .u32 l1)) := row_but R1.out (by omega) hb8; have S2 : Hid (w8.ownsRow (w.heap.size + 1) 2 1 (.slice A2 l2.length c2) l2.length (iVals .i64 l2)) := row_but R2.out (by omega) hb8; have S3 : Hid (w8.ownsRow (w.heap.size + 1) 131 3 (.slice A3 l3.length c3) l3.length (sVals l3)) := row_but R3.out (by omega) hb8; have S4 : Hid (w8.ownsRow (w.heap.size + 1) 83 2 (.slice A4 l4.length c4) l4.length (rVals l4)) := row_but R4.out (by omega) hb8; clear hr hb8 hbx8)
                  all_goals go_wp2_with fail
                  all_goals exact bodyPost_ret (v := .tuple #[.agg #[.string x1, .slice A1 l1.length c1, .int .i64 x3, .slice A2 l2.length c2, .slice A3 l3.length c3, .slice A4 l4.length c4], .nilIface]) (by simp [results, Tryz.results86, go_sem, e0, e1, e2, e3, e4, e5]) rfl (takesO_yes (but_set6 HB8.out _ _ _ _ _ _) E7.out ⟨ownsRow_mono (row_set6 S1.out (by omega) _ _ _ _ _ _) (by omega), ownsRow_mono (row_set6 S2.out (by omega) _ _ _ _ _ _) (by omega), ownsRow_mono (row_set6 S3.out (by omega) _ _ _ _ _ _) (by omega), ownsRow_mono (row_set6 S4.out (by omega) _ _ _ _ _ _) (by omega)⟩)
                · have HG : Hid _ := hg
                  go_wp2_with fail
                  go_region_with (go_at_call 137; refine (C _ (by first | exact hin | exact hin.drewN _)).mono ?_; intro r w8 hr; obtain ⟨qq, rfl, hin8, hb8⟩ := hr.err hg; have hbx8 := but_box hb8 HX.out (by omega); obtain ⟨e0, e1, e2, e3, e4, e5⟩ := box6_cell hbx8; obtain ⟨g0, g1, g2, g3, g4, g5⟩ := box6_fro hbx8; have hz8 : w.heap.size < w8.heap.size := (Array.getElem?_eq_some_iff.1 hbx8).1; have HB8 : Hid (But g w w8) := But.trans HB.out hb8; have S1 : Hid (w8.ownsRow (w.heap.size + 1) 78 1 (.slice A1 l1.length c1) l1.length (iVals .u32 l1)) := row_but R1.out (by omega) hb8; have S2 : Hid (w8.ownsRow (w.heap.size + 1) 2 1 (.slice A2 l2.length c2) l2.length (iVals .i64 l2)) := row_but R2.out (by omega) hb8; have S3 : Hid (w8.ownsRow (w.heap.size + 1) 131 3 (.slice A3 l3.length c3) l3.length (sVals l3)) := row_but R3.out (by omega) hb8; have S4 : Hid (w8.ownsRow (w.heap.size + 1) 83 2 (.slice A4 l4.length c4) l4.length (rVals l4)) := row_but R4.out (by omega) hb8; clear hr hb8 hbx8)
                  all_goals go_wp2_with fail
                  all_goals exact bodyPost_ret (v := .tuple #[.agg #[.string x1, .slice A1 l1.length c1, .int .i64 x3, .slice A2 l2.length c2, .slice A3 l3.length c3, .slice A4 l4.length c4], .iface 161 (.agg #[.int .i64 (tEnd b ⟨q6, 0, 0⟩).bad, .int .i64 (tEnd b ⟨q6, 0, 0⟩).place])]) (by simp [results, Tryz.results86, go_sem, e0, e1, e2, e3, e4, e5]) rfl (takesO_no (but_set6 HB8.out _ _ _ _ _ _) ⟨_, _, _, _, _, _, _, _, _, _, _, _, _, _, rfl⟩ P7.out HG.out)
              · have HE : Hid ((took b).t = (tAll b (l1.length : Int) (tRel b) ⟨q5, 0, 0⟩).2) := by
                  show _ = _
                  rw [← P6.out]
                  exact fail_rels (by rw [P6.out]; exact hg)
                have HG : Hid _ := hg
                go_wp2_with fail
                refine C6.mono ?_
                intro r w7 hr
                obtain ⟨q, rfl, hin, hb⟩ := hr.err hg
                clear hr C6 hg
                have hbx := but_box hb HX.out (by omega)
                have HB : Hid (But g w w7) := But.trans HB.out hb
                obtain ⟨d0, d1, d2, d3, d4, d5⟩ := box6_cell hbx
                obtain ⟨f0, f1, f2, f3, f4, f5⟩ := box6_fro hbx
                have hz7 : w.heap.size < w7.heap.size := (Array.getElem?_eq_some_iff.1 hbx).1
                generalize (tAll b (l1.length : Int) (tRel b) ⟨q5, 0, 0⟩).2 = T at *
                clear hb hbx
                go_wp2
                exact bodyPost_ret (v := .tuple #[.agg #[.string x1, .slice A1 l1.length c1, .int .i64 x3, .slice A2 l2.length c2, .slice A3 l3.length c3, .slice none 0 0], .iface 161 (.agg #[.int .i64 T.bad, .int .i64 T.place])]) (by simp [results, Tryz.results86, go_sem, d0, d1, d2, d3, d4, d5]) rfl (takesO_no (but_set6 (but_setB HB.out (Nat.le_refl _) _ _) _ _ _ _ _ _) ⟨_, _, _, _, _, _, _, _, _, _, _, _, _, _, rfl⟩ HE.out HG.out)
            · have HE : Hid ((took b).t = (tAll b 256 (tSym b) ⟨q4, 0, 0⟩).2) := by
                show _ = _
                rw [← P5.out]
                exact fail_syms (by rw [P5.out]; exact hg)
              have HG : Hid _ := hg
              go_wp2_with fail
              refine C5.mono ?_
              intro r w6 hr
              obtain ⟨q, rfl, hin, hb⟩ := hr.err hg
              clear hr C5 hg
              have hbx := but_box hb HX.out (by omega)
              have HB : Hid (But g w w6) := But.trans HB.out hb
              obtain ⟨d0, d1, d2, d3, d4, d5⟩ := box6_cell hbx
              obtain ⟨f0, f1, f2, f3, f4, f5⟩ := box6_fro hbx
              have hz6 : w.heap.size < w6.heap.size := (Array.getElem?_eq_some_iff.1 hbx).1
              generalize (tAll b 256 (tSym b) ⟨q4, 0, 0⟩).2 = T at *
              clear hb hbx
              go_wp2
              exact bodyPost_ret (v := .tuple #[.agg #[.string x1, .slice A1 l1.length c1, .int .i64 x3, .slice A2 l2.length c2, .slice none 0 0, .slice none 0 0], .iface 161 (.agg #[.int .i64 T.bad, .int .i64 T.place])]) (by simp [results, Tryz.results86, go_sem, d0, d1, d2, d3, d4, d5]) rfl (takesO_no (but_set6 (but_setB HB.out (Nat.le_refl _) _ _) _ _ _ _ _ _) ⟨_, _, _, _, _, _, _, _, _, _, _, _, _, _, rfl⟩ HE.out HG.out)
          · have HE : Hid ((took b).t = (tAll b 4096 (tEight b) ⟨q3, 0, 0⟩).2) := by
              show _ = _
              rw [← P4.out]
              exact fail_data (by rw [P4.out]; exact hg)
            have HG : Hid _ := hg
            go_wp2_with fail
            refine C4.mono ?_
            intro r w5 hr
            obtain ⟨q, rfl, hin, hb⟩ := hr.err hg
            clear hr C4 hg
            have hbx := but_box hb HX.out (by omega)
            have HB : Hid (But g w w5) := But.trans HB.out hb
            obtain ⟨d0, d1, d2, d3, d4, d5⟩ := box6_cell hbx
            obtain ⟨f0, f1, f2, f3, f4, f5⟩ := box6_fro hbx
            have hz5 : w.heap.size < w5.heap.size := (Array.getElem?_eq_some_iff.1 hbx).1
            generalize (tAll b 4096 (tEight b) ⟨q3, 0, 0⟩).2 = T at *
            clear hb hbx
            go_wp2
            exact bodyPost_ret (v := .tuple #[.agg #[.string x1, .slice A1 l1.length c1, .int .i64 x3, .slice none 0 0, .slice none 0 0, .slice none 0 0], .iface 161 (.agg #[.int .i64 T.bad, .int .i64 T.place])]) (by simp [results, Tryz.results86, go_sem, d0, d1, d2, d3, d4, d5]) rfl (takesO_no (but_set6 (but_setB HB.out (Nat.le_refl _) _ _) _ _ _ _ _ _) ⟨_, _, _, _, _, _, _, _, _, _, _, _, _, _, rfl⟩ HE.out HG.out)
        · have HE : Hid ((took b).t = (tCount b great ⟨q2, 0, 0⟩).2) := by
            show _ = _
            rw [← P3.out]
            exact fail_dat (by rw [P3.out]; exact hg)
          have HG : Hid _ := hg
          go_wp2_with fail
          refine C3.mono ?_
          intro r w4 hr
          obtain ⟨_, q, rfl, rfl, hin, hb⟩ := hr.err hg
          clear hr C3 hg
          have hbx := but_box hb HX.out (by omega)
          have HB : Hid (But g w w4) := But.trans HB.out hb
          obtain ⟨d0, d1, d2, d3, d4, d5⟩ := box6_cell hbx
          obtain ⟨f0, f1, f2, f3, f4, f5⟩ := box6_fro hbx
          have hz4 : w.heap.size < w4.heap.size := (Array.getElem?_eq_some_iff.1 hbx).1
          generalize (tCount b great ⟨q2, 0, 0⟩).2 = T at *
          clear hb hbx
          go_wp2
          exact bodyPost_ret (v := .tuple #[.agg #[.string x1, .slice A1 l1.length c1, .int .i64 0, .slice none 0 0, .slice none 0 0, .slice none 0 0], .iface 161 (.agg #[.int .i64 T.bad, .int .i64 T.place])]) (by simp [results, Tryz.results86, go_sem, d0, d1, d2, d3, d4, d5]) rfl (takesO_no (but_set6 (but_setB HB.out (Nat.le_refl _) _ _) _ _ _ _ _ _) ⟨_, _, _, _, _, _, _, _, _, _, _, _, _, _, rfl⟩ HE.out HG.out)
      · have HE : Hid ((took b).t = (tAll b 16384 (tFour b) ⟨q1, 0, 0⟩).2) := by
          show _ = _
          rw [← P2.out]
          exact fail_code (by rw [P2.out]; exact hg)
        have HG : Hid _ := hg
        go_wp2_with fail
        refine C2.mono ?_
        intro r w3 hr
        obtain ⟨q, rfl, hin, hb⟩ := hr.err hg
        clear hr C2 hg
        have hbx := but_box hb HX.out (by omega)
        have HB : Hid (But g w w3) := But.trans HB.out hb
        obtain ⟨d0, d1, d2, d3, d4, d5⟩ := box6_cell hbx
        obtain ⟨f0, f1, f2, f3, f4, f5⟩ := box6_fro hbx
        have hz3 : w.heap.size < w3.heap.size := (Array.getElem?_eq_some_iff.1 hbx).1
        generalize (tAll b 16384 (tFour b) ⟨q1, 0, 0⟩).2 = T at *
        clear hb hbx
        go_wp2
        exact bodyPost_ret (v := .tuple #[.agg #[.string x1, .slice none 0 0, .int .i64 0, .slice none 0 0, .slice none 0 0, .slice none 0 0], .iface 161 (.agg #[.int .i64 T.bad, .int .i64 T.place])]) (by simp [results, Tryz.results86, go_sem, d0, d1, d2, d3, d4, d5]) rfl (takesO_no (but_set6 (but_setB HB.out (Nat.le_refl _) _ _) _ _ _ _ _ _) ⟨_, _, _, _, _, _, _, _, _, _, _, _, _, _, rfl⟩ HE.out HG.out)
    · have HE : Hid ((took b).t = (tName b ⟨4, 0, 0⟩).2) := by
        show _ = _
        rw [← P1.out]
        exact fail_name (by rw [P1.out]; exact hg)
      have HG : Hid _ := hg
      go_wp2_with fail
      refine C1.mono ?_
      intro r w2 hr
      obtain ⟨_, q, rfl, rfl, hin, hb⟩ := hr.err hg
      clear hr C1 hg
      have hbx := but_box hb HX.out (by omega)
      have HB : Hid (But g w w2) := But.trans HB.out hb
      obtain ⟨d0, d1, d2, d3, d4, d5⟩ := box6_cell hbx
      obtain ⟨f0, f1, f2, f3, f4, f5⟩ := box6_fro hbx
      have hz2 : w.heap.size < w2.heap.size := (Array.getElem?_eq_some_iff.1 hbx).1
      generalize (tName b ⟨4, 0, 0⟩).2 = T at *
      clear hb hbx
      go_wp2
      exact bodyPost_ret (v := .tuple #[.agg #[.string ⟨#[]⟩, .slice none 0 0, .int .i64 0, .slice none 0 0, .slice none 0 0, .slice none 0 0], .iface 161 (.agg #[.int .i64 T.bad, .int .i64 T.place])]) (by simp [results, Tryz.results86, go_sem, d0, d1, d2, d3, d4, d5]) rfl (takesO_no (but_set6 (but_setB HB.out (Nat.le_refl _) _ _) _ _ _ _ _ _) ⟨_, _, _, _, _, _, _, _, _, _, _, _, _, _, rfl⟩ HE.out HG.out)
  · have HE : Hid _ := fail_begin hg
    have HG : Hid _ := hg
    go_enter Tryz.func86, Tryz.ntmps86
    go_wp2_with fail
    refine C.mono ?_
    intro r w1 hr
    obtain ⟨q, rfl, hin, hb⟩ := hr.err hg
    clear hr C hg
    have hbx := but_box hb hbx1.out (by omega)
    have HB : Hid (But g w w1) := HB1.out.trans hb
    obtain ⟨d0, d1, d2, d3, d4, d5⟩ := box6_cell hbx
    obtain ⟨f0, f1, f2, f3, f4, f5⟩ := box6_fro hbx
    have hz1 : w.heap.size < w1.heap.size := (Array.getElem?_eq_some_iff.1 hbx).1
    generalize tBegin b [80, 76, 79, 49] = T at *
    clear hb hbx
    go_wp2
    exact bodyPost_ret (v := .tuple #[.agg #[.string ⟨#[]⟩, .slice none 0 0, .int .i64 0, .slice none 0 0, .slice none 0 0, .slice none 0 0], .iface 161 (.agg #[.int .i64 T.bad, .int .i64 T.place])]) (by simp [results, Tryz.results86, go_sem, d0, d1, d2, d3, d4, d5]) rfl (takesO_no (but_set6 HB.out _ _ _ _ _ _) ⟨_, _, _, _, _, _, _, _, _, _, _, _, _, _, rfl⟩ HE.out HG.out)


end Go.Proofs.YthpkekpojhmaaaaGreatDoor

namespace Go.Proofs.YthpkekpojhmaaaaGreatDoor
open Go.RowKit


theorem iVals_get {K : IntKind} {l : List Int} {i : Nat} (h : i < l.length) : (iVals K l)[i]? = some (.int K (nth l i)) := by simp [iVals, nth, List.getD, h]
theorem sVals_get : ∀ (l : List Sym) (i : Nat), i < l.length → (sVals l)[i * 3]? = some (.string (sName l i)) ∧ (sVals l)[i * 3 + 1]? = some (.int .i8 (sKind l i)) ∧ (sVals l)[i * 3 + 2]? = some (.int .i64 (sAt l i))
  | [], i, h => by simp at h
  | x :: l, 0, _ => ⟨rfl, rfl, rfl⟩
  | x :: l, i + 1, h => by
    obtain ⟨a, b, c⟩ := sVals_get l i (by simpa using h)
    have e : ∀ j, (sVals (x :: l))[(i + 1) * 3 + j]? = (sVals l)[i * 3 + j]? := fun j => by
      show ([_, _, _] ++ sVals l)[(i + 1) * 3 + j]? = _
      rw [List.getElem?_append_right (by simp; omega)]
      congr 1
      simp
      omega
    refine ⟨?_, ?_, ?_⟩
    · have := e 0
      simp only [Nat.add_zero] at this
      rw [this, a]
      rfl
    · rw [e 1, b]; rfl
    · rw [e 2, c]; rfl
theorem rVals_get : ∀ (l : List Rel) (i : Nat), i < l.length → (rVals l)[i * 2]? = some (.int .i64 (rAt l i)) ∧ (rVals l)[i * 2 + 1]? = some (.int .i64 (rSym l i))
  | [], i, h => by simp at h
  | x :: l, 0, _ => ⟨rfl, rfl⟩
  | x :: l, i + 1, h => by
    obtain ⟨a, b⟩ := rVals_get l i (by simpa using h)
    have e : ∀ j, (rVals (x :: l))[(i + 1) * 2 + j]? = (rVals l)[i * 2 + j]? := fun j => by
      show ([_, _] ++ rVals l)[(i + 1) * 2 + j]? = _
      rw [List.getElem?_append_right (by simp; omega)]
      congr 1
      simp
      omega
    refine ⟨?_, ?_⟩
    · have := e 0
      simp only [Nat.add_zero] at this
      rw [this, a]
      rfl
    · rw [e 1, b]; rfl
theorem add_add (j k i : Nat) : ((⟨j, 0, none⟩ : Addr).add k).add i = (⟨j, 0, none⟩ : Addr).add (k + i) := by
  rw [add0, add0]
  unfold Addr.add
  split
  · next h => subst h; rfl
  · rfl
theorem row_ints {w : World} {base c n : Nat} {e : TypeId} {A : Option Addr} {K : IntKind} {l : List Int} (h : w.ownsRow base e 1 (.slice A n c) l.length (iVals K l)) : IntsAt w A K l := fun i hi => by
  rcases h.2 with ⟨_, h0⟩ | ⟨j, cap, cur, hv, hb, hg, hc, _⟩
  · omega
  · cases hv
    exact ⟨_, rfl, h.cells rfl i _ (iVals_get hi)⟩
theorem row_syms {w : World} {base c n : Nat} {e : TypeId} {A : Option Addr} {l : List Sym} (h : w.ownsRow base e 3 (.slice A n c) l.length (sVals l)) : SymsAt w A l := fun i hi => by
  rcases h.2 with ⟨_, h0⟩ | ⟨j, cap, cur, hv, hb, hg, hc, _⟩
  · omega
  · cases hv
    obtain ⟨a, b, d⟩ := sVals_get l i hi
    exact ⟨_, rfl, h.cells rfl _ _ a, by rw [add_add]; exact h.cells rfl _ _ b, by rw [add_add]; exact h.cells rfl _ _ d⟩
theorem row_rels {w : World} {base c n : Nat} {e : TypeId} {A : Option Addr} {l : List Rel} (h : w.ownsRow base e 2 (.slice A n c) l.length (rVals l)) : RelsAt w A l := fun i hi => by
  rcases h.2 with ⟨_, h0⟩ | ⟨j, cap, cur, hv, hb, hg, hc, _⟩
  · omega
  · cases hv
    obtain ⟨a, b⟩ := rVals_get l i hi
    exact ⟨_, rfl, h.cells rfl _ _ a, by rw [add_add]; exact h.cells rfl _ _ b⟩
theorem row_keep {w w1 : World} {base n : Nat} {e : TypeId} {sz : Nat} {v : Value} {xs : List Value} (h : w.ownsRow base e sz v n xs) (hb : Below w.heap.size w w1) : w1.ownsRow base e sz v n xs := by
  refine h.kept (row := none) ⟨hb.os, hb.tape, hb.output, hb.size, fun k hk _ => hb.block k hk⟩ ?_
  cases hv : v.ownBlock <;> simp
theorem RowsO.keep {w w1 : World} {base : Nat} {A1 A2 A3 A4 : Option Addr} {c1 c2 c3 c4 : Nat} {code data : List Int} {ss : List Sym} {rs : List Rel} (h : RowsO w base A1 A2 A3 A4 c1 c2 c3 c4 code data ss rs) (hb : Below w.heap.size w w1) : RowsO w1 base A1 A2 A3 A4 c1 c2 c3 c4 code data ss rs :=
  ⟨row_keep h.r1 hb, row_keep h.r2 hb, row_keep h.r3 hb, row_keep h.r4 hb⟩
theorem RowsO.set6 {w : World} {B base : Nat} {A1 A2 A3 A4 : Option Addr} {c1 c2 c3 c4 : Nat} {code data : List Int} {ss : List Sym} {rs : List Rel} (h : RowsO w base A1 A2 A3 A4 c1 c2 c3 c4 code data ss rs) (hB : B < base) (x0 x1 x2 x3 x4 x5 : Value) : RowsO ((((((w.setCell ⟨B, 0, none⟩ x0).setCell ⟨B, 1, none⟩ x1).setCell ⟨B, 2, none⟩ x2).setCell ⟨B, 3, none⟩ x3).setCell ⟨B, 4, none⟩ x4).setCell ⟨B, 5, none⟩ x5) base A1 A2 A3 A4 c1 c2 c3 c4 code data ss rs :=
  ⟨row_set6 h.r1 hB _ _ _ _ _ _, row_set6 h.r2 hB _ _ _ _ _ _, row_set6 h.r3 hB _ _ _ _ _ _, row_set6 h.r4 hB _ _ _ _ _ _⟩
theorem RowsO.mono {w : World} {base base' : Nat} {A1 A2 A3 A4 : Option Addr} {c1 c2 c3 c4 : Nat} {code data : List Int} {ss : List Sym} {rs : List Rel} (h : RowsO w base A1 A2 A3 A4 c1 c2 c3 c4 code data ss rs) (hb : base' ≤ base) : RowsO w base' A1 A2 A3 A4 c1 c2 c3 c4 code data ss rs :=
  ⟨ownsRow_mono h.r1 hb, ownsRow_mono h.r2 hb, ownsRow_mono h.r3 hb, ownsRow_mono h.r4 hb⟩
theorem below_set6 {w w1 : World} {n : Nat} (h : Below n w w1) {B : Nat} (hB : n ≤ B) (x0 x1 x2 x3 x4 x5 : Value) : Below n w ((((((w1.setCell ⟨B, 0, none⟩ x0).setCell ⟨B, 1, none⟩ x1).setCell ⟨B, 2, none⟩ x2).setCell ⟨B, 3, none⟩ x3).setCell ⟨B, 4, none⟩ x4).setCell ⟨B, 5, none⟩ x5) :=
  (((((h.setCell hB _).setCell hB _).setCell hB _).setCell hB _).setCell hB _).setCell hB _


end Go.Proofs.YthpkekpojhmaaaaGreatDoor

namespace Go.Proofs.YthpkekpojhmaaaaGreatDoor
open Go.RowKit


/-- What Read answers. -/
def ReadP (b : List Int) (w : World) (r : Ending) (w' : World) : Prop :=
  Below w.heap.size w w' ∧ ((¬ (took b).t.bad = 0 ∧ r = .returned (.tuple #[.agg #[.string ⟨#[]⟩, .slice none 0 0, .int .i64 0, .slice none 0 0, .slice none 0 0, .slice none 0 0], .int .i64 (took b).t.bad, .int .i64 (took b).t.place])) ∨
    ((took b).t.bad = 0 ∧ ¬ (checkC (took b).nm (took b).code (took b).dA (took b).data.length (took b).ss (took b).rs).1 = 0 ∧ r = .returned (.tuple #[.agg #[.string ⟨#[]⟩, .slice none 0 0, .int .i64 0, .slice none 0 0, .slice none 0 0, .slice none 0 0], .int .i64 (checkC (took b).nm (took b).code (took b).dA (took b).data.length (took b).ss (took b).rs).1, .int .i64 (checkC (took b).nm (took b).code (took b).dA (took b).data.length (took b).ss (took b).rs).2])) ∨
    ((took b).t.bad = 0 ∧ (checkC (took b).nm (took b).code (took b).dA (took b).data.length (took b).ss (took b).rs).1 = 0 ∧ ∃ (A1 A2 A3 A4 : Option Addr) (c1 c2 c3 c4 : Nat), r = .returned (.tuple #[.agg #[.string (took b).nm, .slice A1 (took b).code.length c1, .int .i64 (took b).dA, .slice A2 (took b).data.length c2, .slice A3 (took b).ss.length c3, .slice A4 (took b).rs.length c4], .int .i64 0, .int .i64 0]) ∧ RowsO w' w.heap.size A1 A2 A3 A4 c1 c2 c3 c4 (took b).code (took b).data (took b).ss (took b).rs))
/-- The handle of the type error. -/
def errT : Value := .iface 281 (.agg #[.pointer (some ⟨4, 154, none⟩)])
theorem below_drew {n : Nat} {w w1 : World} (h : Below n w w1) (k : Nat := 0) : Below n w (w1.drewN k) := ⟨h.os, h.tape, h.output, h.size, h.block⟩
theorem in_start (w : World) (A : Option Addr) (c : Nat) (b : List Int) (hB : IntsAt w A .u8 b) (hA : AreB b) (hN : b.length ≤ 1048576) (hc : b.length ≤ c) :
    InBy w (w.heap.size + 1) A c b 0 ((w.alloc (.cells #[.string ⟨#[]⟩, .slice none 0 0, .int .i64 0, .slice none 0 0, .slice none 0 0, .slice none 0 0] 75)).alloc (.cells #[.slice A b.length c, .int .i64 0] 158)) := by
  refine ⟨?_, hB, lb_alloc (lb_alloc (Below.refl _ _) _) _, by omega, hA, hN, hc, Nat.zero_le _⟩
  have := heap_alloc_new (w.alloc (.cells #[.string ⟨#[]⟩, .slice none 0 0, .int .i64 0, .slice none 0 0, .slice none 0 0, .slice none 0 0] 75)) (.cells #[.slice A b.length c, .int .i64 0] 158)
  rw [show (w.alloc (.cells #[.string ⟨#[]⟩, .slice none 0 0, .int .i64 0, .slice none 0 0, .slice none 0 0, .slice none 0 0] 75)).heap.size = w.heap.size + 1 by simp] at this
  exact this
theorem but_below {w w1 w2 : World} (hb : Below w.heap.size w w1) (h : But (w.heap.size + 1) w1 w2) : Below w.heap.size w w2 :=
  ⟨h.1.trans hb.os, h.2.1.trans hb.tape, h.2.2.1.trans hb.output, Nat.le_trans hb.size h.2.2.2.1, fun k hk => (h.2.2.2.2 k (Nat.lt_of_lt_of_le hk hb.size) (by omega)).trans (hb.block k hk)⟩
set_option maxRecDepth 100000 in
set_option maxHeartbeats 2000000 in
theorem read_any (A : Option Addr) (c : Nat) (b : List Int) (w : World) (hB : IntsAt w A .u8 b) (hA : AreB b) (hN : b.length ≤ 1048576) (hc : b.length ≤ c) (hT : w.cell? ⟨0, 0, none⟩ = some errT) :
    Calls Tryz.prog 29 #[.slice A b.length c] w (ReadP b w) := by
  have C := robject_any w _ A c b _ (in_start w A c b hB hA hN hc)
  have hb1 : Hid (Below w.heap.size w ((w.alloc (.cells #[.string ⟨#[]⟩, .slice none 0 0, .int .i64 0, .slice none 0 0, .slice none 0 0, .slice none 0 0] 75)).alloc (.cells #[.slice A b.length c, .int .i64 0] 158))) := lb_alloc (lb_alloc (Below.refl _ _) _) _
  have hbx1 : Hid (((w.alloc (.cells #[.string ⟨#[]⟩, .slice none 0 0, .int .i64 0, .slice none 0 0, .slice none 0 0, .slice none 0 0] 75)).alloc (.cells #[.slice A b.length c, .int .i64 0] 158)).heap[w.heap.size]? = some (.cells #[.string ⟨#[]⟩, .slice none 0 0, .int .i64 0, .slice none 0 0, .slice none 0 0, .slice none 0 0] 75 (0, 0))) := by
    show _ = _
    rw [(lb_alloc (Below.refl _ (w.alloc (.cells #[.string ⟨#[]⟩, .slice none 0 0, .int .i64 0, .slice none 0 0, .slice none 0 0, .slice none 0 0] 75))) _).block w.heap.size (by simp)]
    exact heap_alloc_new _ _
  by_cases hg : (took b).t.bad = 0
  · have HG : Hid _ := hg
    clear hg
    go_enter Tryz.func29, Tryz.ntmps29
    go_wp2_with fail
    refine C.mono ?_
    intro r w2 hr
    obtain ⟨hb2, ⟨_, A1, A2, A3, A4, c1, c2, c3, c4, rfl, rows⟩ | ⟨h0, _⟩⟩ := hr
    case inr => exact absurd HG.out h0
    clear C
    have hKK : Hid _ := took_write hA HG.out
    have hbw : Hid (Below w.heap.size w w2) := but_below hb1.out hb2
    have hbx : Hid _ := but_box hb2 hbx1.out (by omega)
    have hz := (Array.getElem?_eq_some_iff.1 hbx.out).1
    generalize hTk : took b = T at *
    obtain ⟨nm, code, dA, data, ss, rs, tk⟩ := T
    obtain ⟨_, k1, k2, k3, k4, k5, k6, k7, k8, k9, k10⟩ := hKK.out
    have hgr : great = 2147483647 := rfl
    rw [hgr] at k4
    simp only at rows k1 k2 k3 k4 k5 k6 k7 k8 k9 k10 ⊢
    have hTk : Hid (took b = ⟨nm, code, dA, data, ss, rs, tk⟩) := hTk
    have hB4 : Hid (Below w2.heap.size w2 ((w2.alloc (.cells #[.string nm, .slice A1 code.length c1, .int .i64 dA, .slice A2 data.length c2, .slice A3 ss.length c3, .slice A4 rs.length c4] 75)).alloc (.cells #[.int .i64 0, .int .i64 0] 161))) := lb_alloc (lb_alloc (Below.refl _ _) _) _
    have hbw4 : Hid (Below w.heap.size w ((w2.alloc (.cells #[.string nm, .slice A1 code.length c1, .int .i64 dA, .slice A2 data.length c2, .slice A3 ss.length c3, .slice A4 rs.length c4] 75)).alloc (.cells #[.int .i64 0, .int .i64 0] 161))) := lb_alloc (lb_alloc hbw.out _) _
    have hbx3 : Hid (((w2.alloc (.cells #[.string nm, .slice A1 code.length c1, .int .i64 dA, .slice A2 data.length c2, .slice A3 ss.length c3, .slice A4 rs.length c4] 75)).alloc (.cells #[.int .i64 0, .int .i64 0] 161)).heap[w.heap.size]? = some (.cells #[.string ⟨#[]⟩, .slice none 0 0, .int .i64 0, .slice none 0 0, .slice none 0 0, .slice none 0 0] 75 (0, 0))) := by
      show _ = _
      rw [hB4.out.block w.heap.size hz]
      exact hbx.out
    have hbx4 : Hid (((w2.alloc (.cells #[.string nm, .slice A1 code.length c1, .int .i64 dA, .slice A2 data.length c2, .slice A3 ss.length c3, .slice A4 rs.length c4] 75)).alloc (.cells #[.int .i64 0, .int .i64 0] 161)).heap[w2.heap.size]? = some (.cells #[.string nm, .slice A1 code.length c1, .int .i64 dA, .slice A2 data.length c2, .slice A3 ss.length c3, .slice A4 rs.length c4] 75 (0, 0))) := by
      show _ = _
      rw [(lb_alloc (Below.refl _ (w2.alloc (.cells #[.string nm, .slice A1 code.length c1, .int .i64 dA, .slice A2 data.length c2, .slice A3 ss.length c3, .slice A4 rs.length c4] 75))) _).block w2.heap.size (by simp)]
      exact heap_alloc_new _ _
    have R4 : Hid (RowsO ((w2.alloc (.cells #[.string nm, .slice A1 code.length c1, .int .i64 dA, .slice A2 data.length c2, .slice A3 ss.length c3, .slice A4 rs.length c4] 75)).alloc (.cells #[.int .i64 0, .int .i64 0] 161)) (w.heap.size + 2) A1 A2 A3 A4 c1 c2 c3 c4 code data ss rs) := by
      have := rows.keep hB4.out
      exact RowsO.mono this (by simp)
    have D := objcheck_any nm dA A1 A2 A3 A4 c1 data.length c2 c3 c4 code ss rs _ (row_ints R4.out.r1) (row_syms R4.out.r3) (row_rels R4.out.r4) (fun i hi => k3 _ (by simp [nth, List.getD, hi])) (by omega) (by omega) (by omega) (by omega) (fun i => by
      by_cases hi : i < ss.length
      · have := (k8 (ss.getD i symD) (by simp [List.getD, hi])).1
        show (ss.getD i symD).1.size ≤ _
        omega
      · have e : sName ss i = ⟨#[]⟩ := by simp [sName, List.getD, hi, symD]
        rw [e]
        show (0 : Nat) ≤ _
        omega) ⟨by omega, by omega⟩
    clear hb2 rows k1 k2 k3 k4 k5 k6 k7 k8 k9 k10 hKK hgr
    by_cases hE : (checkC nm code dA data.length ss rs).1 = 0
    · have HE : Hid _ := hE
      rw [hE] at D
      go_wp2_with fail
      refine (as_nil _ _).mono ?_
      rintro e w3 ⟨rfl, rfl⟩
      go_wp2_with fail
      refine D.mono ?_
      rintro e w5 ⟨rfl, h5⟩
      have hx5 : Hid (w5.heap[w.heap.size]? = some (.cells #[.string ⟨#[]⟩, .slice none 0 0, .int .i64 0, .slice none 0 0, .slice none 0 0, .slice none 0 0] 75 (0, 0))) := (h5.block w.heap.size (by simp; omega)).trans hbx3.out
      have hy5 : Hid (w5.heap[w2.heap.size]? = some (.cells #[.string nm, .slice A1 code.length c1, .int .i64 dA, .slice A2 data.length c2, .slice A3 ss.length c3, .slice A4 rs.length c4] 75 (0, 0))) := (h5.block w2.heap.size (by simp; omega)).trans hbx4.out
      have hbw5 : Hid (Below w.heap.size w w5) := lb_trans hbw4.out h5
      have R5 : Hid (RowsO w5 (w.heap.size + 2) A1 A2 A3 A4 c1 c2 c3 c4 code data ss rs) := R4.out.keep h5
      obtain ⟨e0, e1, e2, e3, e4, e5⟩ := box6_cell hx5.out
      obtain ⟨f0, f1, f2, f3, f4, f5⟩ := box6_fro hx5.out
      obtain ⟨g0, g1, g2, g3, g4, g5⟩ := box6_cell hy5.out
      have hz5 : w.heap.size < w5.heap.size := (Array.getElem?_eq_some_iff.1 hx5.out).1
      clear h5 D hE
      go_wp2_with fail
      refine bodyPost_ret (v := .tuple #[.agg #[.string nm, .slice A1 code.length c1, .int .i64 dA, .slice A2 data.length c2, .slice A3 ss.length c3, .slice A4 rs.length c4], .int .i64 0, .int .i64 0]) (by simp [results, Tryz.results29, go_sem, e0, e1, e2, e3, e4, e5]) rfl ?_
      unfold ReadP
      rw [hTk.out]
      refine ⟨below_set6 hbw5.out (Nat.le_refl _) _ _ _ _ _ _, Or.inr (Or.inr ⟨HG.out, HE.out, A1, A2, A3, A4, c1, c2, c3, c4, rfl, (R5.out.set6 (by omega) _ _ _ _ _ _).mono (by omega)⟩)⟩
    · have HE : Hid _ := hE
      have hEb : ((checkC nm code dA data.length ss rs).1 != 0) = true := by simpa using hE
      generalize hcE : (checkC nm code dA data.length ss rs).1 = E at *
      generalize hcN : (checkC nm code dA data.length ss rs).2 = N at *
      have hcE : Hid _ := hcE
      have hcN : Hid _ := hcN
      go_wp2_with fail
      refine (as_nil _ _).mono ?_
      rintro e w3 ⟨rfl, rfl⟩
      go_wp2_with fail
      refine D.mono ?_
      rintro e w5 ⟨rfl, h5⟩
      have hx5 : Hid (w5.heap[w.heap.size]? = some (.cells #[.string ⟨#[]⟩, .slice none 0 0, .int .i64 0, .slice none 0 0, .slice none 0 0, .slice none 0 0] 75 (0, 0))) := (h5.block w.heap.size (by simp; omega)).trans hbx3.out
      have hbw5 : Hid (Below w.heap.size w w5) := lb_trans hbw4.out h5
      obtain ⟨e0, e1, e2, e3, e4, e5⟩ := box6_cell hx5.out
      obtain ⟨f0, f1, f2, f3, f4, f5⟩ := box6_fro hx5.out
      have hz5 : w.heap.size < w5.heap.size := (Array.getElem?_eq_some_iff.1 hx5.out).1
      clear h5 D hE
      go_wp2_with fail
      refine bodyPost_ret (v := .tuple #[.agg #[.string ⟨#[]⟩, .slice none 0 0, .int .i64 0, .slice none 0 0, .slice none 0 0, .slice none 0 0], .int .i64 E, .int .i64 N]) (by simp [results, Tryz.results29, go_sem, e0, e1, e2, e3, e4, e5]) rfl ?_
      unfold ReadP
      rw [hTk.out]
      refine ⟨below_set6 hbw5.out (Nat.le_refl _) _ _ _ _ _ _, Or.inr (Or.inl ⟨HG.out, ?_, ?_⟩)⟩
      · rw [hcE.out]; exact HE.out
      · rw [hcE.out, hcN.out]
  · go_enter Tryz.func29, Tryz.ntmps29
    go_wp2_with fail
    refine C.mono ?_
    intro r w2 hr
    obtain ⟨hb2, ⟨h0, _⟩ | ⟨_, u, hu, rfl⟩⟩ := hr
    · exact absurd h0 hg
    obtain ⟨x, B1, B2, B3, B4, n1, n2, n3, n4, d1, d2, d3, d4, y, rfl⟩ := hu
    have HG : Hid _ := hg
    clear hg C
    have hbw : Hid (Below w.heap.size w w2) := but_below hb1.out hb2
    have hbx : Hid _ := but_box hb2 hbx1.out (by omega)
    have hz := (Array.getElem?_eq_some_iff.1 hbx.out).1
    generalize hE : (took b).t.bad = E at *
    generalize hP : (took b).t.place = Q at *
    have hE : Hid _ := hE
    have hP : Hid _ := hP
    have hT2 : Hid (((w2.alloc (.cells #[.string x, .slice B1 n1 d1, .int .i64 y, .slice B2 n2 d2, .slice B3 n3 d3, .slice B4 n4 d4] 75)).alloc (.cells #[.int .i64 0, .int .i64 0] 161)).cell? ⟨0, 0, none⟩ = some errT) := lkeep (lb_alloc (lb_alloc hbw.out _) _) hT
    have hbx3 : Hid (((w2.alloc (.cells #[.string x, .slice B1 n1 d1, .int .i64 y, .slice B2 n2 d2, .slice B3 n3 d3, .slice B4 n4 d4] 75)).alloc (.cells #[.int .i64 0, .int .i64 0] 161)).heap[w.heap.size]? = some (.cells #[.string ⟨#[]⟩, .slice none 0 0, .int .i64 0, .slice none 0 0, .slice none 0 0, .slice none 0 0] 75 (0, 0))) := by
      show _ = _
      rw [(lb_alloc (lb_alloc (Below.refl _ w2) _) _).block w.heap.size hz]
      exact hbx.out
    have hbx4 : Hid (((w2.alloc (.cells #[.string x, .slice B1 n1 d1, .int .i64 y, .slice B2 n2 d2, .slice B3 n3 d3, .slice B4 n4 d4] 75)).alloc (.cells #[.int .i64 0, .int .i64 0] 161)).heap[w2.heap.size + 1]? = some (.cells #[.int .i64 0, .int .i64 0] 161 (0, 0))) := by
      have := heap_alloc_new (w2.alloc (.cells #[.string x, .slice B1 n1 d1, .int .i64 y, .slice B2 n2 d2, .slice B3 n3 d3, .slice B4 n4 d4] 75)) (.cells #[.int .i64 0, .int .i64 0] 161)
      rw [show (w2.alloc (.cells #[.string x, .slice B1 n1 d1, .int .i64 y, .slice B2 n2 d2, .slice B3 n3 d3, .slice B4 n4 d4] 75)).heap.size = w2.heap.size + 1 by simp] at this
      exact this
    have hbw4 : Hid (Below w.heap.size w ((w2.alloc (.cells #[.string x, .slice B1 n1 d1, .int .i64 y, .slice B2 n2 d2, .slice B3 n3 d3, .slice B4 n4 d4] 75)).alloc (.cells #[.int .i64 0, .int .i64 0] 161))) := lb_alloc (lb_alloc hbw.out _) _
    clear hb2
    go_wp2_with fail
    refine (as_hit2 (w2.heap.size + 1) E Q (.int .i64 0) (.int .i64 0) _ hT2.out (box2_cell hbx4.out).1 (box2_cell hbx4.out).2 (box_fro hbx4.out _) (box_fro hbx4.out _)).mono ?_
    rintro e w3 ⟨rfl, t0, t1, hb3⟩
    have hbx5 := but_box hb3 hbx3.out (by omega)
    have hbw5 : Hid (Below w.heap.size w w3) := ⟨hb3.1.trans hbw4.out.os, hb3.2.1.trans hbw4.out.tape, hb3.2.2.1.trans hbw4.out.output, Nat.le_trans hbw4.out.size hb3.2.2.2.1, fun k hk => (hb3.2.2.2.2 k (Nat.lt_of_lt_of_le hk hbw4.out.size) (by omega)).trans (hbw4.out.block k hk)⟩
    obtain ⟨e0, e1, e2, e3, e4, e5⟩ := box6_cell hbx5
    obtain ⟨f0, f1, f2, f3, f4, f5⟩ := box6_fro hbx5
    have hz3 : w.heap.size < w3.heap.size := (Array.getElem?_eq_some_iff.1 hbx5).1
    clear hb3 hbx5
    go_wp2_with fail
    go_region
    all_goals go_wp2_with fail
    all_goals
      refine bodyPost_ret (v := .tuple #[.agg #[.string ⟨#[]⟩, .slice none 0 0, .int .i64 0, .slice none 0 0, .slice none 0 0, .slice none 0 0], .int .i64 E, .int .i64 Q]) (by simp [results, Tryz.results29, go_sem, e0, e1, e2, e3, e4, e5]) rfl ⟨?_, Or.inl ⟨fun h => HG.out (hE.out ▸ h), by rw [hE.out, hP.out]⟩⟩
      have hbz := hbw5.out
      repeat' (first | with_reducible assumption | with_reducible refine Below.setCell ?_ ?_ _ | with_reducible refine Below.drew ?_ | exact Nat.le_refl _)


end Go.Proofs.YthpkekpojhmaaaaGreatDoor

namespace Go.Proofs.YthpkekpojhmaaaaGreatDoor
open Go.ChangeShapes Go.WideShapes Go.RowKit

theorem etVar : Tryz.prog.globalNamed "errors.errorType" = some 0 := by kernel_rfl
theorem rtType : (Tryz.prog.cutTypes.find? (·.1 == "internal/reflectlite.rtype")).map (·.2) = some 281 := by kernel_rfl
theorem oneRow : ((List.range 341).filter fun t => Tryz.prog.rowNamed t [101, 114, 114, 111, 114]) = [154] := by kernel_rfl
theorem typeCount : Tryz.prog.types.size = 341 := by kernel_rfl
/-- The handle's one cell. -/
theorem cell_of_handle {l : List (String × DataW Unit)} {W : World} (hm : ("errors.errorType", Rows.laid_errors_errorType) ∈ l) (h : handlesMet Tryz.prog l W) : W.cell? ⟨0, 0, none⟩ = some errT := by
  obtain ⟨name, u, ty, e1, e2, e3, e4, e5⟩ := h _ hm
  have en : name = [101, 114, 114, 111, 114] := (Option.some.inj e1).symm
  subst en
  obtain rfl := Option.some.inj (rtType.symm.trans e2)
  have hm : ty ∈ (List.range 341).filter fun t => Tryz.prog.rowNamed t [101, 114, 114, 111, 114] := List.mem_filter.2 ⟨List.mem_range.2 (by rw [← typeCount]; exact e3), e4⟩
  rw [oneRow] at hm
  obtain rfl := List.mem_singleton.1 hm
  have hh : typeHandle Tryz.prog 154 = .pointer (some ⟨4, 154, none⟩) := by kernel_rfl
  rw [hh] at e5
  simpa [errT] using World.var?_cell etVar e5 0
abbrev laidR : List (String × DataW Unit) := [("errors.errorType", Rows.laid_errors_errorType)]
theorem handR {W : World} (h : laidMetH Tryz.prog laidR W) : W.cell? ⟨0, 0, none⟩ = some errT := by
  have h' : laidMet Tryz.prog [] W ∧ handlesMet Tryz.prog laidR W := h
  exact cell_of_handle (List.mem_singleton.2 rfl) h'.2
/-- A world that meets it. -/
noncomputable def handW (os : Os) : World :=
  let w0 := World.holding Tryz.prog os ⟨#[], #[], []⟩
  { w0 with heap := w0.heap.modify 0 fun
      | .cells _ t frozen => .cells #[errT] t frozen
      | o => o }
theorem handW_met (os : Os) (args : Array Value) : laidMetH Tryz.prog laidR ((handW os).forCall (fun _ _ => 0) ⟨#[], args, []⟩).memory :=
  laidMetH_of_parts (laidMet_nil _ _) (by kernel_rfl)
end Go.Proofs.YthpkekpojhmaaaaGreatDoor

namespace Go.Proofs.YthpkekpojhmaaaaGreatDoor
open Go.RowKit

/-- May a word be the last one? -/
def lastOK (w : Int) : Bool := decide (dOp w = 0 ∨ dOp w = 15 ∨ dOp w = 19 ∨ dOp w = 21)
/-- Does the word at a place have a target behind the text? -/
def farT (text : List Int) (i : Nat) : Bool := isT (nth text i) && decide ((text.length : Int) ≤ tgV (nth text i))
/-- What Check tells. -/
def checkI (text : List Int) (ml : Nat) (ent : Int) : Int × Int :=
  if text.length = 0 then (50, 0) else if 16384 < text.length then (42, 16384) else if 4096 < ml then (25, 4096) else if ent < 0 ∨ (text.length : Int) ≤ ent then (41, 0) else
  match (List.range text.length).find? (farT text) with
  | some i => (22, i)
  | none => if lastOK (nth text (text.length - 1)) then (0, 0) else (50, ((text.length - 1 : Nat) : Int))
/-- What is past the first four looks. -/
structure Past (text : List Int) (ml : Nat) (ent : Int) : Prop where
  pos : 0 < text.length
  len : text.length ≤ 16384
  mem : ml ≤ 4096
  ent0 : 0 ≤ ent
  ent1 : ent < text.length
theorem chkI_far {text : List Int} {ml : Nat} {ent : Int} {k : Nat} (h : Past text ml ent) (hk : k < text.length) (h0 : ∀ j, j < k → farT text j = false) (e : farT text k = true) : checkI text ml ent = (22, (k : Int)) := by
  have hf : (List.range text.length).find? (farT text) = some k := by
    rw [List.find?_range_eq_some]
    exact ⟨e, by simpa using hk, fun j hj => by rw [h0 j hj]; rfl⟩
  unfold checkI
  rw [if_neg (by have := h.pos; omega), if_neg (by have := h.len; omega), if_neg (by have := h.mem; omega), if_neg (by have := h.ent0; have := h.ent1; omega), hf]
theorem chkI_end {text : List Int} {ml : Nat} {ent : Int} (h : Past text ml ent) (h0 : ∀ j, j < text.length → farT text j = false) : checkI text ml ent = if lastOK (nth text (text.length - 1)) then (0, 0) else (50, ((text.length - 1 : Nat) : Int)) := by
  have hf : (List.range text.length).find? (farT text) = none := by
    rw [List.find?_eq_none]
    intro j hj
    rw [h0 j (by simpa using hj)]; simp
  unfold checkI
  rw [if_neg (by have := h.pos; omega), if_neg (by have := h.len; omega), if_neg (by have := h.mem; omega), if_neg (by have := h.ent0; have := h.ent1; omega), hf]
theorem chkI0 {text : List Int} {ml : Nat} {ent : Int} (h : text.length = 0) : checkI text ml ent = (50, 0) := by unfold checkI; rw [if_pos h]
theorem chkI1 {text : List Int} {ml : Nat} {ent : Int} (h0 : ¬ text.length = 0) (h : 16384 < text.length) : checkI text ml ent = (42, 16384) := by unfold checkI; rw [if_neg h0, if_pos h]
theorem chkI2 {text : List Int} {ml : Nat} {ent : Int} (h0 : ¬ text.length = 0) (h1 : ¬ 16384 < text.length) (h : 4096 < ml) : checkI text ml ent = (25, 4096) := by unfold checkI; rw [if_neg h0, if_neg h1, if_pos h]
theorem chkI3 {text : List Int} {ml : Nat} {ent : Int} (h0 : ¬ text.length = 0) (h1 : ¬ 16384 < text.length) (h2 : ¬ 4096 < ml) (h : ent < 0 ∨ (text.length : Int) ≤ ent) : checkI text ml ent = (41, 0) := by unfold checkI; rw [if_neg h0, if_neg h1, if_neg h2, if_pos h]
/-- An image that may be. -/
structure MayI (text : List Int) (ml : Nat) (ent : Int) : Prop where
  past : Past text ml ent
  far : ∀ j, j < text.length → farT text j = false
  last : lastOK (nth text (text.length - 1)) = true
theorem check_mayI {text : List Int} {ml : Nat} {ent : Int} (h : (checkI text ml ent).1 = 0) : MayI text ml ent := by
  by_cases h0 : text.length = 0
  · rw [chkI0 h0] at h; cases h
  by_cases h1 : 16384 < text.length
  · rw [chkI1 h0 h1] at h; cases h
  by_cases h2 : 4096 < ml
  · rw [chkI2 h0 h1 h2] at h; cases h
  by_cases h3 : ent < 0 ∨ (text.length : Int) ≤ ent
  · rw [chkI3 h0 h1 h2 h3] at h; cases h
  have hp : Past text ml ent := ⟨by omega, by omega, by omega, by omega, by omega⟩
  have hall : ∀ j, j < text.length → farT text j = false := by
    intro j
    induction j using Nat.strongRecOn with
    | ind j ih =>
      intro hj
      cases e : farT text j
      · rfl
      · rw [chkI_far hp hj (fun i hi => ih i hi (by omega)) e] at h; cases h
  refine ⟨hp, hall, ?_⟩
  rw [chkI_end hp hall] at h
  cases e : lastOK (nth text (text.length - 1))
  · rw [e] at h; cases h
  · rfl
theorem may_zero {text : List Int} {ml : Nat} {ent : Int} (h : MayI text ml ent) : checkI text ml ent = (0, 0) := by
  rw [chkI_end h.past h.far, h.last]; rfl
theorem chkI_pair {text : List Int} {ml : Nat} {ent : Int} (h : (checkI text ml ent).1 = 0) : checkI text ml ent = (0, 0) := may_zero (check_mayI h)
theorem chkI_range (text : List Int) (ml : Nat) (ent : Int) (h : text.length ≤ 1048576) : 0 ≤ (checkI text ml ent).1 ∧ (checkI text ml ent).1 ≤ 50 ∧ 0 ≤ (checkI text ml ent).2 ∧ (checkI text ml ent).2 ≤ 1048576 := by
  unfold checkI
  repeat' split
  all_goals (simp only; try omega)
  rename_i i hi
  have := List.mem_of_find?_eq_some hi
  simp at this
  omega


end Go.Proofs.YthpkekpojhmaaaaGreatDoor

namespace Go.Proofs.YthpkekpojhmaaaaGreatDoor
open Go.RowKit

theorem dOp_yes {v : Int} (h0 : 0 ≤ v) (h : isIns v = true) : 0 ≤ dOp v := by
  unfold dOp; rw [if_pos h]; unfold wOp; omega
theorem dOp_no {v : Int} (h : isIns v = false) : dOp v = -1 := by
  unfold dOp; rw [h]; rfl
theorem word_yes {v : Int} (h0 : 0 ≤ v) (h1 : v < 4294967296) (h : isIns v = true) : encV (dOp v) (dD v) (dA v) (dB v) (dN v) = v ∧ encE (dOp v) (dD v) (dA v) (dB v) (dN v) = 0 := by
  have e := enc_yes h0 h1 h
  unfold dOp dD dA dB dN
  rw [if_pos h, if_pos h, if_pos h, if_pos h, if_pos h]
  exact e
theorem word_no {v : Int} (h : isIns v = false) : encV (dOp v) (dD v) (dA v) (dB v) (dN v) = 0 ∧ encE (dOp v) (dD v) (dA v) (dB v) (dN v) = 10 := by
  rw [dOp_no h]
  unfold encV encE
  rw [if_pos (by omega), if_pos (by omega)]
  exact ⟨rfl, rfl⟩

theorem regOK_range {h : Bool} {r : Int} (hr : regOK h r = true) : 0 ≤ r ∧ r < 16 := by
  unfold regOK at hr
  cases h
  · simp at hr; omega
  · simp at hr; omega
theorem encE_ok {op d a b n : Int} (h : encE op d a b n = 0) : 0 ≤ op ∧ op ≤ 21 ∧ insOK op d a b n = true ∧ encV op d a b n = encW op d a b n := by
  unfold encE at h
  by_cases h1 : op < 0 ∨ 21 < op
  · rw [if_pos h1] at h; omega
  · rw [if_neg h1] at h
    cases hi : insOK op d a b n with
    | false => rw [hi] at h; simp at h
    | true =>
      refine ⟨by omega, by omega, rfl, ?_⟩
      unfold encV; rw [if_neg h1, hi]; rfl
theorem insOK_parts {op d a b n : Int} (h : insOK op d a b n = true) : (0 ≤ d ∧ d < 16) ∧ (0 ≤ a ∧ a < 16) ∧ (0 ≤ b ∧ b < 16) ∧ numOK (hN op) (hP op) n = true := by
  unfold insOK at h
  simp only [Bool.and_eq_true] at h
  exact ⟨regOK_range h.1.1.1, regOK_range h.1.1.2, regOK_range h.1.2, h.2⟩

theorem fields_enc {op d a b n : Int} (ho : 0 ≤ op ∧ op ≤ 21) (h : insOK op d a b n = true) :
    wOp (encW op d a b n) = op ∧ wD (encW op d a b n) = d ∧ wA (encW op d a b n) = a ∧ wB (encW op d a b n) = b ∧ wN (encW op d a b n) = n ∧ 0 ≤ encW op d a b n ∧ encW op d a b n < 4294967296 := by
  obtain ⟨hd, ha, hb, hn⟩ := insOK_parts h
  have e1 : wOp (encW op d a b n) = op := by unfold wOp encW; omega
  have e2 : wD (encW op d a b n) = d := by unfold wD encW; omega
  have e3 : wA (encW op d a b n) = a := by unfold wA encW; omega
  have e4 : wB (encW op d a b n) = b := by unfold wB encW; omega
  have e5 : encW op d a b n % 32768 = n % 32768 := by unfold encW; omega
  have e6 : 0 ≤ encW op d a b n ∧ encW op d a b n < 4294967296 := by unfold encW; omega
  refine ⟨e1, e2, e3, e4, ?_, e6.1, e6.2⟩
  unfold wN
  rw [e1, e5]
  unfold numOK at hn
  cases h1 : hN op with
  | false => rw [h1] at hn; simp at hn; subst hn; rfl
  | true =>
    rw [h1] at hn
    cases h2 : hP op with
    | true => rw [h2] at hn; simp at hn ⊢; omega
    | false =>
      rw [h2] at hn
      simp at hn
      by_cases hs : n < 0
      · have e7 : n % 32768 = n + 32768 := by omega
        rw [e7, decide_eq_true (by omega)]; simp
      · have e7 : n % 32768 = n := by omega
        rw [e7, decide_eq_false (by omega)]; simp

theorem dec_enc {op d a b n : Int} (h : encE op d a b n = 0) : dOp (encV op d a b n) = op ∧ dD (encV op d a b n) = d ∧ dA (encV op d a b n) = a ∧ dB (encV op d a b n) = b ∧ dN (encV op d a b n) = n := by
  obtain ⟨h1, h2, h3, h4⟩ := encE_ok h
  obtain ⟨e1, e2, e3, e4, e5, _, _⟩ := fields_enc ⟨h1, h2⟩ h3
  rw [h4]
  have hi : isIns (encW op d a b n) = true := by
    unfold isIns; rw [e1, e2, e3, e4, e5, h3, decide_eq_true h2]; rfl
  unfold dOp dD dA dB dN
  rw [if_pos hi, if_pos hi, if_pos hi, if_pos hi, if_pos hi]
  exact ⟨e1, e2, e3, e4, e5⟩
theorem enc_range (op d a b n : Int) : 0 ≤ encV op d a b n ∧ encV op d a b n < 4294967296 := by
  unfold encV
  by_cases h1 : op < 0 ∨ 21 < op
  · rw [if_pos h1]; omega
  · rw [if_neg h1]
    cases hi : insOK op d a b n with
    | false => simp
    | true =>
      obtain ⟨_, _, _, _, _, h, k⟩ := fields_enc ⟨by omega, by omega⟩ hi
      exact ⟨h, k⟩
theorem aim_range (v p : Int) : 0 ≤ aimV v p ∧ aimV v p < 4294967296 := by
  unfold aimV
  split
  · exact enc_range _ _ _ _ _
  · omega
theorem aim_target {v p : Int} (h : aimE v p = 0) : isT (aimV v p) = true ∧ tgV (aimV v p) = p := by
  unfold aimE at h
  cases hT : isT v with
  | false => rw [hT] at h; simp at h
  | true =>
    rw [hT] at h
    simp only [if_true] at h
    cases hp : decide (0 ≤ p ∧ p < 16384) with
    | false => rw [hp] at h; simp at h
    | true =>
      rw [hp] at h
      simp only [if_true] at h
      have ha : aimV v p = encV (dOp v) (dD v) (dA v) (dB v) p := by unfold aimV; rw [hT, hp]; rfl
      obtain ⟨e1, _, _, _, e5⟩ := dec_enc h
      have hq : isT (aimV v p) = true := by
        unfold isT; rw [ha, e1]; exact hT
      refine ⟨hq, ?_⟩
      unfold tgV; rw [hq, ha, e5]; rfl


end Go.Proofs.YthpkekpojhmaaaaGreatDoor

namespace Go.Proofs.YthpkekpojhmaaaaGreatDoor


section
variable {P : Program}
/-- An append of something: in place, or in a block made now with all the others as they were. -/
theorem run_append_two (w : World) (t ty e : TypeId) (i : TypeInfo) (z : Value) (size bytes : Nat) (ht : P.underlying t = some (.slice e)) (hi : P.info? e = some i) (hz : i.zero = some z)
    (hsize : i.size = size) (hby : i.bytes = bytes) (hzs : z.cells.size = size) (hsz : 0 < size)
    (v : Value) (n : Nat) (xs : List Value) (hown : w.ownsRow 0 e size v n xs)
    (a : Addr) (m c : Nat) (news : List Value) (hl : news.length = m * size) (hnews : ∀ j u, news[j]? = some u → w.cell? (a.add j) = some u) (h1 : ∀ u ∈ news, u.oneCell' = true)
    (hm : 0 < m) (h63 : n + m ≤ maxLen) (hbytes : (n + m) * bytes ≤ 140737488355328) :
    ∃ g cap w', (Builtin.append_ #[t, t] ty #[v, .slice (some a) m c]).run P w = .ok (.slice (some ⟨g, 0, none⟩) (n + m) cap) w' ∧
      w'.ownsRow 0 e size (.slice (some ⟨g, 0, none⟩) (n + m) cap) (n + m) (xs ++ news) ∧ w.grownBy w' v.ownBlock ∧ (v = .slice (some ⟨g, 0, none⟩) n cap ∨ (g = w.heap.size ∧ w.grownBy w' none)) := by
  obtain ⟨g', cap', w', hr, h2, h3, h4, _⟩ := run_append_lies (P := P) w t ty 0 e i z size bytes ht hi hz hsize hby hzs hsz v n xs hown a m c news hl hnews h1 hm h63 hbytes (Nat.zero_le _) _ rfl
  rcases hown.2 with ⟨rfl, rfl⟩ | ⟨g, cap, cur, rfl, hbg, hg, hnc, hcm, hcs, htake⟩
  · refine ⟨g', cap', w', hr, h2, h3, .inr ⟨?_, h3⟩⟩
    rcases h4 with h4 | h4
    · cases h4
    · exact h4
  · by_cases hroom : n + m ≤ cap
    · obtain ⟨w2, hr2, h5, h6⟩ := run_append_fits (P := P) w 0 t ty e i size ht hi hsize g n cap xs hown a m c news hl hnews h1 hroom
      exact ⟨g, cap, w2, hr2, h5, h6, .inl rfl⟩
    · subst hsize hby
      have hr2 := run_append_grow (P := P) w t ty e i z ht hi hz ⟨g, 0, none⟩ n cap xs hown.1 (hown.cells (g := g) rfl) a m c news hl hnews (by omega) (by simp only [maxLen] at h63; omega) (growslice_fits (by omega) hbytes)
      have e2 := hr.symm.trans hr2
      simp only [Result.ok.injEq, Value.slice.injEq, Option.some.injEq, Addr.mk.injEq, and_true, true_and] at e2
      obtain ⟨⟨e3, _⟩, e4⟩ := e2
      refine ⟨g', cap', w', hr, h2, h3, .inr ⟨e3, ?_⟩⟩
      rw [e4]
      exact ⟨rfl, rfl, rfl, by simp, fun k hk _ => Go.RowKit.Below.heap_alloc w.drew _ k hk⟩
theorem wp_append_two (w : World) {o : Oper} {a : Act} {K : Act → World → Prop} {Q : Exit → Act → World → Prop} (s x : Operand) (t : TypeId)
    (ho : o.op = .call { callee := .builtin .append, args := #[s, x], argTypes := #[t, t] })
    (e : TypeId) (i : TypeInfo) (z : Value) (size bytes : Nat) (ht : P.underlying t = some (.slice e)) (hi : P.info? e = some i) (hz : i.zero = some z)
    (hsize : i.size = size) (hby : i.bytes = bytes) (hzs : z.cells.size = size) (hsz : 0 < size)
    (v : Value) (n : Nat) (xs : List Value) (hs : a.eval s = v) (hown : w.ownsRow 0 e size v n xs)
    (ad : Addr) (m c : Nat) (news : List Value) (hx : a.eval x = .slice (some ad) m c) (hl : news.length = m * size) (hnews : ∀ j u, news[j]? = some u → w.cell? (ad.add j) = some u) (h1 : ∀ u ∈ news, u.oneCell' = true)
    (hm : 0 < m) (h63 : n + m ≤ maxLen) (hbytes : (n + m) * bytes ≤ 140737488355328)
    (h : ∀ g cap w', w'.ownsRow 0 e size (.slice (some ⟨g, 0, none⟩) (n + m) cap) (n + m) (xs ++ news) → w.grownBy w' v.ownBlock → (v = .slice (some ⟨g, 0, none⟩) n cap ∨ (g = w.heap.size ∧ w.grownBy w' none)) → K (a.put o.dst (.slice (some ⟨g, 0, none⟩) (n + m) cap)) w') : o.wp P a w K Q := by
  obtain ⟨g, cap, w', hr, h2, h3, h4⟩ := run_append_two (P := P) w t o.type e i z size bytes ht hi hz hsize hby hzs hsz v n xs hown ad m c news hl hnews h1 hm h63 hbytes
  unfold Oper.wp execOp
  simp only [ho, resolve, invoke, builtin, Sem.run_bind, Sem.run_pure, Result.andThen_ok, List.map_toArray, List.map_cons, List.map_nil, hs, hx, hr]
  exact h g cap w' h2 h3 h4
theorem wpList_append_two (w : World) {ops : Array Oper} {rest : List Oper} {o : Oper} {a : Act} {Q : Exit → Act → World → Prop} (hgd : o.guard = none) (s x : Operand) (t : TypeId)
    (ho : o.op = .call { callee := .builtin .append, args := #[s, x], argTypes := #[t, t] })
    (e : TypeId) (i : TypeInfo) (z : Value) (size bytes : Nat) (ht : P.underlying t = some (.slice e)) (hi : P.info? e = some i) (hz : i.zero = some z)
    (hsize : i.size = size) (hby : i.bytes = bytes) (hzs : z.cells.size = size) (hsz : 0 < size)
    (v : Value) (n : Nat) (xs : List Value) (hs : a.eval s = v) (hown : w.ownsRow 0 e size v n xs)
    (ad : Addr) (m c : Nat) (news : List Value) (hx : a.eval x = .slice (some ad) m c) (hl : news.length = m * size) (hnews : ∀ j u, news[j]? = some u → w.cell? (ad.add j) = some u) (h1 : ∀ u ∈ news, u.oneCell' = true)
    (hm : 0 < m) (h63 : n + m ≤ maxLen) (hbytes : (n + m) * bytes ≤ 140737488355328)
    (h : ∀ g cap w', w'.ownsRow 0 e size (.slice (some ⟨g, 0, none⟩) (n + m) cap) (n + m) (xs ++ news) → w.grownBy w' v.ownBlock → (v = .slice (some ⟨g, 0, none⟩) n cap ∨ (g = w.heap.size ∧ w.grownBy w' none)) → wpList P ops Q rest (a.put o.dst (.slice (some ⟨g, 0, none⟩) (n + m) cap)) w') : wpList P ops Q (o :: rest) a w :=
  wpList_plain hgd fun _ hK => wp_append_two w s x t ho e i z size bytes ht hi hz hsize hby hzs hsz v n xs hs hown ad m c news hx hl hnews h1 hm h63 hbytes fun g cap w' h2 h3 h4 => hK _ _ (h g cap w' h2 h3 h4)
end

/-- L marks of the list n. -/
def marks (mk : Nat → Nat → List Value) (n L : Nat) : List Value := (List.range L).flatMap (mk n)
theorem marks_zero (mk : Nat → Nat → List Value) (n : Nat) : marks mk n 0 = [] := rfl
theorem marks_succ (mk : Nat → Nat → List Value) (n L : Nat) : marks mk n (L + 1) = marks mk n L ++ mk n L := by simp [marks, List.range_succ]
theorem marks_len {mk : Nat → Nat → List Value} {size : Nat} (h : ∀ n i, (mk n i).length = size) (n L : Nat) : (marks mk n L).length = L * size := by
  induction L with
  | zero => simp [marks]
  | succ L ih => rw [marks_succ, List.length_append, ih, h, Nat.succ_mul]
theorem marks_take {mk : Nat → Nat → List Value} {size : Nat} (h : ∀ n i, (mk n i).length = size) (n : Nat) {L M : Nat} (hL : L ≤ M) : (marks mk n M).take (L * size) = marks mk n L := by
  induction M with
  | zero =>
    obtain rfl : L = 0 := by omega
    simp [marks]
  | succ M ih =>
    by_cases e : L = M + 1
    · subst e
      rw [List.take_of_length_le (by rw [marks_len h]; exact Nat.le_refl _)]
    · rw [marks_succ, List.take_append_of_le_length (by rw [marks_len h]; exact Nat.mul_le_mul_right _ (by omega))]
      exact ih (by omega)
theorem marks_get {mk : Nat → Nat → List Value} {size : Nat} (h : ∀ n i, (mk n i).length = size) (n : Nat) {L i j : Nat} (hi : i < L) (hj : j < size) : (marks mk n L)[i * size + j]? = (mk n i)[j]? := by
  have h1 : (marks mk n (i + 1))[i * size + j]? = (mk n i)[j]? := by
    rw [marks_succ, List.getElem?_append_right (by rw [marks_len h]; omega), marks_len h]
    congr 1
    omega
  rw [← h1, ← marks_take h n (show i + 1 ≤ L by omega), List.getElem?_take, if_pos (by rw [Nat.succ_mul]; omega)]

/-- A row stays where another block grows. -/
theorem own_apart {w w' : World} {base : Nat} {e : TypeId} {size : Nat} {v : Value} {n : Nat} {xs : List Value} {row : Option Nat} (h : w.ownsRow base e size v n xs) (hg : w.grownBy w' row) (hne : ∀ b, v.ownBlock = some b → row ≠ some b) : w'.ownsRow base e size v n xs := by
  refine h.kept hg ?_
  cases hv : v.ownBlock with
  | none => exact .inl rfl
  | some b => exact .inr (fun e => hne b hv e.symm)
/-- What lies in a block's cells is of one kind. -/
theorem own_block {w : World} {base : Nat} {e : TypeId} {size : Nat} {v : Value} {n : Nat} {xs : List Value} (h : w.ownsRow base e size v n xs) {b : Nat} (hb : v.ownBlock = some b) : ∃ cur, w.heap[b]? = some (.cells cur e (0, 0)) := by
  rcases h.2 with ⟨rfl, _⟩ | ⟨g, cap, cur, rfl, _, hg, _⟩
  · cases hb
  · cases hb
    exact ⟨cur, hg⟩
/-- A row of one kind is not a block of another. -/
def Not (w : World) (e : TypeId) (row : Option Nat) : Prop := ∀ b, row = some b → ∀ cur, w.heap[b]? ≠ some (.cells cur e (0, 0))
theorem own_other {w w' : World} {base : Nat} {e : TypeId} {size : Nat} {v : Value} {n : Nat} {xs : List Value} {row : Option Nat} (h : w.ownsRow base e size v n xs) (hg : w.grownBy w' row) (hne : Not w e row) : w'.ownsRow base e size v n xs :=
  own_apart h hg fun b hb hr => by
    obtain ⟨cur, hc⟩ := own_block h hb
    exact hne b hr cur hc
theorem own_not {w : World} {base : Nat} {e : TypeId} {size : Nat} {v : Value} {n : Nat} {xs : List Value} (h : w.ownsRow base e size v n xs) {e' : TypeId} (hne : e ≠ e') : Not w e' v.ownBlock := fun b hb cur hc => by
  obtain ⟨c2, hc2⟩ := own_block h hb
  rw [hc2] at hc
  simp only [Option.some.injEq, Obj.cells.injEq] at hc
  exact hne hc.2.1

/-- A bag's rows: each a value and its length. -/
def rv (rs : List (Value × Nat)) (m : Nat) : Value := (rs.getD m (.slice none 0 0, 0)).1
def rl (rs : List (Value × Nat)) (m : Nat) : Nat := (rs.getD m (.slice none 0 0, 0)).2
def vn (os : List Value) (m : Nat) : Value := os.getD m (.slice none 0 0)
theorem vn_map (rs : List (Value × Nat)) (m : Nat) (h : m < rs.length) : vn (rs.map Prod.fst) m = rv rs m := by simp [vn, rv, h]
theorem vn_last (os : List Value) (x : Value) : vn (os ++ [x]) os.length = x := by simp [vn]
theorem vn_old (os : List Value) (x : Value) (j : Nat) (h : j < os.length) : vn (os ++ [x]) j = vn os j := by
  unfold vn
  rw [List.getD_eq_getElem?_getD, List.getD_eq_getElem?_getD, List.getElem?_append_left h]
/-- Two lists of lists that lie apart, by blocks. -/
def Off (a b : Option Nat) : Prop := ∀ k, a = some k → b ≠ some k
theorem Off.symm {a b : Option Nat} (h : Off a b) : Off b a := fun k hb ha => h k ha hb

section
variable (T TS : TypeId) (size : Nat) (mk : Nat → Nat → List Value) (rs : List (Value × Nat))
/-- What is held: a bag's row, or one grown by one, or by seventy. -/
def Held (os ms : List Value) (v : Value) (k L : Nat) : Prop :=
  (k < rs.length ∧ v = rv rs k ∧ L = rl rs k) ∨ (k < os.length ∧ v = vn os k ∧ L = rl rs k + 1) ∨ (k < ms.length ∧ v = vn ms k ∧ L = rl rs k + 70)
/-- The three lists of lists. -/
structure Three (w : World) (V O M : Value) (os ms : List Value) : Prop where
  bag : w.ownsRow 0 TS 1 V rs.length (rs.map Prod.fst)
  one : w.ownsRow 0 TS 1 O os.length os
  more : w.ownsRow 0 TS 1 M ms.length ms
  vo : Off V.ownBlock O.ownBlock
  vm : Off V.ownBlock M.ownBlock
  om : Off O.ownBlock M.ownBlock
/-- All that is other: the bag's rows, and what is new. -/
structure Fr (w0 w : World) : Prop where
  os : w.os = w0.os
  tape : w.tape = w0.tape
  output : w.output = w0.output
  size : w0.heap.size ≤ w.heap.size
  block : ∀ b, b < w0.heap.size → (∀ m, m < rs.length → (rv rs m).ownBlock ≠ some b) → w.heap[b]? = w0.heap[b]?
/-- Whose block it may be. -/
def Mine (w0 : World) (row : Option Nat) : Prop := ∀ b, row = some b → w0.heap.size ≤ b ∨ ∃ m, m < rs.length ∧ (rv rs m).ownBlock = some b
/-- Ahead of the list n. -/
structure Out (w0 w : World) (n : Nat) (V O M : Value) (os ms : List Value) : Prop where
  three : Three TS rs w V O M os ms
  fr : Fr rs w0 w
  mo : Mine rs w0 O.ownBlock
  mm : Mine rs w0 M.ownBlock
  held : ∀ v k L, Held rs os ms v k L → w.ownsRow 0 T size v L (marks mk k L) ∧ ∀ m, n ≤ m → m < rs.length → ∀ b, v.ownBlock = some b → (rv rs m).ownBlock = some b → L ≤ rl rs m
/-- At the list n, grown to i. -/
structure Ap (w0 w : World) (n : Nat) (V O M : Value) (os ms : List Value) (l : Value) (i : Nat) : Prop where
  out : Out T TS size mk rs w0 w (n + 1) V O M os ms
  cur : w.ownsRow 0 T size l i (marks mk n i)
  my : Mine rs w0 l.ownBlock
  far : ∀ m, n + 1 ≤ m → m < rs.length → Off l.ownBlock (rv rs m).ownBlock
  safe : ∀ v k L, Held rs os ms v k L → ∀ b, v.ownBlock = some b → l.ownBlock = some b → L ≤ i

variable {T TS size mk rs}
theorem Fr.grown {w0 w w' : World} {row : Option Nat} (h : Fr rs w0 w) (hg : w.grownBy w' row) (hm : Mine rs w0 row) : Fr rs w0 w' := by
  refine ⟨hg.os.trans h.os, hg.tape.trans h.tape, hg.output.trans h.output, Nat.le_trans h.size hg.size, fun b hb hn => ?_⟩
  rw [hg.block b (Nat.lt_of_lt_of_le hb h.size) (fun e => ?_), h.block b hb hn]
  rcases hm b e.symm with h1 | ⟨m, h1, h2⟩
  · omega
  · exact hn m h1 h2
theorem Three.other {w w' : World} {V O M : Value} {os ms : List Value} {row : Option Nat} (h : Three TS rs w V O M os ms) (hg : w.grownBy w' row) (hn : Not w TS row) : Three TS rs w' V O M os ms :=
  ⟨own_other h.bag hg hn, own_other h.one hg hn, own_other h.more hg hn, h.vo, h.vm, h.om⟩
/-- A block's number, of one that is owned. -/
theorem own_lt {w : World} {base : Nat} {e : TypeId} {size : Nat} {v : Value} {n : Nat} {xs : List Value} (h : w.ownsRow base e size v n xs) {b : Nat} (hb : v.ownBlock = some b) : b < w.heap.size := (h.lt b hb).2
/-- Where a row is behind an append. -/
def Grew (w w' : World) (v : Value) (n g cap : Nat) : Prop := v = .slice (some ⟨g, 0, none⟩) n cap ∨ (g = w.heap.size ∧ w.grownBy w' none)
theorem Grew.off {w w' : World} {v : Value} {n g cap n' : Nat} {base : Nat} {e : TypeId} {size : Nat} {u : Value} {k : Nat} {xs : List Value} (h : Grew w w' v n g cap) (hu : w.ownsRow base e size u k xs) (ho : Off u.ownBlock v.ownBlock) : Off u.ownBlock (Value.slice (some ⟨g, 0, none⟩) n' cap).ownBlock := by
  rcases h with rfl | ⟨rfl, _⟩
  · exact ho
  · intro b hb e
    have := own_lt hu hb
    simp only [Value.ownBlock, Option.some.injEq] at e
    omega
theorem Grew.mine {w w' w0 : World} {v : Value} {n g cap n' : Nat} (h : Grew w w' v n g cap) (hs : w0.heap.size ≤ w.heap.size) (hm : Mine rs w0 v.ownBlock) : Mine rs w0 (Value.slice (some ⟨g, 0, none⟩) n' cap).ownBlock := by
  rcases h with rfl | ⟨rfl, _⟩
  · exact hm
  · intro b e
    simp only [Value.ownBlock, Option.some.injEq] at e
    left
    omega
theorem Three.addOne {w w' : World} {V O M : Value} {os ms : List Value} {x : Value} {g cap : Nat} (h : Three TS rs w V O M os ms) (ho : w'.ownsRow 0 TS 1 (.slice (some ⟨g, 0, none⟩) (os.length + 1) cap) (os.length + 1) (os ++ [x])) (hg : w.grownBy w' O.ownBlock) (hw : Grew w w' O os.length g cap) :
    Three TS rs w' V (.slice (some ⟨g, 0, none⟩) (os.length + 1) cap) M (os ++ [x]) ms := by
  refine ⟨own_apart h.bag hg h.vo, by rw [List.length_append]; exact ho, own_apart h.more hg (fun b hb e => h.om b e hb), hw.off h.bag h.vo, h.vm, ?_⟩
  exact (hw.off h.more h.om.symm).symm
theorem Three.addMore {w w' : World} {V O M : Value} {os ms : List Value} {x : Value} {g cap : Nat} (h : Three TS rs w V O M os ms) (ho : w'.ownsRow 0 TS 1 (.slice (some ⟨g, 0, none⟩) (ms.length + 1) cap) (ms.length + 1) (ms ++ [x])) (hg : w.grownBy w' M.ownBlock) (hw : Grew w w' M ms.length g cap) :
    Three TS rs w' V O (.slice (some ⟨g, 0, none⟩) (ms.length + 1) cap) os (ms ++ [x]) := by
  refine ⟨own_apart h.bag hg h.vm, own_apart h.one hg h.om, by rw [List.length_append]; exact ho, h.vo, hw.off h.bag h.vm, ?_⟩
  exact hw.off h.one h.om
/-- A held row stays while the current one grows. -/
theorem held_grow (hmk : ∀ n i, (mk n i).length = size) (_hsz : 0 < size) {w w' : World} {v l : Value} {k L n i g cap : Nat} (hv : w.ownsRow 0 T size v L (marks mk k L)) (hl : w.ownsRow 0 T size l i (marks mk n i)) (hs : ∀ b, v.ownBlock = some b → l.ownBlock = some b → L ≤ i)
    (ho : w'.ownsRow 0 T size (.slice (some ⟨g, 0, none⟩) (i + 1) cap) (i + 1) (marks mk n (i + 1))) (hg : w.grownBy w' l.ownBlock) (hw : Grew w w' l i g cap) : w'.ownsRow 0 T size v L (marks mk k L) := by
  rcases hw with rfl | ⟨_, h0⟩
  · by_cases hb : v.ownBlock = some g
    · have hLi := hs g hb rfl
      refine ⟨hv.1, ?_⟩
      rcases hv.2 with h1 | ⟨gv, cv, cur, rfl, _, hgv, hLc, hcm, hcs, htk⟩
      · exact .inl h1
      · obtain rfl : gv = g := by simpa [Value.ownBlock] using hb
        rcases hl.2 with ⟨e1, _⟩ | ⟨g2, c2, cur2, e2, _, hg2, _, _, hcs2, htk2⟩
        · cases e1
        · cases e2
          rw [hgv] at hg2
          cases hg2
          rcases ho.2 with ⟨e1, _⟩ | ⟨g3, c3, cur3, e3, _, hg3, _, _, hcs3, htk3⟩
          · cases e1
          · cases e3
            refine .inr ⟨gv, cv, cur3, rfl, Nat.zero_le _, hg3, hLc, hcm, by omega, ?_⟩
            have a1 : cur3.toList.take (L * size) = marks mk n L := by
              have := congrArg (List.take (L * size)) htk3
              rwa [List.take_take, Nat.min_eq_left (Nat.mul_le_mul_right _ (by omega)), marks_take hmk n (by omega)] at this
            have a2 : cur.toList.take (L * size) = marks mk n L := by
              have := congrArg (List.take (L * size)) htk2
              rwa [List.take_take, Nat.min_eq_left (Nat.mul_le_mul_right _ hLi), marks_take hmk n hLi] at this
            rw [a1, ← a2, htk]
    · exact own_apart hv hg fun b hb' e => by
        have : b = g := by simpa [Value.ownBlock] using e.symm
        exact hb (this ▸ hb')
  · exact own_apart hv h0 fun b _ e => by cases e
theorem Out.other {w0 w w' : World} {n : Nat} {V O M : Value} {os ms : List Value} {row : Option Nat} (h : Out T TS size mk rs w0 w n V O M os ms) (hg : w.grownBy w' row) (hn : Not w TS row) (hn2 : Not w T row) (hm : Mine rs w0 row) : Out T TS size mk rs w0 w' n V O M os ms :=
  ⟨h.three.other hg hn, h.fr.grown hg hm, h.mo, h.mm, fun v k L hh => ⟨own_other (h.held v k L hh).1 hg hn2, (h.held v k L hh).2⟩⟩
/-- The current row grows by one. -/
theorem Ap.grow (hmk : ∀ n i, (mk n i).length = size) (hsz : 0 < size) (hT : T ≠ TS) {w0 w w' : World} {n : Nat} {V O M : Value} {os ms : List Value} {l : Value} {i g cap : Nat} (h : Ap T TS size mk rs w0 w n V O M os ms l i)
    (ho : w'.ownsRow 0 T size (.slice (some ⟨g, 0, none⟩) (i + 1) cap) (i + 1) (marks mk n i ++ mk n i)) (hg : w.grownBy w' l.ownBlock) (hw : l = .slice (some ⟨g, 0, none⟩) i cap ∨ (g = w.heap.size ∧ w.grownBy w' none)) : Ap T TS size mk rs w0 w' n V O M os ms (.slice (some ⟨g, 0, none⟩) (i + 1) cap) (i + 1) := by
  rw [← marks_succ] at ho
  have hw' : Grew w w' l i g cap := hw
  refine ⟨⟨h.out.three.other hg (own_not h.cur hT), h.out.fr.grown hg h.my, h.out.mo, h.out.mm, fun v k L hh => ⟨held_grow hmk hsz (h.out.held v k L hh).1 h.cur (h.safe v k L hh) ho hg hw', (h.out.held v k L hh).2⟩⟩, ho, hw'.mine h.out.fr.size h.my, fun m h1 h2 => ?_, fun v k L hh b hb e => ?_⟩
  · exact (hw'.off (h.out.held _ _ _ (.inl ⟨h2, rfl, rfl⟩)).1 (h.far m h1 h2).symm).symm
  · rcases hw' with rfl | ⟨rfl, _⟩
    · exact Nat.le_succ_of_le (h.safe v k L hh b hb e)
    · have := own_lt (h.out.held v k L hh).1 hb
      simp only [Value.ownBlock, Option.some.injEq] at e
      omega
/-- The row grown by one is kept. -/
theorem Ap.addOne (hT : T ≠ TS) {w0 w w' : World} {n : Nat} {V O M : Value} {os ms : List Value} {l : Value} {i g cap : Nat} (h : Ap T TS size mk rs w0 w n V O M os ms l i) (hi : i = rl rs n + 1) (hos : os.length = n)
    (ho : w'.ownsRow 0 TS 1 (.slice (some ⟨g, 0, none⟩) (os.length + 1) cap) (os.length + 1) (os ++ [l])) (hg : w.grownBy w' O.ownBlock) (hw : O = .slice (some ⟨g, 0, none⟩) os.length cap ∨ (g = w.heap.size ∧ w.grownBy w' none)) :
    Ap T TS size mk rs w0 w' n V (.slice (some ⟨g, 0, none⟩) (os.length + 1) cap) M (os ++ [l]) ms l i := by
  have hw' : Grew w w' O os.length g cap := hw
  have hno := own_not h.out.three.one (e' := T) hT.symm
  have hc : w'.ownsRow 0 T size l i (marks mk n i) := own_other h.cur hg hno
  have hd : ∀ v k L, Held rs (os ++ [l]) ms v k L → Held rs os ms v k L ∨ (v = l ∧ k = n ∧ L = i) := by
    rintro v k L (h1 | ⟨h1, h2, h3⟩ | h1)
    · exact .inl (.inl h1)
    · by_cases e : k < os.length
      · exact .inl (.inr (.inl ⟨e, by rw [h2, vn_old _ _ _ e], h3⟩))
      · obtain rfl : k = os.length := by simp at h1; omega
        rw [vn_last] at h2
        exact .inr ⟨h2, hos, by rw [h3, hos, hi]⟩
    · exact .inl (.inr (.inr h1))
  refine ⟨⟨h.out.three.addOne ho hg hw', h.out.fr.grown hg h.out.mo, hw'.mine h.out.fr.size h.out.mo, h.out.mm, fun v k L hh => ?_⟩, hc, h.my, h.far, fun v k L hh b hb e => ?_⟩
  · rcases hd v k L hh with hh | ⟨rfl, rfl, rfl⟩
    · exact ⟨own_other (h.out.held v k L hh).1 hg hno, (h.out.held v k L hh).2⟩
    · exact ⟨hc, fun m h1 h2 b hb e => absurd e (h.far m h1 h2 b hb)⟩
  · rcases hd v k L hh with hh | ⟨rfl, rfl, rfl⟩
    · exact h.safe v k L hh b hb e
    · exact Nat.le_refl _
/-- The row grown by seventy is kept: on to the next. -/
theorem Ap.addMore (hT : T ≠ TS) {w0 w w' : World} {n : Nat} {V O M : Value} {os ms : List Value} {l : Value} {i g cap : Nat} (h : Ap T TS size mk rs w0 w n V O M os ms l i) (hi : i = rl rs n + 70) (hms : ms.length = n)
    (ho : w'.ownsRow 0 TS 1 (.slice (some ⟨g, 0, none⟩) (ms.length + 1) cap) (ms.length + 1) (ms ++ [l])) (hg : w.grownBy w' M.ownBlock) (hw : M = .slice (some ⟨g, 0, none⟩) ms.length cap ∨ (g = w.heap.size ∧ w.grownBy w' none)) :
    Out T TS size mk rs w0 w' (n + 1) V O (.slice (some ⟨g, 0, none⟩) (ms.length + 1) cap) os (ms ++ [l]) := by
  have hw' : Grew w w' M ms.length g cap := hw
  have hno := own_not h.out.three.more (e' := T) hT.symm
  have hc : w'.ownsRow 0 T size l i (marks mk n i) := own_other h.cur hg hno
  refine ⟨h.out.three.addMore ho hg hw', h.out.fr.grown hg h.out.mm, h.out.mo, hw'.mine h.out.fr.size h.out.mm, fun v k L hh => ?_⟩
  have hd : Held rs os ms v k L ∨ (v = l ∧ k = n ∧ L = i) := by
    rcases hh with h1 | h1 | ⟨h1, h2, h3⟩
    · exact .inl (.inl h1)
    · exact .inl (.inr (.inl h1))
    · by_cases e : k < ms.length
      · exact .inl (.inr (.inr ⟨e, by rw [h2, vn_old _ _ _ e], h3⟩))
      · obtain rfl : k = ms.length := by simp at h1; omega
        rw [vn_last] at h2
        exact .inr ⟨h2, hms, by rw [h3, hms, hi]⟩
  rcases hd with hh | ⟨rfl, rfl, rfl⟩
  · exact ⟨own_other (h.out.held v k L hh).1 hg hno, (h.out.held v k L hh).2⟩
  · exact ⟨hc, fun m h1 h2 b hb e => absurd e (h.far m h1 h2 b hb)⟩
/-- The rows' blocks are different ones. -/
def Sep (rs : List (Value × Nat)) : Prop := ∀ m m', m < m' → m' < rs.length → Off (rv rs m).ownBlock (rv rs m').ownBlock
theorem Sep.eq (h : Sep rs) {m m' : Nat} (hm : m < rs.length) (hm' : m' < rs.length) {b : Nat} (h1 : (rv rs m).ownBlock = some b) (h2 : (rv rs m').ownBlock = some b) : m = m' := by
  rcases Nat.lt_trichotomy m m' with h3 | h3 | h3
  · exact absurd h2 (h m m' h3 hm' b h1)
  · exact h3
  · exact absurd h1 (h m' m h3 hm b h2)
/-- The next list is taken up. -/
theorem Out.take (hs : Sep rs) {w0 w : World} {n : Nat} {V O M : Value} {os ms : List Value} (h : Out T TS size mk rs w0 w n V O M os ms) (hn : n < rs.length) : Ap T TS size mk rs w0 w n V O M os ms (rv rs n) (rl rs n) := by
  have hh : Held rs os ms (rv rs n) n (rl rs n) := .inl ⟨hn, rfl, rfl⟩
  refine ⟨⟨h.three, h.fr, h.mo, h.mm, fun v k L h1 => ⟨(h.held v k L h1).1, fun m h2 => (h.held v k L h1).2 m (by omega)⟩⟩, (h.held _ _ _ hh).1, fun b hb => .inr ⟨n, hn, hb⟩, fun m h1 h2 => hs n m (by omega) h2, fun v k L h1 b hb e => (h.held v k L h1).2 n (Nat.le_refl _) hn b hb e⟩
/-- While the marks are being written: up to the place i of the list n. -/
def Wr (T : TypeId) (size : Nat) (mk : Nat → Nat → List Value) (rs : List (Value × Nat)) (w : World) (n i : Nat) : Prop :=
  ∀ m, m < rs.length → ∃ xs, w.ownsRow 0 T size (rv rs m) (rl rs m) xs ∧ (m < n → xs = marks mk m (rl rs m)) ∧ (m = n → xs.take (i * size) = marks mk n i)
/-- All marks stand. -/
theorem Wr.out (hs : Sep rs) {w0 w : World} {V : Value} (h : Wr T size mk rs w rs.length 0) (hV : w.ownsRow 0 TS 1 V rs.length (rs.map Prod.fst)) (hf : Fr rs w0 w) : Out T TS size mk rs w0 w 0 V (.slice none 0 0) (.slice none 0 0) [] [] := by
  refine ⟨⟨hV, World.ownsRow_nil _ _ _ _, World.ownsRow_nil _ _ _ _, fun b _ e => (by cases e), fun b _ e => (by cases e), fun b _ e => (by cases e)⟩, hf, fun b e => (by cases e), fun b e => (by cases e), fun v k L hh => ?_⟩
  rcases hh with ⟨h1, rfl, rfl⟩ | ⟨h1, _⟩ | ⟨h1, _⟩
  · obtain ⟨xs, hx, h2, _⟩ := h k h1
    rw [h2 h1] at hx
    exact ⟨hx, fun m _ h4 b hb hb' => by rw [hs.eq h1 h4 hb hb']; exact Nat.le_refl _⟩
  · simp at h1
  · simp at h1
theorem Wr.next {w : World} {n : Nat} (h : Wr T size mk rs w n (rl rs n)) : Wr T size mk rs w (n + 1) 0 := by
  intro m hm
  obtain ⟨xs, hx, h1, h2⟩ := h m hm
  refine ⟨xs, hx, fun h3 => ?_, fun _ => by simp [marks]⟩
  by_cases e : m < n
  · exact h1 e
  · obtain rfl : m = n := by omega
    rw [← h2 rfl, List.take_of_length_le (by rw [hx.1]; exact Nat.le_refl _)]
/-- A mark is written. -/
theorem Wr.step (hs : Sep rs) {w w' : World} {n i : Nat} (h : Wr T size mk rs w n i) (hn : n < rs.length) (hg : w.grownBy w' (rv rs n).ownBlock) (ho : ∀ xs, w.ownsRow 0 T size (rv rs n) (rl rs n) xs → xs.take (i * size) = marks mk n i → ∃ ys, w'.ownsRow 0 T size (rv rs n) (rl rs n) ys ∧ ys.take ((i + 1) * size) = marks mk n (i + 1)) : Wr T size mk rs w' n (i + 1) := by
  intro m hm
  obtain ⟨xs, hx, h1, h2⟩ := h m hm
  by_cases e : m = n
  · subst e
    obtain ⟨ys, hy, h3⟩ := ho xs hx (h2 rfl)
    exact ⟨ys, hy, fun h4 => absurd h4 (by omega), fun _ => h3⟩
  · refine ⟨xs, own_apart hx hg fun b hb e2 => e (hs.eq hm hn hb e2), h1, fun h4 => absurd h4 e⟩
end






end Go.Proofs.YthpkekpojhmaaaaGreatDoor

namespace Go.Proofs.YthpkekpojhmaaaaGreatDoor
open Go.RowKit

/-- A number of 64 bits. -/
def In64 (n : Int) : Prop := -9223372036854775808 ≤ n ∧ n ≤ 9223372036854775807
/-- An object in memory. -/
structure ObjIn (w : World) (A1 A2 A3 A4 : Option Addr) (c4 : Nat) (nm : ByteArray) (code : List Int) (dA : Int) (data : List Int) (ss : List Sym) (rs : List Rel) : Prop where
  cd : IntsAt w A1 .u32 code
  dt : IntsAt w A2 .i64 data
  sy : SymsAt w A3 ss
  rl : RelsAt w A4 rs
  cr : ∀ i, i < code.length → 0 ≤ nth code i ∧ nth code i < 4294967296
  dr : ∀ i, i < data.length → In64 (nth data i)
  da : In64 dA
  hc : code.length ≤ 1048576
  hd : data.length ≤ 1048576
  hs : ss.length ≤ 1048576
  hl : rs.length ≤ 1048576
  hN : ∀ i, (sName ss i).size ≤ 140737488355328
  r4 : rs.length ≤ c4
theorem ObjIn.keep {w w1 : World} {A1 A2 A3 A4 : Option Addr} {c4 : Nat} {nm : ByteArray} {code : List Int} {dA : Int} {data : List Int} {ss : List Sym} {rs : List Rel} (h : ObjIn w A1 A2 A3 A4 c4 nm code dA data ss rs) (hb : Below w.heap.size w w1) : ObjIn w1 A1 A2 A3 A4 c4 nm code dA data ss rs :=
  ⟨h.cd.keep hb, h.dt.keep hb, h.sy.keep hb, h.rl.keep hb, h.cr, h.dr, h.da, h.hc, h.hd, h.hs, h.hl, h.hN, h.r4⟩
/-- An object. -/
structure Ob where
  nm : ByteArray
  code : List Int
  dA : Int
  data : List Int
  ss : List Sym
  rs : List Rel
/-- Where its lists lie. -/
structure Pl where
  A1 : Option Addr
  A2 : Option Addr
  A3 : Option Addr
  A4 : Option Addr
  c1 : Nat
  c2 : Nat
  c3 : Nat
  c4 : Nat
def obD : Ob := ⟨⟨#[]⟩, [], 0, [], [], []⟩
def plD : Pl := ⟨none, none, none, none, 0, 0, 0, 0⟩
def ob (l : List Ob) (i : Nat) : Ob := l.getD i obD
/-- An object's cells. -/
def obCells (o : Ob) (p : Pl) : Array Value := #[.string o.nm, .slice p.A1 o.code.length p.c1, .int .i64 o.dA, .slice p.A2 o.data.length p.c2, .slice p.A3 o.ss.length p.c3, .slice p.A4 o.rs.length p.c4]
/-- A list of objects in memory: each cell of each. -/
def ObsAt (w : World) (A : Option Addr) (q : Nat → Pl) (l : List Ob) : Prop := ∀ i, i < l.length → ∃ a : Addr, A = some a ∧ w.cell? (a.add (i * 6)) = some (.string (ob l i).nm) ∧ w.cell? ((a.add (i * 6)).add 1) = some (.slice (q i).A1 (ob l i).code.length (q i).c1) ∧ w.cell? ((a.add (i * 6)).add 2) = some (.int .i64 (ob l i).dA) ∧ w.cell? ((a.add (i * 6)).add 3) = some (.slice (q i).A2 (ob l i).data.length (q i).c2) ∧ w.cell? ((a.add (i * 6)).add 4) = some (.slice (q i).A3 (ob l i).ss.length (q i).c3) ∧ w.cell? ((a.add (i * 6)).add 5) = some (.slice (q i).A4 (ob l i).rs.length (q i).c4)
/-- An object's own lists in memory. -/
def ObIn (w : World) (p : Pl) (o : Ob) : Prop := ObjIn w p.A1 p.A2 p.A3 p.A4 p.c4 o.nm o.code o.dA o.data o.ss o.rs
/-- Both. -/
structure ObsIn (w : World) (A : Option Addr) (q : Nat → Pl) (l : List Ob) : Prop where
  cells : ObsAt w A q l
  each : ∀ i, i < l.length → ObIn w (q i) (ob l i)
  few : l.length ≤ 64
theorem ObsAt.keep {w w1 : World} {A : Option Addr} {q : Nat → Pl} {l : List Ob} (h : ObsAt w A q l) (hb : Below w.heap.size w w1) : ObsAt w1 A q l := fun i hi => by
  obtain ⟨a, e, x0, x1, x2, x3, x4, x5⟩ := h i hi
  exact ⟨a, e, lkeep hb x0, lkeep hb x1, lkeep hb x2, lkeep hb x3, lkeep hb x4, lkeep hb x5⟩
theorem ObsAt.six {w w1 : World} {A : Option Addr} {q : Nat → Pl} {l : List Ob} (h : ObsAt w A q l) (hb : Below w.heap.size w w1) (i : Nat) (hi : i < l.length) : ∃ a : Addr, A = some a ∧ w1.cell? (a.add (i * 6)) = some (.string (ob l i).nm) ∧ w1.cell? ⟨(a.add (i * 6)).block, (a.add (i * 6)).off + 1, none⟩ = some (.slice (q i).A1 (ob l i).code.length (q i).c1) ∧ w1.cell? ⟨(a.add (i * 6)).block, (a.add (i * 6)).off + 2, none⟩ = some (.int .i64 (ob l i).dA) ∧ w1.cell? ⟨(a.add (i * 6)).block, (a.add (i * 6)).off + 3, none⟩ = some (.slice (q i).A2 (ob l i).data.length (q i).c2) ∧ w1.cell? ⟨(a.add (i * 6)).block, (a.add (i * 6)).off + 4, none⟩ = some (.slice (q i).A3 (ob l i).ss.length (q i).c3) ∧ w1.cell? ⟨(a.add (i * 6)).block, (a.add (i * 6)).off + 5, none⟩ = some (.slice (q i).A4 (ob l i).rs.length (q i).c4) := by
  obtain ⟨a, e, x0, x1, x2, x3, x4, x5⟩ := h i hi
  exact ⟨a, e, lkeep hb x0, lkeep hb x1, lkeep hb x2, lkeep hb x3, lkeep hb x4, lkeep hb x5⟩
theorem ObIn.keep {w w1 : World} {p : Pl} {o : Ob} (h : ObIn w p o) (hb : Below w.heap.size w w1) : ObIn w1 p o := ObjIn.keep h hb
theorem ObsIn.keep {w w1 : World} {A : Option Addr} {q : Nat → Pl} {l : List Ob} (h : ObsIn w A q l) (hb : Below w.heap.size w w1) : ObsIn w1 A q l := ⟨h.cells.keep hb, fun i hi => (h.each i hi).keep hb, h.few⟩
theorem drop_ob (l : List Ob) (k : Nat) (h : k < l.length) : l.drop k = ob l k :: l.drop (k + 1) := drop_at l obD k h
theorem take_ob (l : List Ob) (k : Nat) (h : k < l.length) : l.take (k + 1) = l.take k ++ [ob l k] := by
  rw [List.take_succ_eq_append_getElem h]
  simp [ob, h]



end Go.Proofs.YthpkekpojhmaaaaGreatDoor

namespace Go.Proofs.YthpkekpojhmaaaaGreatDoor
open Go.RowKit

/-- The first of what a function gives below a number. -/
def fstN {β : Type} (f : Nat → Option β) : Nat → Option β
  | 0 => none
  | n + 1 => match fstN f n with
    | some b => some b
    | none => f n
theorem fst_none {β : Type} {f : Nat → Option β} : ∀ {n : Nat}, (∀ j, j < n → f j = none) → fstN f n = none
  | 0, _ => rfl
  | n + 1, h => by
    rw [fstN, fst_none (fun j hj => h j (by omega))]
    exact h n (by omega)
theorem fst_hit {β : Type} {f : Nat → Option β} {k : Nat} {b : β} (h : ∀ j, j < k → f j = none) (e : f k = some b) : ∀ {n : Nat}, k < n → fstN f n = some b
  | 0, hk => absurd hk (Nat.not_lt_zero _)
  | n + 1, hk => by
    rw [fstN]
    by_cases hn : k < n
    · rw [fst_hit h e hn]
    · obtain rfl : k = n := by omega
      rw [fst_none h]
      exact e
theorem fst_step {β : Type} {f : Nat → Option β} {k : Nat} (h : ∀ j, j < k → f j = none) (e : f k = none) : ∀ j, j < k + 1 → f j = none := fun j hj => by
  by_cases he : j = k
  · rw [he]; exact e
  · exact h j (by omega)
theorem fst_some {β : Type} {f : Nat → Option β} {b : β} : ∀ {n : Nat}, fstN f n = some b → ∃ k, k < n ∧ f k = some b ∧ ∀ j, j < k → f j = none
  | 0, h => by cases h
  | n + 1, h => by
    rw [fstN] at h
    cases hf : fstN f n with
    | some c =>
      rw [hf] at h
      obtain ⟨k, hk, h1, h2⟩ := fst_some hf
      cases h
      exact ⟨k, by omega, h1, h2⟩
    | none =>
      rw [hf] at h
      exact ⟨n, by omega, h, fun j hj => by
        cases hj' : f j with
        | none => rfl
        | some c =>
          exfalso
          have := fst_no hf j hj
          rw [hj'] at this
          cases this⟩
where fst_no {β : Type} {f : Nat → Option β} : ∀ {n : Nat}, fstN f n = none → ∀ j, j < n → f j = none
  | 0, _, j, hj => absurd hj (Nat.not_lt_zero _)
  | n + 1, h, j, hj => by
    rw [fstN] at h
    cases hf : fstN f n with
    | some c => rw [hf] at h; cases h
    | none =>
      rw [hf] at h
      by_cases he : j = n
      · rw [he]; exact h
      · exact fst_no hf j (by omega)
theorem fst_no {β : Type} {f : Nat → Option β} {n : Nat} (h : fstN f n = none) (j : Nat) (hj : j < n) : f j = none := fst_some.fst_no h j hj
/-- A symbol of a name and kind. -/
def hitS (nm : ByteArray) (kd : Int) (ss : List Sym) (k : Nat) : Option Int := if ((sName ss k).toList == nm.toList) = true ∧ (sKind ss k == kd) = true then some (sAt ss k) else none
def rowF (nm : ByteArray) (kd : Int) (ss : List Sym) (n : Nat) : Option Int := fstN (hitS nm kd ss) n
/-- How many symbols of an object are looked at, below a place. -/
def upTo (l : List Ob) (o s i : Nat) : Nat := if i = o then min s (ob l i).ss.length else (ob l i).ss.length
def hitO (nm : ByteArray) (kd : Int) (l : List Ob) (o s i : Nat) : Option (Nat × Int) := (rowF nm kd (ob l i).ss (upTo l o s i)).map fun a => (i, a)
/-- The first symbol of a name and kind below a place. -/
def firstF (nm : ByteArray) (kd : Int) (l : List Ob) (o s : Nat) : Option (Nat × Int) := fstN (hitO nm kd l o s) (min l.length (o + 1))
/-- What a name stands for. -/
def findF (nm : ByteArray) (l : List Ob) : Option (Nat × Int) := match firstF nm 1 l l.length 0 with
  | some x => some x
  | none => firstF nm 2 l l.length 0
def dfI : Option (Nat × Int) → Nat
  | some x => x.1
  | none => 0
def dfA : Option (Nat × Int) → Int
  | some x => x.2
  | none => 0
/-- An answer of first, of Find. -/
def DefP (x : Option (Nat × Int)) (w : World) (e : Ending) (w' : World) : Prop := e = .returned (.tuple #[.agg #[.int .i64 (dfI x), .int .i64 (dfA x)], .bool x.isSome]) ∧ Below w.heap.size w w'
theorem hitS_no {nm : ByteArray} {kd : Int} {ss : List Sym} {k : Nat} (h : ((sName ss k).toList == nm.toList) = false ∨ (sKind ss k == kd) = false) : hitS nm kd ss k = none := by
  unfold hitS
  rw [if_neg]
  rintro ⟨h1, h2⟩
  rcases h with h | h
  · rw [h1] at h; cases h
  · rw [h2] at h; cases h
theorem hitS_yes {nm : ByteArray} {kd : Int} {ss : List Sym} {k : Nat} (h : ((sName ss k).toList == nm.toList) = true) (h2 : (sKind ss k == kd) = true) : hitS nm kd ss k = some (sAt ss k) := by
  unfold hitS
  rw [if_pos ⟨h, h2⟩]
theorem hitO_no {nm : ByteArray} {kd : Int} {l : List Ob} {o s i k : Nat} (h : ∀ j, j < k → hitS nm kd (ob l i).ss j = none) (hk : upTo l o s i ≤ k) : hitO nm kd l o s i = none := by
  unfold hitO rowF
  rw [fst_none (fun j hj => h j (by omega))]
  rfl
theorem hitO_yes {nm : ByteArray} {kd : Int} {l : List Ob} {o s i k : Nat} {a : Int} (h : ∀ j, j < k → hitS nm kd (ob l i).ss j = none) (e : hitS nm kd (ob l i).ss k = some a) (hk : k < upTo l o s i) : hitO nm kd l o s i = some (i, a) := by
  unfold hitO rowF
  rw [fst_hit h e hk]
  rfl



end Go.Proofs.YthpkekpojhmaaaaGreatDoor

namespace Go.Proofs.YthpkekpojhmaaaaGreatDoor
open Go.RowKit

/-- An object's Check. -/
def obC (o : Ob) : Int × Int := checkC o.nm o.code o.dA o.data.length o.ss o.rs
/-- An object's name, one ahead has it. -/
def sameN (l : List Ob) (i k : Nat) : Option Unit := if ((ob l k).nm.toList == (ob l i).nm.toList) = true then some () else none
/-- What is wrong with an object. -/
def badO (l : List Ob) (i : Nat) : Option (Int × Int × Int) :=
  if (obC (ob l i)).1 = 0 then match fstN (sameN l i) i with
    | some _ => some (26, i, -1)
    | none => none
  else some ((obC (ob l i)).1, i, (obC (ob l i)).2)
def chkL (l : List Ob) : Option (Int × Int × Int) := if 32 < l.length then some (21, 32, 0) else fstN (badO l) l.length
/-- A Global symbol whose name one ahead has. -/
def twS (l : List Ob) (i k : Nat) : Option (Int × Int × Int) := if (sKind (ob l i).ss k == 1) = true ∧ (firstF (sName (ob l i).ss k) 1 l i k).isSome = true then some (26, i, k) else none
/-- A Wanted symbol whose name stands for nothing. -/
def unS (l : List Ob) (i k : Nat) : Option (Int × Int × Int) := if (sKind (ob l i).ss k == 3) = true ∧ (findF (sName (ob l i).ss k) l).isSome = false then some (40, i, k) else none
def twO (l : List Ob) (i : Nat) : Option (Int × Int × Int) := fstN (twS l i) (ob l i).ss.length
def unO (l : List Ob) (i : Nat) : Option (Int × Int × Int) := fstN (unS l i) (ob l i).ss.length
def namL (l : List Ob) : Option (Int × Int × Int) := match fstN (twO l) l.length with
  | some x => some x
  | none => fstN (unO l) l.length
def t1 : Option (Int × Int × Int) → Int
  | some x => x.1
  | none => 0
def t2 : Option (Int × Int × Int) → Int
  | some x => x.2.1
  | none => 0
def t3 : Option (Int × Int × Int) → Int
  | some x => x.2.2
  | none => 0
/-- An answer of check, of names. -/
def ErrP (x : Option (Int × Int × Int)) (w : World) (e : Ending) (w' : World) : Prop := e = .returned (.tuple #[.int .i64 (t1 x), .int .i64 (t2 x), .int .i64 (t3 x)]) ∧ Below w.heap.size w w'
/-- An error is no OK. -/
def Errs (x : Option (Int × Int × Int)) : Prop := ∀ y, x = some y → ¬ y.1 = 0
theorem fst_errs {f : Nat → Option (Int × Int × Int)} (h : ∀ i, Errs (f i)) (n : Nat) : Errs (fstN f n) := fun y e => by
  obtain ⟨k, _, hk, _⟩ := fst_some e
  exact h k y hk
theorem badO_errs (l : List Ob) (i : Nat) : Errs (badO l i) := fun y e => by
  unfold badO at e
  split at e
  · split at e
    · cases e; simp
    · cases e
  · next h => cases e; exact h
theorem chkL_errs (l : List Ob) : Errs (chkL l) := fun y e => by
  unfold chkL at e
  split at e
  · cases e; simp
  · exact fst_errs (badO_errs l) _ y e
theorem twO_errs (l : List Ob) (i : Nat) : Errs (twO l i) := fst_errs (fun k y e => by
  unfold twS at e
  split at e
  · cases e; simp
  · cases e) _
theorem unO_errs (l : List Ob) (i : Nat) : Errs (unO l i) := fst_errs (fun k y e => by
  unfold unS at e
  split at e
  · cases e; simp
  · cases e) _
theorem namL_errs (l : List Ob) : Errs (namL l) := fun y e => by
  unfold namL at e
  split at e
  · next h => cases e; exact fst_errs (twO_errs l) _ _ h
  · exact fst_errs (unO_errs l) _ y e



end Go.Proofs.YthpkekpojhmaaaaGreatDoor

namespace Go.Proofs.YthpkekpojhmaaaaGreatDoor
open Go.RowKit

theorem num_any (n i : Int) (h0 : 0 ≤ n) (h1 : n ≤ 9) (h2 : 0 ≤ i) (h3 : i ≤ 2097152) (w : World) : Calls Tryz.prog 36 #[.int .i64 n, .int .i64 i] w fun e w' => e = .returned (.int .i64 (1048576 * n + i + 1)) ∧ w' = w := by
  go_enter Tryz.func36, Tryz.ntmps36
  go_wp2
  go_ret
  exact ⟨rfl, rfl⟩
theorem made_wcur (f : Nat → Value) (z : Value) (N : Nat) : madeCells #[z] N = wcur f (fun _ => z) N 0 := by
  apply Array.ext_getElem?
  intro i
  by_cases hi : i < N
  · rw [wcur_get _ _ _ _ _ hi]; simp [madeCells, hi, Nat.mod_one]
  · rw [Array.getElem?_eq_none (by simp [madeCells]; omega), Array.getElem?_eq_none (by simp [wcur_size]; omega)]
theorem info45 : ∃ i, Tryz.prog.info? 78 = some i ∧ i.zero = some (.int .u32 0) ∧ i.size = 1 ∧ i.bytes = 4 :=
  ⟨(Tryz.prog.info? 78).get (by kernel_rfl), by kernel_rfl, by kernel_rfl, by kernel_rfl, by kernel_rfl⟩
theorem make22 (f : Nat → Value) (n : Nat) (hn : n ≤ 1048576) (w : World) : (Instr.makeSlice 26 (.int .i64 ((n : Int) + 64)) (.int .i64 ((n : Int) + 64))).run Tryz.prog w = .ok (.slice (some ⟨w.heap.size, 0, none⟩) (n + 64) (n + 64)) (w.alloc (.cells (wcur f (fun _ => .int .u32 0) (n + 64) 0) 78)) := by
  obtain ⟨i, hi, hz, hs, hb⟩ := info45
  have h := run_makeSlice (P := Tryz.prog) w 26 78 i _ Tryz.underlying26 hi hz .i64 .i64 ((n : Int) + 64) ((n : Int) + 64) (by omega) (by omega) (by rw [hs]; omega) (by rw [hb]; omega) (by omega)
  rw [hs, Nat.mul_one, show ((n : Int) + 64).toNat = n + 64 by omega] at h
  rw [h, ← made_wcur f (.int .u32 0) (n + 64)]
  rfl
set_option maxRecDepth 100000 in
set_option maxHeartbeats 1000000 in
theorem widewords_any (O : Option Addr) (ca : Nat) (zs : List Int) (w : World) (hA : IntsAt w O .u32 zs) (hz : zs.length ≤ 1048576) :
    Calls Tryz.prog 88 #[.slice O zs.length ca] w fun e w' => e = .returned (.slice (some ⟨w.heap.size, 0, none⟩) zs.length (zs.length + 64)) ∧ w' = w.alloc (.cells (wcur (wInt .u32 zs) (fun _ => .int .u32 0) (zs.length + 64) (zs.length + 64)) 78) := by
  have hm := make22 (wInt .u32 zs) zs.length hz
  go_enter Tryz.func88, Tryz.ntmps88
  go_wp2
  go_loopw [4] (fun i wr => ∃ k : Nat, i = .int .i64 k ∧ k ≤ zs.length + 64 ∧ wr = w.alloc (.cells (wcur (wInt .u32 zs) (fun _ => .int .u32 0) (zs.length + 64) k) 78)) (fun i _ => zs.length + 64 - (intOf i).toNat)
  case atStart => exact ⟨0, rfl, by omega, rfl⟩
  case round =>
    obtain ⟨k, rfl, hk, rfl⟩ := hrel
    clear hm
    have hsz := wcur_size (wInt .u32 zs) (fun _ => .int .u32 0) (zs.length + 64) k
    by_cases hlt : k < zs.length + 64
    · have hg : (wcur (wInt .u32 zs) (fun _ => .int .u32 0) (zs.length + 64) k)[k]? = some (.int .u32 0) := by rw [wcur_get _ _ _ _ _ hlt]; simp
      have hs := wcur_set (wInt .u32 zs) (fun _ => .int .u32 0) (zs.length + 64) k hlt
      by_cases h2 : k < zs.length
      · obtain ⟨a, rfl, c1⟩ := hA k h2
        rw [show wInt .u32 zs k = .int .u32 (nth zs k) by simp [wInt, h2]] at hs
        have HS : Hid _ := hs
        clear hs
        have c2 : (w.alloc (.cells (wcur (wInt .u32 zs) (fun _ => .int .u32 0) (zs.length + 64) k) 78)).cell? (a.add k) = some (.int .u32 (nth zs k)) := lkeep (lb_alloc (Below.refl _ _) _) c1
        clear c1
        go_wp2
        go_roundw
        case rel => exact ⟨k + 1, by go_num, by omega, by rw [← HS.out]⟩
        case measure => simp [intOf]; omega
      · rw [show wInt .u32 zs k = .int .u32 (9437184 + k + 1) by simp [wInt, h2, mark]] at hs
        have HS : Hid _ := hs
        clear hs
        go_wp2_with fail
        refine (num_any 9 k (by omega) (by omega) (by omega) (by omega) _).mono ?_
        rintro e w1 ⟨rfl, rfl⟩
        go_wp2
        go_roundw
        case rel => exact ⟨k + 1, by go_num, by omega, by rw [← HS.out]⟩
        case measure => simp [intOf]; omega
    · obtain rfl : k = zs.length + 64 := by omega
      clear hlt hk
      go_wp2
      go_ret
      exact ⟨rfl, rfl⟩

theorem info2 : ∃ i, Tryz.prog.info? 2 = some i ∧ i.zero = some (.int .i64 0) ∧ i.size = 1 ∧ i.bytes = 8 :=
  ⟨(Tryz.prog.info? 2).get (by kernel_rfl), by kernel_rfl, by kernel_rfl, by kernel_rfl, by kernel_rfl⟩
theorem make23 (f : Nat → Value) (n : Nat) (hn : n ≤ 1048576) (w : World) : (Instr.makeSlice 27 (.int .i64 ((n : Int) + 64)) (.int .i64 ((n : Int) + 64))).run Tryz.prog w = .ok (.slice (some ⟨w.heap.size, 0, none⟩) (n + 64) (n + 64)) (w.alloc (.cells (wcur f (fun _ => .int .i64 0) (n + 64) 0) 2)) := by
  obtain ⟨i, hi, hz, hs, hb⟩ := info2
  have h := run_makeSlice (P := Tryz.prog) w 27 2 i _ Tryz.underlying27 hi hz .i64 .i64 ((n : Int) + 64) ((n : Int) + 64) (by omega) (by omega) (by rw [hs]; omega) (by rw [hb]; omega) (by omega)
  rw [hs, Nat.mul_one, show ((n : Int) + 64).toNat = n + 64 by omega] at h
  rw [h, ← made_wcur f (.int .i64 0) (n + 64)]
  rfl
set_option maxRecDepth 100000 in
set_option maxHeartbeats 1000000 in
theorem widelongs_any (O : Option Addr) (ca : Nat) (zs : List Int) (w : World) (hA : IntsAt w O .i64 zs) (hz : zs.length ≤ 1048576) :
    Calls Tryz.prog 89 #[.slice O zs.length ca] w fun e w' => e = .returned (.slice (some ⟨w.heap.size, 0, none⟩) zs.length (zs.length + 64)) ∧ w' = w.alloc (.cells (wcur (wInt .i64 zs) (fun _ => .int .i64 0) (zs.length + 64) (zs.length + 64)) 2) := by
  have hm := make23 (wInt .i64 zs) zs.length hz
  go_enter Tryz.func89, Tryz.ntmps89
  go_wp2
  go_loopw [4] (fun i wr => ∃ k : Nat, i = .int .i64 k ∧ k ≤ zs.length + 64 ∧ wr = w.alloc (.cells (wcur (wInt .i64 zs) (fun _ => .int .i64 0) (zs.length + 64) k) 2)) (fun i _ => zs.length + 64 - (intOf i).toNat)
  case atStart => exact ⟨0, rfl, by omega, rfl⟩
  case round =>
    obtain ⟨k, rfl, hk, rfl⟩ := hrel
    clear hm
    have hsz := wcur_size (wInt .i64 zs) (fun _ => .int .i64 0) (zs.length + 64) k
    by_cases hlt : k < zs.length + 64
    · have hg : (wcur (wInt .i64 zs) (fun _ => .int .i64 0) (zs.length + 64) k)[k]? = some (.int .i64 0) := by rw [wcur_get _ _ _ _ _ hlt]; simp
      have hs := wcur_set (wInt .i64 zs) (fun _ => .int .i64 0) (zs.length + 64) k hlt
      by_cases h2 : k < zs.length
      · obtain ⟨a, rfl, c1⟩ := hA k h2
        rw [show wInt .i64 zs k = .int .i64 (nth zs k) by simp [wInt, h2]] at hs
        have HS : Hid _ := hs
        clear hs
        have c2 : (w.alloc (.cells (wcur (wInt .i64 zs) (fun _ => .int .i64 0) (zs.length + 64) k) 2)).cell? (a.add k) = some (.int .i64 (nth zs k)) := lkeep (lb_alloc (Below.refl _ _) _) c1
        clear c1
        go_wp2
        go_roundw
        case rel => exact ⟨k + 1, by go_num, by omega, by rw [← HS.out]⟩
        case measure => simp [intOf]; omega
      · rw [show wInt .i64 zs k = .int .i64 (9437184 + k + 1) by simp [wInt, h2, mark]] at hs
        have HS : Hid _ := hs
        clear hs
        go_wp2_with fail
        refine (num_any 9 k (by omega) (by omega) (by omega) (by omega) _).mono ?_
        rintro e w1 ⟨rfl, rfl⟩
        go_wp2
        go_roundw
        case rel => exact ⟨k + 1, by go_num, by omega, by rw [← HS.out]⟩
        case measure => simp [intOf]; omega
    · obtain rfl : k = zs.length + 64 := by omega
      clear hlt hk
      go_wp2
      go_ret
      exact ⟨rfl, rfl⟩








end Go.Proofs.YthpkekpojhmaaaaGreatDoor

namespace Go.Proofs.YthpkekpojhmaaaaGreatDoor
open Go.RowKit

theorem info44 : ∃ i, Tryz.prog.info? 83 = some i ∧ i.zero = some (.agg #[.int .i64 0, .int .i64 0]) ∧ i.size = 2 ∧ i.bytes = 16 :=
  ⟨(Tryz.prog.info? 83).get (by kernel_rfl), by kernel_rfl, by kernel_rfl, by kernel_rfl, by kernel_rfl⟩
theorem made_rel (f : Nat → Value) (N : Nat) : madeCells #[.int .i64 0, .int .i64 0] N = wcur f (fun _ => .int .i64 0) N 0 := by
  apply Array.ext_getElem?
  intro i
  by_cases hi : i < N
  · rw [wcur_get _ _ _ _ _ hi]
    have h : i % 2 = 0 ∨ i % 2 = 1 := by omega
    rcases h with h | h <;> simp [madeCells, hi, h]
  · rw [Array.getElem?_eq_none (by simp [madeCells]; omega), Array.getElem?_eq_none (by simp [wcur_size]; omega)]
theorem make25 (f : Nat → Value) (n : Nat) (hn : n ≤ 1048576) (w : World) : (Instr.makeSlice 73 (.int .i64 ((n : Int) + 64)) (.int .i64 ((n : Int) + 64))).run Tryz.prog w = .ok (.slice (some ⟨w.heap.size, 0, none⟩) (n + 64) (n + 64)) (w.alloc (.cells (wcur f (fun _ => .int .i64 0) ((n + 64) * 2) 0) 83)) := by
  obtain ⟨i, hi, hz, hs, hb⟩ := info44
  have h := run_makeSlice (P := Tryz.prog) w 73 83 i _ Tryz.underlying73 hi hz .i64 .i64 ((n : Int) + 64) ((n : Int) + 64) (by omega) (by omega) (by rw [hs]; omega) (by rw [hb]; omega) (by omega)
  rw [hs, show ((n : Int) + 64).toNat = n + 64 by omega] at h
  rw [h, ← made_rel f ((n + 64) * 2)]
  rfl
theorem wRel_item0 (zs : List Rel) (k : Nat) (h : k < zs.length) : wRel zs (k * 2) = .int .i64 (rAt zs k) := by
  have e : (k * 2) / 2 = k := by omega
  have m : (k * 2) % 2 = 0 := by omega
  simp [wRel, e, m, h]
theorem wRel_item1 (zs : List Rel) (k : Nat) (h : k < zs.length) : wRel zs (k * 2 + 1) = .int .i64 (rSym zs k) := by
  have e : (k * 2 + 1) / 2 = k := by omega
  have m : (k * 2 + 1) % 2 = 1 := by omega
  simp [wRel, e, m, h]
theorem rel_item (zs : List Rel) (k : Nat) (_hk : k < zs.length + 64) (h : k < zs.length) : (((wcur (wRel zs) (fun _ => .int .i64 0) ((zs.length + 64) * 2) (k * 2)).setIfInBounds (k * 2) (.int .i64 (rAt zs k))).setIfInBounds (k * 2 + 1) (.int .i64 (rSym zs k))) = wcur (wRel zs) (fun _ => .int .i64 0) ((zs.length + 64) * 2) ((k + 1) * 2) := by
  rw [← wRel_item0 zs k h, wcur_set _ _ _ _ (by omega), ← wRel_item1 zs k h, wcur_set _ _ _ _ (by omega), show (k + 1) * 2 = k * 2 + 2 by omega]
theorem wRel_mark0 (zs : List Rel) (k : Nat) (h : ¬ k < zs.length) : wRel zs (k * 2) = .int .i64 (9437184 + k + 1) := by
  have e : (k * 2) / 2 = k := by omega
  have m : (k * 2) % 2 = 0 := by omega
  simp [wRel, e, m, h, mark]
theorem wRel_mark1 (zs : List Rel) (k : Nat) (h : ¬ k < zs.length) : wRel zs (k * 2 + 1) = .int .i64 0 := by
  have e : (k * 2 + 1) / 2 = k := by omega
  have m : (k * 2 + 1) % 2 = 1 := by omega
  simp [wRel, e, m, h]
theorem rel_mark (zs : List Rel) (k : Nat) (hk : k < zs.length + 64) (h : ¬ k < zs.length) : (((wcur (wRel zs) (fun _ => .int .i64 0) ((zs.length + 64) * 2) (k * 2)).setIfInBounds (k * 2) (.int .i64 (9437184 + k + 1))).setIfInBounds (k * 2 + 1) (.int .i64 0)) = wcur (wRel zs) (fun _ => .int .i64 0) ((zs.length + 64) * 2) ((k + 1) * 2) := by
  rw [← wRel_mark0 zs k h, wcur_set _ _ _ _ (by omega), ← wRel_mark1 zs k h, wcur_set _ _ _ _ (by omega), show (k + 1) * 2 = k * 2 + 2 by omega]
set_option maxRecDepth 100000 in
set_option maxHeartbeats 1000000 in
theorem widerel_any (O : Option Addr) (ca : Nat) (zs : List Rel) (w : World) (hA : RelsAt w O zs) (hz : zs.length ≤ 1048576) :
    Calls Tryz.prog 91 #[.slice O zs.length ca] w fun e w' => e = .returned (.slice (some ⟨w.heap.size, 0, none⟩) zs.length (zs.length + 64)) ∧ w' = w.alloc (.cells (wcur (wRel zs) (fun _ => .int .i64 0) ((zs.length + 64) * 2) ((zs.length + 64) * 2)) 83) := by
  have hm := make25 (wRel zs) zs.length hz
  go_enter Tryz.func91, Tryz.ntmps91
  go_wp2
  go_loopw [4] (fun i wr => ∃ k : Nat, i = .int .i64 k ∧ k ≤ zs.length + 64 ∧ wr = w.alloc (.cells (wcur (wRel zs) (fun _ => .int .i64 0) ((zs.length + 64) * 2) (k * 2)) 83)) (fun i _ => zs.length + 64 - (intOf i).toNat)
  case atStart => exact ⟨0, rfl, by omega, rfl⟩
  case round =>
    obtain ⟨k, rfl, hk, rfl⟩ := hrel
    clear hm
    have hsz := wcur_size (wRel zs) (fun _ => .int .i64 0) ((zs.length + 64) * 2) (k * 2)
    by_cases hlt : k < zs.length + 64
    · have hg0 : (wcur (wRel zs) (fun _ => .int .i64 0) ((zs.length + 64) * 2) (k * 2))[k * 2]? = some ((fun _ => .int .i64 0) (k * 2)) := by rw [wcur_get _ _ _ _ _ (by omega), if_neg (by omega)]
      have hg1 : (wcur (wRel zs) (fun _ => .int .i64 0) ((zs.length + 64) * 2) (k * 2))[k * 2 + 1]? = some ((fun _ => .int .i64 0) (k * 2 + 1)) := by rw [wcur_get _ _ _ _ _ (by omega), if_neg (by omega)]
      by_cases h2 : k < zs.length
      · obtain ⟨a, rfl, c0, c1⟩ := hA k h2
        have HS : Hid _ := rel_item zs k hlt h2
        have d0 : (w.alloc (.cells (wcur (wRel zs) (fun _ => .int .i64 0) ((zs.length + 64) * 2) (k * 2)) 83)).cell? (a.add (k * 2)) = some (.int .i64 (rAt zs k)) := lkeep (lb_alloc (Below.refl _ _) _) c0
        have d1 : (w.alloc (.cells (wcur (wRel zs) (fun _ => .int .i64 0) ((zs.length + 64) * 2) (k * 2)) 83)).cell? (⟨(a.add (k * 2)).block, (a.add (k * 2)).off + 1, none⟩) = some (.int .i64 (rSym zs k)) := lkeep (lb_alloc (Below.refl _ _) _) c1
        clear c0 c1
        go_wp2
        go_roundw
        case rel => exact ⟨k + 1, by go_num, by omega, by rw [← HS.out]⟩
        case measure => simp [intOf]; omega
      · have HS : Hid _ := rel_mark zs k hlt h2
        go_wp2_with fail
        refine (num_any 9 k (by omega) (by omega) (by omega) (by omega) _).mono ?_
        rintro e w1 ⟨rfl, rfl⟩
        go_wp2
        go_roundw
        case rel => exact ⟨k + 1, by go_num, by omega, by rw [← HS.out]⟩
        case measure => simp [intOf]; omega
    · obtain rfl : k = zs.length + 64 := by omega
      clear hlt hk
      go_wp2
      go_ret
      exact ⟨rfl, rfl⟩








end Go.Proofs.YthpkekpojhmaaaaGreatDoor

namespace Go.Proofs.YthpkekpojhmaaaaGreatDoor
open Go.RowKit

theorem info42 : ∃ i, Tryz.prog.info? 131 = some i ∧ i.zero = some (.agg #[.string ⟨#[]⟩, .int .i8 0, .int .i64 0]) ∧ i.size = 3 ∧ i.bytes = 32 :=
  ⟨(Tryz.prog.info? 131).get (by kernel_rfl), by kernel_rfl, by kernel_rfl, by kernel_rfl, by kernel_rfl⟩
theorem made_sym (f : Nat → Value) (N : Nat) : madeCells #[.string ⟨#[]⟩, .int .i8 0, .int .i64 0] N = wcur f zSym N 0 := by
  apply Array.ext_getElem?
  intro i
  by_cases hi : i < N
  · rw [wcur_get _ _ _ _ _ hi]
    have h : i % 3 = 0 ∨ i % 3 = 1 ∨ i % 3 = 2 := by omega
    rcases h with h | h | h <;> simp [madeCells, hi, h, zSym]
  · rw [Array.getElem?_eq_none (by simp [madeCells]; omega), Array.getElem?_eq_none (by simp [wcur_size]; omega)]
theorem make24 (f : Nat → Value) (n : Nat) (hn : n ≤ 1048576) (w : World) : (Instr.makeSlice 72 (.int .i64 ((n : Int) + 64)) (.int .i64 ((n : Int) + 64))).run Tryz.prog w = .ok (.slice (some ⟨w.heap.size, 0, none⟩) (n + 64) (n + 64)) (w.alloc (.cells (wcur f zSym ((n + 64) * 3) 0) 131)) := by
  obtain ⟨i, hi, hz, hs, hb⟩ := info42
  have h := run_makeSlice (P := Tryz.prog) w 72 131 i _ Tryz.underlying72 hi hz .i64 .i64 ((n : Int) + 64) ((n : Int) + 64) (by omega) (by omega) (by rw [hs]; omega) (by rw [hb]; omega) (by omega)
  rw [hs, show ((n : Int) + 64).toNat = n + 64 by omega] at h
  rw [h, ← made_sym f ((n + 64) * 3)]
  rfl
theorem wSym_item0 (zs : List Sym) (k : Nat) (h : k < zs.length) : wSym zs (k * 3) = .string (sName zs k) := by
  have e : (k * 3) / 3 = k := by omega
  have m : (k * 3) % 3 = 0 := by omega
  simp [wSym, e, m, h]
theorem wSym_item1 (zs : List Sym) (k : Nat) (h : k < zs.length) : wSym zs (k * 3 + 1) = .int .i8 (sKind zs k) := by
  have e : (k * 3 + 1) / 3 = k := by omega
  have m : (k * 3 + 1) % 3 = 1 := by omega
  simp [wSym, e, m, h]
theorem wSym_item2 (zs : List Sym) (k : Nat) (h : k < zs.length) : wSym zs (k * 3 + 2) = .int .i64 (sAt zs k) := by
  have e : (k * 3 + 2) / 3 = k := by omega
  have m : (k * 3 + 2) % 3 = 2 := by omega
  simp [wSym, e, m, h]
theorem sym_item (zs : List Sym) (k : Nat) (_hk : k < zs.length + 64) (h : k < zs.length) : ((((wcur (wSym zs) zSym ((zs.length + 64) * 3) (k * 3)).setIfInBounds (k * 3) (.string (sName zs k))).setIfInBounds (k * 3 + 1) (.int .i8 (sKind zs k))).setIfInBounds (k * 3 + 2) (.int .i64 (sAt zs k))) = wcur (wSym zs) zSym ((zs.length + 64) * 3) ((k + 1) * 3) := by
  rw [← wSym_item0 zs k h, wcur_set _ _ _ _ (by omega), ← wSym_item1 zs k h, wcur_set _ _ _ _ (by omega), ← wSym_item2 zs k h, wcur_set _ _ _ _ (by omega), show (k + 1) * 3 = k * 3 + 3 by omega]
theorem wSym_mark0 (zs : List Sym) (k : Nat) (h : ¬ k < zs.length) : wSym zs (k * 3) = .string ⟨#[]⟩ := by
  have e : (k * 3) / 3 = k := by omega
  have m : (k * 3) % 3 = 0 := by omega
  simp [wSym, e, m, h]
theorem wSym_mark1 (zs : List Sym) (k : Nat) (h : ¬ k < zs.length) : wSym zs (k * 3 + 1) = .int .i8 0 := by
  have e : (k * 3 + 1) / 3 = k := by omega
  have m : (k * 3 + 1) % 3 = 1 := by omega
  simp [wSym, e, m, h]
theorem wSym_mark2 (zs : List Sym) (k : Nat) (h : ¬ k < zs.length) : wSym zs (k * 3 + 2) = .int .i64 (9437184 + k + 1) := by
  have e : (k * 3 + 2) / 3 = k := by omega
  have m : (k * 3 + 2) % 3 = 2 := by omega
  simp [wSym, e, m, h, mark]
theorem sym_mark (zs : List Sym) (k : Nat) (hk : k < zs.length + 64) (h : ¬ k < zs.length) : ((((wcur (wSym zs) zSym ((zs.length + 64) * 3) (k * 3)).setIfInBounds (k * 3) (.string ⟨#[]⟩)).setIfInBounds (k * 3 + 1) (.int .i8 0)).setIfInBounds (k * 3 + 2) (.int .i64 (9437184 + k + 1))) = wcur (wSym zs) zSym ((zs.length + 64) * 3) ((k + 1) * 3) := by
  rw [← wSym_mark0 zs k h, wcur_set _ _ _ _ (by omega), ← wSym_mark1 zs k h, wcur_set _ _ _ _ (by omega), ← wSym_mark2 zs k h, wcur_set _ _ _ _ (by omega), show (k + 1) * 3 = k * 3 + 3 by omega]
set_option maxRecDepth 100000 in
set_option maxHeartbeats 1000000 in
theorem widesym_any (O : Option Addr) (ca : Nat) (zs : List Sym) (w : World) (hA : SymsAt w O zs) (hz : zs.length ≤ 1048576) :
    Calls Tryz.prog 90 #[.slice O zs.length ca] w fun e w' => e = .returned (.slice (some ⟨w.heap.size, 0, none⟩) zs.length (zs.length + 64)) ∧ w' = w.alloc (.cells (wcur (wSym zs) zSym ((zs.length + 64) * 3) ((zs.length + 64) * 3)) 131) := by
  have hm := make24 (wSym zs) zs.length hz
  go_enter Tryz.func90, Tryz.ntmps90
  go_wp2
  go_loopw [4] (fun i wr => ∃ k : Nat, i = .int .i64 k ∧ k ≤ zs.length + 64 ∧ wr = w.alloc (.cells (wcur (wSym zs) zSym ((zs.length + 64) * 3) (k * 3)) 131)) (fun i _ => zs.length + 64 - (intOf i).toNat)
  case atStart => exact ⟨0, rfl, by omega, rfl⟩
  case round =>
    obtain ⟨k, rfl, hk, rfl⟩ := hrel
    clear hm
    have hsz := wcur_size (wSym zs) zSym ((zs.length + 64) * 3) (k * 3)
    by_cases hlt : k < zs.length + 64
    · have hg0 : (wcur (wSym zs) zSym ((zs.length + 64) * 3) (k * 3))[k * 3]? = some (zSym (k * 3)) := by rw [wcur_get _ _ _ _ _ (by omega), if_neg (by omega)]
      have hg1 : (wcur (wSym zs) zSym ((zs.length + 64) * 3) (k * 3))[k * 3 + 1]? = some (zSym (k * 3 + 1)) := by rw [wcur_get _ _ _ _ _ (by omega), if_neg (by omega)]
      have hg2 : (wcur (wSym zs) zSym ((zs.length + 64) * 3) (k * 3))[k * 3 + 2]? = some (zSym (k * 3 + 2)) := by rw [wcur_get _ _ _ _ _ (by omega), if_neg (by omega)]
      by_cases h2 : k < zs.length
      · obtain ⟨a, rfl, c0, c1, c2⟩ := hA k h2
        have HS : Hid _ := sym_item zs k hlt h2
        have d0 : (w.alloc (.cells (wcur (wSym zs) zSym ((zs.length + 64) * 3) (k * 3)) 131)).cell? (a.add (k * 3)) = some (.string (sName zs k)) := lkeep (lb_alloc (Below.refl _ _) _) c0
        have d1 : (w.alloc (.cells (wcur (wSym zs) zSym ((zs.length + 64) * 3) (k * 3)) 131)).cell? (⟨(a.add (k * 3)).block, (a.add (k * 3)).off + 1, none⟩) = some (.int .i8 (sKind zs k)) := lkeep (lb_alloc (Below.refl _ _) _) c1
        have d2 : (w.alloc (.cells (wcur (wSym zs) zSym ((zs.length + 64) * 3) (k * 3)) 131)).cell? (⟨(a.add (k * 3)).block, (a.add (k * 3)).off + 2, none⟩) = some (.int .i64 (sAt zs k)) := lkeep (lb_alloc (Below.refl _ _) _) c2
        clear c0 c1 c2
        go_wp2
        go_roundw
        case rel => exact ⟨k + 1, by go_num, by omega, by rw [← HS.out]⟩
        case measure => simp [intOf]; omega
      · have HS : Hid _ := sym_mark zs k hlt h2
        go_wp2_with fail
        refine (num_any 9 k (by omega) (by omega) (by omega) (by omega) _).mono ?_
        rintro e w1 ⟨rfl, rfl⟩
        go_wp2
        go_roundw
        case rel => exact ⟨k + 1, by go_num, by omega, by rw [← HS.out]⟩
        case measure => simp [intOf]; omega
    · obtain rfl : k = zs.length + 64 := by omega
      clear hlt hk
      go_wp2
      go_ret
      exact ⟨rfl, rfl⟩








end Go.Proofs.YthpkekpojhmaaaaGreatDoor
