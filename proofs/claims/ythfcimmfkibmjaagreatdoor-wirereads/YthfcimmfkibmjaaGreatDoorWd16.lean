/-
  An object that may be is of few bytes; no Go in sight. Write of package wire: what it answers; the lists are at most 2^20 long, words of 32 bits. The program takes the beginning and the end of an input. The program takes the end of an input: the sum, and nothing behind it.
-/
import Derived.Test.YthfcimmfkibmjaaGreatDoorProg
import Derived.WalkKit
import Derived.WalkSpells
import Derived.WalkLawsBesides
import Derived.RowKit3
import Derived.Below
import Derived.Deep.QuietTactic
import Derived.BigQuiet
import Derived.WalkSmall
import Derived.Laws.Rows
import Derived.Test.YthfcimmfkibmjaaGreatDoorWd15
import Derived.Test.YthfcimmfkibmjaaGreatDoorWd01
import Derived.Test.YthfcimmfkibmjaaGreatDoorWd08
import Derived.Test.YthfcimmfkibmjaaGreatDoorWd03
import Derived.Test.YthfcimmfkibmjaaGreatDoorWd06
namespace Go.Proofs.YthfcimmfkibmjaaGreatDoor
open Go.RowKit


theorem name_size {s : ByteArray} (h : nameOK s = true) : s.size ≤ 24 := by
  unfold nameOK at h
  have e : s.size = s.data.toList.length := by rw [Array.length_toList]; rfl
  rw [e]
  split at h
  · cases h
  · next c l hs =>
    rw [hs]
    simp at h
    simp
    omega
structure Fit (nm : ByteArray) (code : List Int) (dA : Int) (nd : Nat) (ss : List Sym) (rs : List Rel) : Prop where
  hnm : nm.size ≤ 24
  hcode : code.length ≤ 16384
  hdata : nd ≤ 4096
  hsyms : ss.length ≤ 256
  hrels : rs.length ≤ code.length
  hdA : 0 ≤ dA ∧ dA ≤ 4096
  sym : ∀ i, i < ss.length → (sName ss i).size ≤ 24 ∧ 0 ≤ sKind ss i ∧ sKind ss i ≤ 3 ∧ 0 ≤ sAt ss i ∧ sAt ss i ≤ 16384
  rel : ∀ i, i < rs.length → 0 ≤ rAt rs i ∧ rAt rs i < 16384 ∧ 0 ≤ rSym rs i ∧ rSym rs i < 256
theorem may_fit {nm : ByteArray} {code : List Int} {dA : Int} {nd : Nat} {ss : List Sym} {rs : List Rel} (h : MayBe nm code dA nd ss rs) : Fit nm code dA nd ss rs := by
  obtain ⟨⟨h1, h2, h3, h4, h5, h6, h7⟩, hs, hr, _⟩ := h
  refine ⟨name_size h1, h2, by omega, h3, h4, ⟨h5, h6⟩, fun i hi => ?_, fun i hi => ?_⟩
  · obtain ⟨a, _, b, c, d, e, _⟩ := sym_parts.1 (hs i hi)
    exact ⟨name_size a, b, c, d, by omega⟩
  · obtain ⟨a, b, _, c, d, _⟩ := rel_parts.1 (hr i hi)
    exact ⟨a, by omega, c, by omega⟩
theorem syms_size (ss : List Sym) (h : ∀ x ∈ ss, x.1.size ≤ 24) : (ss.flatMap symB).length ≤ ss.length * 36 := by
  induction ss with
  | nil => simp
  | cons x l ih =>
    have h1 := h x (by simp)
    have h2 := ih fun y hy => h y (by simp [hy])
    have h3 : (symB x).length = x.1.size + 12 := by
      unfold symB textB strB
      rw [List.length_append, List.length_append, List.length_append, List.length_map, be4_len, be4_len, be4_len, Array.length_toList]
      show 4 + x.1.size + 4 + 4 = _
      omega
    rw [List.flatMap_cons, List.length_append, h3, List.length_cons]
    omega
theorem syms_mem {ss : List Sym} (h : ∀ i, i < ss.length → (sName ss i).size ≤ 24) : ∀ x ∈ ss, x.1.size ≤ 24 := fun x hx => by
  obtain ⟨i, hi, e⟩ := List.getElem_of_mem hx
  have := h i hi
  simpa [sName, List.getD, hi, e] using this

end Go.Proofs.YthfcimmfkibmjaaGreatDoor

namespace Go.Proofs.YthfcimmfkibmjaaGreatDoor
open Go.RowKit


theorem sum_any (A : Option Addr) (cap : Nat) (b : List Int) (w : World) (hB : IntsAt w A .u8 b) (hA : AreB b) (hN : b.length ≤ 1048576) : Calls Tryz.prog 31 #[.slice A b.length cap] w fun r w' => r = .returned (.int .u32 (sumB b)) ∧ w' = w := by
  go_enter Tryz.func31, Tryz.ntmps31
  go_wp2
  go_loop [8, 3] (fun i s => ∃ k : Nat, i = .int .i64 k ∧ k ≤ b.length ∧ s = .int .u32 (sumB (b.take k))) (fun i _ => b.length - (intOf i).toNat)
  case atStart => exact ⟨0, rfl, by omega, rfl⟩
  case round =>
    obtain ⟨k, rfl, hk, rfl⟩ := hrel
    by_cases hlt : k < b.length
    · obtain ⟨a, rfl, q⟩ := hB k hlt
      have HS : Hid _ := sum_step b k hlt
      have hx : 0 ≤ nth b k ∧ nth b k < 256 := hA _ (by simp [nth, List.getD, hlt])
      generalize nth b k = x at q HS hx
      generalize sumB (b.take k) = s at HS
      go_wp2
      go_round
      case rel => exact ⟨k + 1, by go_num, by omega, by rw [HS.out]; congr 1; omega⟩
      case measure => simp [intOf]; omega
    · obtain rfl : k = b.length := by omega
      go_wp2
      go_ret
      exact ⟨by simp, rfl⟩
/-- A row of bytes, as it lies. -/
theorem own_ints {w : World} {base n : Nat} {v : Value} {l : List Int} (h : w.ownsRow base 5 1 v n (bNews l)) : ∃ A c, v = .slice A l.length c ∧ IntsAt w A .u8 l ∧ l.length ≤ c := by
  have hn : l.length = n := by have := h.1; rw [bNews_len] at this; omega
  rcases h.2 with ⟨rfl, h0⟩ | ⟨g, cap, cur, rfl, hb, hg, hc, _⟩
  · refine ⟨none, 0, by rw [hn, h0], fun i hi => by omega, by omega⟩
  · refine ⟨some ⟨g, 0, none⟩, cap, by rw [hn], fun i hi => ⟨_, rfl, ?_⟩, by omega⟩
    exact h.cells rfl i _ (by simp [bNews, nth, List.getD, hi])
theorem textB_areB (s : ByteArray) : AreB (textB s) := (be4_areB _).app fun x hx => by
  unfold strB at hx
  obtain ⟨c, _, rfl⟩ := List.mem_map.1 hx
  have := c.toNat_lt
  omega
theorem flat_areB {α : Type} (f : α → List Int) (hf : ∀ x, AreB (f x)) (l : List α) : AreB (l.flatMap f) := fun x hx => by
  obtain ⟨y, _, h⟩ := List.mem_flatMap.1 hx
  exact hf y x h
theorem body_areB (nm : ByteArray) (code : List Int) (dA : Int) (data : List Int) (ss : List Sym) (rs : List Rel) : AreB (bodyB nm code dA data ss rs) := by
  unfold bodyB
  refine ((((((((((?_ : AreB [80, 76, 79, 49]).app (textB_areB _)).app (be4_areB _)).app (flat_areB _ be4_areB _)).app (be4_areB _)).app (be4_areB _)).app (flat_areB _ be8_areB _)).app (be4_areB _)).app (flat_areB _ (fun x => ((textB_areB _).app (be4_areB _)).app (be4_areB _)) _)).app (be4_areB _)).app (flat_areB _ (fun x => (be4_areB _).app (be4_areB _)) _)
  intro x hx
  simp at hx
  omega
/-- What Write answers. -/
def WroteP (nm : ByteArray) (code : List Int) (dA : Int) (data : List Int) (ss : List Sym) (rs : List Rel) (w : World) (r : Ending) (w' : World) : Prop :=
  if (checkC nm code dA data.length ss rs).1 = 0 then ∃ v, r = .returned (.tuple #[v, .int .i64 0]) ∧ w'.ownsRow w.heap.size 5 1 v (bytesB nm code dA data ss rs).length (bNews (bytesB nm code dA data ss rs)) ∧ Below w.heap.size w w'
  else r = .returned (.tuple #[.slice none 0 0, .int .i64 (checkC nm code dA data.length ss rs).1]) ∧ Below w.heap.size w w'
theorem ownsRow_mono {w : World} {b b' : Nat} {e : TypeId} {k n : Nat} {v : Value} {xs : List Value} (h : w.ownsRow b e k v n xs) (hb : b' ≤ b) : w.ownsRow b' e k v n xs := by
  refine ⟨h.1, ?_⟩
  rcases h.2 with h0 | ⟨g, cap, cur, hv, hg, r⟩
  · exact Or.inl h0
  · exact Or.inr ⟨g, cap, cur, hv, Nat.le_trans hb hg, r⟩
set_option maxRecDepth 100000 in
set_option maxHeartbeats 1000000 in
theorem write_any (nm : ByteArray) (dA : Int) (A1 A2 A3 A4 : Option Addr) (c1 c2 c3 c4 : Nat) (code data : List Int) (ss : List Sym) (rs : List Rel) (w : World)
    (hC : IntsAt w A1 .u32 code) (hD : IntsAt w A2 .i64 data) (hS : SymsAt w A3 ss) (hL : RelsAt w A4 rs) (hR : ∀ i, i < code.length → 0 ≤ nth code i ∧ nth code i < 4294967296) (hc : code.length ≤ 1048576) (hd : data.length ≤ 1048576) (hs : ss.length ≤ 1048576) (hl : rs.length ≤ 1048576) (hN : ∀ i, (sName ss i).size ≤ 140737488355328) (hA : -9223372036854775808 ≤ dA ∧ dA ≤ 9223372036854775807) :
    Calls Tryz.prog 9 #[.agg #[.string nm, .slice A1 code.length c1, .int .i64 dA, .slice A2 data.length c2, .slice A3 ss.length c3, .slice A4 rs.length c4]] w (WroteP nm code dA data ss rs w) := by
  have hB := lb_alloc (Below.refl w.heap.size w) (.cells #[.string nm, .slice A1 code.length c1, .int .i64 dA, .slice A2 data.length c2, .slice A3 ss.length c3, .slice A4 rs.length c4] 27)
  have C := fun (wx : World) (hb : Below w.heap.size w wx) => objcheck_any nm dA A1 A2 A3 A4 c1 data.length c2 c3 c4 code ss rs wx (hC.keep hb) (hS.keep hb) (hL.keep hb) hR hc hd hs hl hN hA
  have hbx : Hid ((w.alloc (.cells #[.string nm, .slice A1 code.length c1, .int .i64 dA, .slice A2 data.length c2, .slice A3 ss.length c3, .slice A4 rs.length c4] 27)).heap[w.heap.size]? = some (.cells #[.string nm, .slice A1 code.length c1, .int .i64 dA, .slice A2 data.length c2, .slice A3 ss.length c3, .slice A4 rs.length c4] 27 (0, 0))) := heap_alloc_new _ _
  by_cases h0 : (checkC nm code dA data.length ss rs).1 = 0
  · have hm := check_may h0
    have hf := may_fit hm
    have h5 := syms_size ss (syms_mem fun i hi => (hf.sym i hi).1)
    obtain ⟨p1, p2, p3, p4, p5, p6⟩ := part_lens nm code dA data ss rs
    have hlen : (bodyB nm code dA data ss rs).length ≤ 300000 := by
      have := hf.hnm; have := hf.hcode; have := hf.hdata; have := hf.hsyms; have := hf.hrels
      omega
    have hk : ∀ i, i < ss.length → 0 ≤ sKind ss i ∧ sKind ss i < 128 := fun i hi => by have := hf.sym i hi; omega
    have hareB := body_areB nm code dA data ss rs
    have hsum := sum_range (bodyB nm code dA data ss rs)
    have HP : Hid (∀ r w', WroteP nm code dA data ss rs w r w' = (∃ v, r = .returned (.tuple #[v, .int .i64 0]) ∧ w'.ownsRow w.heap.size 5 1 v (bytesB nm code dA data ss rs).length (bNews (bytesB nm code dA data ss rs)) ∧ Below w.heap.size w w')) := fun r w' => by unfold WroteP; rw [if_pos h0]
    rw [h0] at C
    clear p1 p2 p3 p4 p5 p6 h5 hm
    generalize (checkC nm code dA data.length ss rs).2 = q at C
    have H0 : Hid _ := h0
    clear h0
    have HW : Hid _ := hB
    go_enter Tryz.func9, Tryz.ntmps9
    go_wp2_with fail
    refine (C _ HW.out).mono ?_
    rintro e w1 ⟨rfl, h1⟩
    have hb1 : Hid (Below w.heap.size w w1) := lb_trans HW.out h1
    have hx1 : Hid (w1.heap[w.heap.size]? = _) := (h1.block w.heap.size (by simp)).trans hbx.out
    obtain ⟨d0, d1, d2, d3, d4, d5⟩ := box6_cell hx1.out
    have hz1 : w.heap.size < w1.heap.size := by have := h1.size; simp at this; omega
    clear h1
    have hgb : Hid (Below w1.heap.size w1 (w1.alloc (.cells #[.slice none 0 0] 76))) := lb_alloc (Below.refl _ _) _
    have hgv : Hid ((w1.alloc (.cells #[.slice none 0 0] 76)).heap[w1.heap.size]? = some (.cells #[.slice none 0 0] 76 (0, 0))) := heap_alloc_new _ _
    go_wp2_with fail
    refine (wObject w1.heap.size nm dA A1 A2 A3 A4 c1 c2 c3 c4 code data ss rs w _ hC hD hS hL hR hk (lb_trans hb1.out hgb.out) (by omega) (by omega) hs hgv.out).mono ?_
    rintro e w2 ⟨rfl, h2, t2⟩
    have t2 : Hid _ := t2
    have h2 : OutAt w2 w1.heap.size (bodyB nm code dA data ss rs) := h2
    have hg2 := h2.lt
    obtain ⟨v, hv, hr⟩ := h2
    have HO : Hid (OutAt w2 w1.heap.size (bodyB nm code dA data ss rs)) := ⟨v, hv, hr⟩
    obtain ⟨A', c', rfl, hI, hcap⟩ := own_ints hr
    have hcell := (box_cell hv).1
    have hfro := (box_cell hv).2
    clear hv hr
    go_wp2_with fail
    refine (sum_any A' c' (bodyB nm code dA data ss rs) _ hI hareB (by omega)).mono ?_
    rintro e w3 ⟨rfl, rfl⟩
    go_wp2_with fail
    refine (wNumber w1.heap.size (bodyB nm code dA data ss rs) _ hsum.1 hsum.2 (by omega) _ HO.out).mono ?_
    rintro e w3 ⟨rfl, h3, t3⟩
    have t3 : Hid _ := t3
    have h3 : OutAt w3 w1.heap.size (bytesB nm code dA data ss rs) := h3
    obtain ⟨v, hv, hr⟩ := h3
    obtain ⟨A2', c2', rfl, hI2, hcap2⟩ := own_ints hr
    have hcell2 := (box_cell hv).1
    have HR : Hid _ := hr
    clear hv hr
    go_wp2
    go_ret2
    rw [HP.out]
    refine ⟨_, rfl, ownsRow_mono HR.out (by omega), ?_⟩
    have q1 := (OutTo.of (g := w1.heap.size) hgb.out).trans (t2.out.trans t3.out)
    exact hb1.out.trans ⟨q1.os, q1.tape, q1.output, q1.size, fun k hk => q1.block k (by omega) (by omega) (Or.inl (by omega))⟩
  · have HP : Hid (∀ r w', WroteP nm code dA data ss rs w r w' = (r = .returned (.tuple #[.slice none 0 0, .int .i64 (checkC nm code dA data.length ss rs).1]) ∧ Below w.heap.size w w')) := fun r w' => by unfold WroteP; rw [if_neg h0]
    have h0b : ((checkC nm code dA data.length ss rs).1 != 0) = true := by simpa using h0
    generalize (checkC nm code dA data.length ss rs).1 = E at C h0b HP
    generalize (checkC nm code dA data.length ss rs).2 = q at C
    clear h0
    have HW : Hid _ := hB
    go_enter Tryz.func9, Tryz.ntmps9
    go_wp2_with fail
    refine (C _ HW.out).mono ?_
    rintro e w1 ⟨rfl, h1⟩
    have hb1 : Hid (Below w.heap.size w w1) := lb_trans HW.out h1
    clear h1
    go_wp2
    go_ret2
    rw [HP.out]
    exact ⟨rfl, hb1.out⟩

end Go.Proofs.YthfcimmfkibmjaaGreatDoor

namespace Go.Proofs.YthfcimmfkibmjaaGreatDoor
open Go.RowKit


def begL : List Int := [80, 76, 79, 49]
theorem begin_at {b : List Int} {i : Nat} (hi : i < 4) (h : ∀ j, j < i → j < b.length ∧ nth b j = nth begL j) (hn : b.length ≤ i ∨ ¬ nth b i = nth begL i) : tBegin b [80, 76, 79, 49] = ⟨4, 27, i⟩ := by
  have e : (List.range ([80, 76, 79, 49] : List Int).length).find? (fun i => decide (b.length ≤ i) || nth b i != nth [80, 76, 79, 49] i) = some i := by
    rw [List.find?_range_eq_some]
    refine ⟨?_, by simpa using hi, fun j hj => ?_⟩
    · rcases hn with hn | hn
      · simp [hn]
      · simp [show nth [80, 76, 79, 49] i = nth begL i from rfl, hn]
    · obtain ⟨h1, h2⟩ := h j hj
      simp [h1, h2, show nth [80, 76, 79, 49] j = nth begL j from rfl]
  unfold tBegin
  rw [e]
  rfl
theorem begin_all {b : List Int} (h : ∀ j, j < 4 → j < b.length ∧ nth b j = nth begL j) : tBegin b [80, 76, 79, 49] = ⟨4, 0, 0⟩ := by
  have e : (List.range ([80, 76, 79, 49] : List Int).length).find? (fun i => decide (b.length ≤ i) || nth b i != nth [80, 76, 79, 49] i) = none := by
    rw [List.find?_eq_none]
    intro j hj
    obtain ⟨h1, h2⟩ := h j (by simpa using hj)
    simp [h1, h2, show nth [80, 76, 79, 49] j = nth begL j from rfl]
  unfold tBegin
  rw [e]
  rfl
theorem begin_good {b : List Int} (h : (tBegin b [80, 76, 79, 49]).bad = 0) : tBegin b [80, 76, 79, 49] = ⟨4, 0, 0⟩ := by
  unfold tBegin at h ⊢
  split at h
  · cases h
  · rfl
theorem bne_of {x y : Int} (h : ¬ x = y) : (x != y) = true := by simpa using h
/-- What a taker that tells an error alone answers. -/
def TakesE (w0 : World) (g : Nat) (A : Option Addr) (c : Nat) (b : List Int) (t : Tk) (w : World) (r : Ending) (w' : World) : Prop :=
  But g w w' ∧ ((t.bad = 0 ∧ r = .returned .nilIface ∧ InBy w0 g A c b t.pos w') ∨ (¬ t.bad = 0 ∧ r = .returned (errV t.bad t.place) ∧ ∃ p, InBy w0 g A c b p w'))
theorem takesE_yes {w0 : World} {g : Nat} {A : Option Addr} {c : Nat} {b : List Int} {t : Tk} {w w' : World} {q : Nat} (hb : But g w w') (h : t = ⟨q, 0, 0⟩) (hi : InBy w0 g A c b q w') : TakesE w0 g A c b t w (.returned .nilIface) w' := by
  subst h
  exact ⟨hb, Or.inl ⟨rfl, rfl, hi⟩⟩
theorem takesE_no {w0 : World} {g : Nat} {A : Option Addr} {c : Nat} {b : List Int} {t : Tk} {w w' : World} {x y : Int} {p q : Nat} (hb : But g w w') (h : t = ⟨q, x, y⟩) (hx : ¬ x = 0) (hi : InBy w0 g A c b p w') : TakesE w0 g A c b t w (.returned (.iface 97 (.agg #[.int .i64 x, .int .i64 y]))) w' := by
  subst h
  exact ⟨hb, Or.inr ⟨hx, rfl, p, hi⟩⟩
theorem TakesE.ok {w0 : World} {g : Nat} {A : Option Addr} {c : Nat} {b : List Int} {t : Tk} {w w' : World} {r : Ending} (h : TakesE w0 g A c b t w r w') (e : t.bad = 0) : r = .returned .nilIface ∧ InBy w0 g A c b t.pos w' ∧ But g w w' := by
  obtain ⟨hb, ⟨_, h1, h2⟩ | ⟨h0, _⟩⟩ := h
  · exact ⟨h1, h2, hb⟩
  · exact absurd e h0
theorem TakesE.err {w0 : World} {g : Nat} {A : Option Addr} {c : Nat} {b : List Int} {t : Tk} {w w' : World} {r : Ending} (h : TakesE w0 g A c b t w r w') (e : ¬ t.bad = 0) : ∃ p, r = .returned (.iface 97 (.agg #[.int .i64 t.bad, .int .i64 t.place])) ∧ InBy w0 g A c b p w' ∧ But g w w' := by
  obtain ⟨hb, ⟨h0, _⟩ | ⟨_, h1, p, h2⟩⟩ := h
  · exact absurd h0 e
  · exact ⟨p, h1, h2, hb⟩
set_option maxRecDepth 100000 in
set_option maxHeartbeats 1000000 in
theorem beginning_any (w0 : World) (g : Nat) (A : Option Addr) (c : Nat) (b : List Int) (w : World) (h : InBy w0 g A c b 0 w) :
    Calls Tryz.prog 97 #[.pointer (some ⟨g, 0, none⟩)] w (TakesE w0 g A c b (tBegin b [80, 76, 79, 49]) w) := by
  have HI : Hid _ := h
  clear h
  go_enter Tryz.func97, Tryz.ntmps97
  go_wp2
  go_loopw [6] (fun i wr => ∃ k : Nat, i = .int .i64 k ∧ k ≤ 4 ∧ (∀ j, j < k → j < b.length ∧ nth b j = nth begL j) ∧ InBy w0 g A c b k wr ∧ But g w wr) (fun i _ => 4 - (intOf i).toNat)
  case atStart => exact ⟨0, rfl, by omega, fun j hj => by omega, HI.out, But.refl _ _⟩
  case round =>
    obtain ⟨k, rfl, hk, hall, hin, hbut⟩ := hrel
    have HB : Hid (But g w wr) := hbut
    have HA : Hid _ := hall
    clear hbut hall HI
    by_cases hk4 : k = 4
    · subst hk4
      go_wp2
      go_ret
      exact takesE_yes HB.out (begin_all HA.out) hin
    · by_cases hlt : k < b.length
      · have C := next_ok w0 g A c b k wr hin hlt
        by_cases hx : nth b k = nth begL k
        · have HA2 : Hid (∀ j, j < k + 1 → j < b.length ∧ nth b j = nth begL j) := fun j hj => by
            by_cases e : j = k
            · subst e; exact ⟨hlt, hx⟩
            · exact HA.out j (by omega)
          rw [hx] at C
          clear hx
          have h4 : k = 0 ∨ k = 1 ∨ k = 2 ∨ k = 3 := by omega
          rcases h4 with rfl | rfl | rfl | rfl
          · simp only [begL, nth, List.getD_cons_zero] at C
            go_wp2_with (go_at_call 136; refine C.mono ?_; rintro e w1 ⟨rfl, hin1, hb1⟩)
            exact ⟨⟨1, rfl, by omega, HA2.out, hin1, HB.out.trans hb1⟩, by simp [intOf]⟩
          · simp only [begL, nth, List.getD_cons_zero, List.getD_cons_succ] at C
            go_wp2_with (go_at_call 136; refine C.mono ?_; rintro e w1 ⟨rfl, hin1, hb1⟩)
            exact ⟨⟨2, rfl, by omega, HA2.out, hin1, HB.out.trans hb1⟩, by simp [intOf]⟩
          · simp only [begL, nth, List.getD_cons_zero, List.getD_cons_succ] at C
            go_wp2_with (go_at_call 136; refine C.mono ?_; rintro e w1 ⟨rfl, hin1, hb1⟩)
            exact ⟨⟨3, rfl, by omega, HA2.out, hin1, HB.out.trans hb1⟩, by simp [intOf]⟩
          · simp only [begL, nth, List.getD_cons_zero, List.getD_cons_succ] at C
            go_wp2_with (go_at_call 136; refine C.mono ?_; rintro e w1 ⟨rfl, hin1, hb1⟩)
            exact ⟨⟨4, rfl, by omega, HA2.out, hin1, HB.out.trans hb1⟩, by simp [intOf]⟩
        · have HN : Hid _ := begin_at (by omega) HA.out (Or.inr hx)
          have hx0 := (hin.byte hlt)
          obtain ⟨a, e, q, hx0, hx1⟩ := hx0
          clear q e
          generalize nth b k = x at *
          have h4 : k = 0 ∨ k = 1 ∨ k = 2 ∨ k = 3 := by omega
          rcases h4 with rfl | rfl | rfl | rfl
          · have hxb : (x != (((⟨#[80, 76, 79, 49]⟩ : ByteArray)[0]).toNat : Int)) = true := bne_of hx
            clear hx
            go_wp2_with (go_at_call 136; refine C.mono ?_; rintro e w1 ⟨rfl, hin1, hb1⟩)
            go_ret
            exact takesE_no (HB.out.trans hb1) HN.out (by omega) hin1
          · have hxb : (x != (((⟨#[80, 76, 79, 49]⟩ : ByteArray)[1]).toNat : Int)) = true := bne_of hx
            clear hx
            go_wp2_with (go_at_call 136; refine C.mono ?_; rintro e w1 ⟨rfl, hin1, hb1⟩)
            go_ret
            exact takesE_no (HB.out.trans hb1) HN.out (by omega) hin1
          · have hxb : (x != (((⟨#[80, 76, 79, 49]⟩ : ByteArray)[2]).toNat : Int)) = true := bne_of hx
            clear hx
            go_wp2_with (go_at_call 136; refine C.mono ?_; rintro e w1 ⟨rfl, hin1, hb1⟩)
            go_ret
            exact takesE_no (HB.out.trans hb1) HN.out (by omega) hin1
          · have hxb : (x != (((⟨#[80, 76, 79, 49]⟩ : ByteArray)[3]).toNat : Int)) = true := bne_of hx
            clear hx
            go_wp2_with (go_at_call 136; refine C.mono ?_; rintro e w1 ⟨rfl, hin1, hb1⟩)
            go_ret
            exact takesE_no (HB.out.trans hb1) HN.out (by omega) hin1
      · have C := next_end w0 g A c b k wr hin (by have := hin.pos; omega)
        unfold errV at C
        have hke : k = b.length := by have := hin.pos; omega
        have HN : Hid _ := begin_at (by omega) HA.out (Or.inl (by omega))
        go_wp2_with (go_at_call 136; refine C.mono ?_; rintro e w1 ⟨rfl, hin1, hb1⟩)
        go_ret
        exact takesE_no (HB.out.trans hb1) (by rw [HN.out, hke]) (by omega) hin1

end Go.Proofs.YthfcimmfkibmjaaGreatDoor

namespace Go.Proofs.YthfcimmfkibmjaaGreatDoor
open Go.RowKit


theorem end_a {b : List Int} {p : Nat} (h : ¬ p + 4 ≤ b.length) : tEnd b ⟨p, 0, 0⟩ = ⟨p, 27, b.length⟩ := by
  unfold tEnd
  rw [four_no h, if_neg (by simp)]
theorem end_b {b : List Int} {p : Nat} (h : p + 4 < b.length) : tEnd b ⟨p, 0, 0⟩ = ⟨p + 4, 27, p + 4⟩ := by
  unfold tEnd
  rw [four_yes (by omega), if_pos rfl, if_pos h]
theorem end_c {b : List Int} {p : Nat} (h : p + 4 = b.length) (hs : ¬ v4 (b.drop p) = sumB (b.take p)) : tEnd b ⟨p, 0, 0⟩ = ⟨p + 4, 28, p⟩ := by
  unfold tEnd
  rw [four_yes (by omega), if_pos rfl, if_neg (by simp; omega), if_neg hs]
theorem end_d {b : List Int} {p : Nat} (h : p + 4 = b.length) (hs : v4 (b.drop p) = sumB (b.take p)) : tEnd b ⟨p, 0, 0⟩ = ⟨p + 4, 0, 0⟩ := by
  unfold tEnd
  rw [four_yes (by omega), if_pos rfl, if_neg (by simp; omega), if_pos hs]
theorem HB_drew {g : Nat} {w w1 : World} (h : But g w w1) (n : Nat) : But g w (w1.drewN n) := h
theorem ints_take {w : World} {A : Option Addr} {K : IntKind} {zs : List Int} (h : IntsAt w A K zs) (n : Nat) : IntsAt w A K (zs.take n) := fun i hi => by
  rw [List.length_take] at hi
  obtain ⟨a, e, q⟩ := h i (by omega)
  refine ⟨a, e, ?_⟩
  rw [q]
  simp [nth, List.getD, show i < n by omega]
set_option maxRecDepth 100000 in
set_option maxHeartbeats 1000000 in
theorem rend_any (w0 : World) (g : Nat) (A : Option Addr) (c : Nat) (b : List Int) (p : Nat) (w : World) (h : InBy w0 g A c b p w) :
    Calls Tryz.prog 108 #[.pointer (some ⟨g, 0, none⟩)] w (TakesE w0 g A c b (tEnd b ⟨p, 0, 0⟩) w) := by
  obtain ⟨c0, c1, f1⟩ := h.cells
  have C := take4_any w0 g A c b p w h
  have hl := h.len
  have hcap := h.cap
  by_cases hp : p + 4 ≤ b.length
  · rw [four_yes hp] at C
    by_cases hb : p + 4 < b.length
    · have HN : Hid _ := end_b hb
      have hbd : decide (((p + 4 : Nat) : Int) < (b.length : Int)) = true := decide_eq_true (by omega)
      go_enter Tryz.func108, Tryz.ntmps108
      go_wp2_with fail
      refine C.mono ?_
      intro r w1 hr
      obtain ⟨rfl, hi, hb1⟩ := hr.ok rfl
      clear hr C
      obtain ⟨d0, d1, _⟩ := hi.cells
      simp only at d0 d1
      go_wp2_with fail
      go_quiet (fail)
      go_wp2
      go_ret
      exact takesE_no ((HB_drew hb1 _)) (by rw [HN.out]) (by omega) (hi.drewN _)
    · have hpe : p + 4 = b.length := by omega
      have hbd : decide (((p + 4 : Nat) : Int) < (b.length : Int)) = false := decide_eq_false (by omega)
      have hlt : (b.take p).length = p := by simp; omega
      have CS := fun wx (hb : Below w0.heap.size w0 wx) => sum_any A c (b.take p) wx (ints_take (h.ints.keep hb) p) (h.areB.take p) (by omega)
      rw [hlt] at CS
      by_cases hs : v4 (b.drop p) = sumB (b.take p)
      · have HN : Hid _ := end_d hpe hs
        rw [hs] at C
        clear hs
        generalize sumB (b.take p) = S at *
        go_enter Tryz.func108, Tryz.ntmps108
        go_wp2_with fail
        refine C.mono ?_
        intro r w1 hr
        obtain ⟨rfl, hi, hb1⟩ := hr.ok rfl
        clear hr C
        obtain ⟨d0, d1, _⟩ := hi.cells
        simp only at d0 d1
        go_wp2_with fail
        go_quiet (fail)
        have hi2 := hi.drewN nq
        go_wp2_with (go_at_call 31; refine (CS _ hi2.below).mono ?_; rintro e w2 ⟨rfl, rfl⟩)
        go_ret
        exact takesE_yes ((HB_drew hb1 _)) (by rw [HN.out]) (hi.drewN _)
      · have HN : Hid _ := end_c hpe hs
        have hsb := bne_of hs
        clear hs
        generalize sumB (b.take p) = S at *
        generalize v4 (b.drop p) = V at *
        go_enter Tryz.func108, Tryz.ntmps108
        go_wp2_with fail
        refine C.mono ?_
        intro r w1 hr
        obtain ⟨rfl, hi, hb1⟩ := hr.ok rfl
        clear hr C
        obtain ⟨d0, d1, _⟩ := hi.cells
        simp only at d0 d1
        go_wp2_with fail
        go_quiet (fail)
        have hi2 := hi.drewN nq
        go_wp2_with (go_at_call 31; refine (CS _ hi2.below).mono ?_; rintro e w2 ⟨rfl, rfl⟩)
        go_ret
        exact takesE_no ((HB_drew hb1 _)) (by rw [HN.out]) (by omega) (hi.drewN _)
  · rw [four_no hp] at C
    have HN : Hid _ := end_a hp
    go_enter Tryz.func108, Tryz.ntmps108
    go_wp2_with fail
    refine C.mono ?_
    intro r w1 hr
    obtain ⟨_, q, rfl, rfl, hi, hb1⟩ := hr.err (by simp)
    clear hr C
    go_wp2
    go_ret
    exact takesE_no hb1 HN.out (by omega) hi

end Go.Proofs.YthfcimmfkibmjaaGreatDoor
