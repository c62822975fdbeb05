/-
  The program's gone, Count and Places in one form; heavy. Rows of a bag, as a walk wants them; no Go in sight. Lists that are not there lie apart. Lists that are not there lie apart.
-/
import Derived.Test.YtokhclindfipbaaGreatDoorProg
import Derived.WalkKit
import Derived.WalkSpells
import Derived.WalkLawsBesides
import Derived.RowKit3
import Derived.Below
import Derived.Deep.QuietTactic
import Derived.BigQuiet
import Derived.WalkSmall
import Derived.Laws.Rows
import Derived.Test.YtokhclindfipbaaGreatDoorPa50
import Derived.Test.YtokhclindfipbaaGreatDoorPa46
import Derived.Test.YtokhclindfipbaaGreatDoorPa47
import Derived.Test.YtokhclindfipbaaGreatDoorPa49
import Derived.Deep.AppendLies
import Derived.Laws.OwnMore
import Derived.Test.YtokhclindfipbaaGreatDoorPa05
import Derived.Test.YtokhclindfipbaaGreatDoorPa01
namespace Go.Proofs.YtokhclindfipbaaGreatDoor
open Go.RowKit

def GonU (T : List (Nat × List Nat)) (E : Int) (w : World) (e : Ending) (w' : World) : Prop := ∃ (PT : List Tp) (O : Option Addr) (c : Nat), e = .returned (.tuple #[.slice O PT.length c, .int .i64 E]) ∧ fsts PT = T ∧ w'.ownsRow w.heap.size 69 2 (.slice O PT.length c) PT.length (dTp PT) ∧ TpAt w' w.heap.size PT ∧ SepT PT ∧ Below w.heap.size w w'
theorem gone_u (A1 A2 : Option Addr) (c1 ml c2 : Nat) (ent : Int) (text : List Int) (w : World) (hT : IntsAt w A1 .u32 text) (hR : ∀ i, i < text.length → 0 ≤ nth text i ∧ nth text i < 4294967296) (hl : text.length ≤ 1048576) (hm : ml ≤ 1048576) (hs : (checkI text ml ent).1 = 0 → text.length ≤ 512) :
    Calls Tryz.prog 7 #[.agg #[.slice A1 text.length c1, .int .i64 ent, .slice A2 ml c2], .int .i64 (-1)] w (GonU (tolT text ml ent) (checkI text ml ent).1 w) := by
  by_cases hE : (checkI text ml ent).1 = 0
  · have h0 := (check_mayI hE).past.pos
    rw [tolT_yes hE, hE]
    refine (gone_ok A1 A2 c1 ml c2 ent (-1) text w hT hR (by have := hs hE; omega) hm hE h0 _ rfl _ rfl (fun k h1 h2 => by omega)).mono ?_
    rintro e w' ⟨PT, O, c, h1, h2, h3, h4, h5, h6⟩
    exact ⟨PT, O, c, h1, h2, h3, h4, h5, h6⟩
  · rw [tolT_no hE]
    refine (gone_no A1 A2 c1 ml c2 ent (-1) text w hT hR hl hm hE).mono ?_
    rintro e w' ⟨h1, h2⟩
    exact ⟨[], none, 0, h1, rfl, World.ownsRow_nil _ _ _ _, fun p hp => (by cases hp), List.Pairwise.nil, h2⟩
theorem tdL_len (nm : List Int) (en : Nat → Nat) (L : List (Nat × Nat)) : (tdL nm en L).length = L.length := by
  unfold tdL
  rw [List.length_map]
theorem count_u (A1 A2 : Option Addr) (c1 ml c2 : Nat) (ent : Int) (text : List Int) (w : World) (hT : IntsAt w A1 .u32 text) (hR : ∀ i, i < text.length → 0 ≤ nth text i ∧ nth text i < 4294967296) (hl : text.length ≤ 1048576) (hm : ml ≤ 1048576) (hs : (checkI text ml ent).1 = 0 → text.length ≤ 512) :
    Calls Tryz.prog 9 #[.agg #[.slice A1 text.length c1, .int .i64 ent, .slice A2 ml c2]] w (RCntP (tolT text ml ent) (checkI text ml ent).1 w) := by
  by_cases hE : (checkI text ml ent).1 = 0
  · have h0 := (check_mayI hE).past.pos
    rw [tolT_yes hE, hE]
    refine (pcount_ok A1 A2 c1 ml c2 ent text w hT hR (by have := hs hE; omega) hm hE h0 _ rfl _ rfl).mono ?_
    rintro e w' ⟨h1, h2⟩
    exact ⟨by rw [tdL_len]; exact h1, h2⟩
  · rw [tolT_no hE]
    refine (pcount_no A1 A2 c1 ml c2 ent text w hT hR hl hm hE).mono ?_
    rintro e w' ⟨h1, h2⟩
    exact ⟨h1, h2⟩
theorem places_u (A1 A2 : Option Addr) (c1 ml c2 : Nat) (ent : Int) (text : List Int) (w : World) (hT : IntsAt w A1 .u32 text) (hR : ∀ i, i < text.length → 0 ≤ nth text i ∧ nth text i < 4294967296) (hl : text.length ≤ 1048576) (hm : ml ≤ 1048576) (hs : (checkI text ml ent).1 = 0 → text.length ≤ 512) (at' ln : Int) (ha : -9223372036854775808 ≤ at' ∧ at' ≤ 9223372036854775807) :
    Calls Tryz.prog 11 #[.agg #[.slice A1 text.length c1, .int .i64 ent, .slice A2 ml c2], .int .i64 at', .int .i64 ln] w (PlaP (plL text ml ent at' ln) (plE text ml ent at' ln) w) := by
  by_cases hE : (checkI text ml ent).1 = 0
  · have h0 := (check_mayI hE).past.pos
    have hpl : plL text ml ent at' ln = if okB text ent at' ln = true then plcS (numL text text.length) (enK (begF text ent) text.length) at'.toNat ln.toNat else [] := by
      unfold plL
      simp [hE]
    have hpe : plE text ml ent at' ln = if okB text ent at' ln = true then 0 else 1 := if_pos hE
    rw [hpl, hpe]
    clear hpl hpe
    cases ho : okB text ent at' ln with
    | true =>
      obtain ⟨k, n, rfl, rfl, hk, hn, hr⟩ := ok_split ho
      rw [if_pos rfl, if_pos rfl, Int.toNat_natCast, Int.toNat_natCast]
      refine (pplaces_ok A1 A2 c1 ml c2 ent k n text w hT hR (by have := hs hE; omega) hm hE h0 _ rfl _ rfl (by rw [numL_len]; exact hk) hn hr).mono ?_
      rintro e w' ⟨O, c, h1, h2, h3⟩
      exact ⟨O, c, h1, h2, h3⟩
    | false =>
      rw [if_neg (by simp), if_neg (by simp)]
      have hn : ln < 2 ∨ hrB (numL text text.length) (enK (begF text ent) text.length) at' ln = false := by
        unfold okB at ho
        rw [Bool.and_eq_false_iff, decide_eq_false_iff_not] at ho
        exact ho.imp (fun h => by omega) id
      refine (pplaces_arg A1 A2 c1 ml c2 ent at' ln text w hT hR (by have := hs hE; omega) hm hE h0 ha _ rfl _ rfl hn).mono ?_
      rintro e w' ⟨rfl, h2⟩
      exact PlaP.no rfl h2
  · have hpl : plL text ml ent at' ln = [] := if_neg (fun h => hE h.1)
    have hpe : plE text ml ent at' ln = (checkI text ml ent).1 := if_neg hE
    rw [hpl, hpe]
    refine (pplaces_no A1 A2 c1 ml c2 ent at' ln text w hT hR hl hm hE).mono ?_
    rintro e w' ⟨rfl, h2⟩
    exact PlaP.no rfl h2
/-- What heavy answers. -/
def HvQ (n1 n2 : Nat) (w : World) (e : Ending) (w' : World) : Prop := ∃ B : Bool, e = .returned (.bool B) ∧ (B = false → (n1 ≤ 200 ∨ 16384 < n1) ∧ n1 ≤ 32768 ∧ n2 ≤ 8192) ∧ Below w.heap.size w w'
set_option maxRecDepth 100000 in
set_option maxHeartbeats 4000000 in
theorem heavy18_any (A1 A2 : Option Addr) (c1 c2 n1 n2 : Nat) (ent : Int) (w : World) :
    Calls Tryz.prog 4 #[.agg #[.slice A1 n1 c1, .int .i64 ent, .slice A2 n2 c2]] w (HvQ n1 n2 w) := by
  by_cases a : 200 < n1
  · have a' : (200 : Int) < (n1 : Int) := by omega
    by_cases b : n1 ≤ 16384
    · have b' : (n1 : Int) ≤ 16384 := by omega
      go_enter Tryz.func4, Tryz.ntmps4
      go_wp2
      go_ret
      exact ⟨true, rfl, (fun h => by cases h), lb_alloc (Below.refl _ _) _⟩
    · have b' : ¬ (n1 : Int) ≤ 16384 := by omega
      have b2 : (16384 : Int) < (n1 : Int) := by omega
      by_cases c : 32768 < n1
      · have c' : (32768 : Int) < (n1 : Int) := by omega
        go_enter Tryz.func4, Tryz.ntmps4
        go_wp2
        go_ret
        exact ⟨true, rfl, (fun h => by cases h), lb_alloc (Below.refl _ _) _⟩
      · have c' : ¬ (32768 : Int) < (n1 : Int) := by omega
        by_cases d : 8192 < n2
        · have d' : (8192 : Int) < (n2 : Int) := by omega
          go_enter Tryz.func4, Tryz.ntmps4
          go_wp2
          go_ret
          exact ⟨true, rfl, (fun h => by cases h), lb_alloc (Below.refl _ _) _⟩
        · have d' : ¬ (8192 : Int) < (n2 : Int) := by omega
          have HQ : Hid ((n1 ≤ 200 ∨ 16384 < n1) ∧ n1 ≤ 32768 ∧ n2 ≤ 8192) := ⟨.inr (by omega), by omega, by omega⟩
          go_enter Tryz.func4, Tryz.ntmps4
          go_wp2
          go_ret
          exact ⟨false, rfl, (fun _ => HQ.out), lb_alloc (Below.refl _ _) _⟩
  · have a' : ¬ (200 : Int) < (n1 : Int) := by omega
    have c' : ¬ (32768 : Int) < (n1 : Int) := by omega
    by_cases d : 8192 < n2
    · have d' : (8192 : Int) < (n2 : Int) := by omega
      go_enter Tryz.func4, Tryz.ntmps4
      go_wp2
      go_ret
      exact ⟨true, rfl, (fun h => by cases h), lb_alloc (Below.refl _ _) _⟩
    · have d' : ¬ (8192 : Int) < (n2 : Int) := by omega
      have HQ : Hid ((n1 ≤ 200 ∨ 16384 < n1) ∧ n1 ≤ 32768 ∧ n2 ≤ 8192) := ⟨.inl (by omega), by omega, by omega⟩
      go_enter Tryz.func4, Tryz.ntmps4
      go_wp2
      go_ret
      exact ⟨false, rfl, (fun _ => HQ.out), lb_alloc (Below.refl _ _) _⟩

end Go.Proofs.YtokhclindfipbaaGreatDoor

namespace Go.Proofs.YtokhclindfipbaaGreatDoor
open Go.RowKit


theorem Fr.cell {rs : List (Value × Nat)} {w0 w : World} (h : Fr rs w0 w) {a : Addr} {v : Value} (hc : w0.cell? a = some v) (hB : ∀ m, m < rs.length → (rv rs m).ownBlock ≠ some a.block) : w.cell? a = some v :=
  (World.cell?_of_block (h.block a.block (World.block_lt_of_cell? w0 a hc) hB)).trans hc
theorem Fr.refl (rs : List (Value × Nat)) (w : World) : Fr rs w w := ⟨rfl, rfl, rfl, Nat.le_refl _, fun _ _ _ => rfl⟩
/-- A row's value, written out. -/
theorem own_any {w : World} {base : Nat} {e : TypeId} {size : Nat} {v : Value} {n : Nat} {xs : List Value} (h : w.ownsRow base e size v n xs) : ∃ A c, v = .slice A n c ∧ n ≤ c := by
  rcases h.2 with ⟨rfl, rfl⟩ | ⟨g, cap, cur, rfl, _, _, hc, _⟩
  · exact ⟨none, 0, rfl, Nat.le_refl _⟩
  · exact ⟨_, _, rfl, hc⟩
/-- The value at a place of a list of lists. -/
theorem vn_get (l : List Value) (m : Nat) (h : m < l.length) : l[m]? = some (vn l m) := by simp [vn, h]
theorem outer_at {w : World} {TS : TypeId} {A : Option Addr} {n cV : Nat} {l : List Value} (h : w.ownsRow 0 TS 1 (.slice A n cV) n l) (m : Nat) (hm : m < n) : ∃ a, A = some a ∧ w.cell? (a.add m) = some (vn l m) := by
  have hl : l.length = n := by have := h.1; omega
  obtain ⟨g, cap, e, _, _⟩ := h.form (by omega)
  cases e
  exact ⟨_, rfl, h.cells rfl m _ (vn_get l m (by omega))⟩
theorem bag_at {rs : List (Value × Nat)} {w : World} {TS : TypeId} {A : Option Addr} {cV : Nat} (h : w.ownsRow 0 TS 1 (.slice A rs.length cV) rs.length (rs.map Prod.fst)) (m : Nat) (hm : m < rs.length) : ∃ a, A = some a ∧ w.cell? (a.add m) = some (rv rs m) := by
  rw [← vn_map rs m hm]
  exact outer_at h m hm
/-- A cell of a row. -/
theorem row_cell {w : World} {e : TypeId} {size g n c : Nat} {xs : List Value} (h : w.ownsRow 0 e size (.slice (some ⟨g, 0, none⟩) n c) n xs) (j : Nat) (hj : j < n * size) : ∃ u, w.cell? ((⟨g, 0, none⟩ : Addr).add j) = some u :=
  ⟨_, h.cells rfl j _ (List.getElem?_eq_getElem (by rw [h.1]; exact hj))⟩

theorem row_cell0 {w : World} {e : TypeId} {size g n c : Nat} {xs : List Value} (h : w.ownsRow 0 e size (.slice (some ⟨g, 0, none⟩) n c) n xs) (j : Nat) (hj : j < n * size) : ∃ u, w.cell? ⟨g, j, none⟩ = some u := by
  obtain ⟨u, hu⟩ := row_cell h j hj
  rw [Addr.add_lit, Nat.zero_add] at hu
  exact ⟨u, hu⟩
theorem take_set {xs M : List Value} {p : Nat} (h : xs.take p = M) (hp : p < xs.length) (u : Value) : (xs.set p u).take (p + 1) = M ++ [u] := by
  rw [List.take_set, List.take_succ_eq_append_getElem hp, h]
  have hl : M.length = p := by rw [← h, List.length_take]; omega
  rw [List.set_append_right _ _ (by omega), hl, Nat.sub_self]
  rfl
/-- Marks being written, cell by cell. -/
structure Wm (T TS : TypeId) (size : Nat) (mk : Nat → Nat → List Value) (rs : List (Value × Nat)) (V : Value) (w0 w : World) (n i : Nat) : Prop where
  wr : Wr T size mk rs w n i
  bag : w.ownsRow 0 TS 1 V rs.length (rs.map Prod.fst)
  fr : Fr rs w0 w
section
variable {T TS : TypeId} {size : Nat} {mk : Nat → Nat → List Value} {rs : List (Value × Nat)} {V : Value} {w0 w : World} {n i : Nat}
theorem Wm.next (h : Wm T TS size mk rs V w0 w n (rl rs n)) : Wm T TS size mk rs V w0 w (n + 1) 0 := ⟨h.wr.next, h.bag, h.fr⟩
theorem Wm.start (hV : w.ownsRow 0 TS 1 V rs.length (rs.map Prod.fst)) (hR : ∀ m, m < rs.length → ∃ xs, w.ownsRow 0 T size (rv rs m) (rl rs m) xs) : Wm T TS size mk rs V w w 0 0 :=
  ⟨fun m hm => by
    obtain ⟨xs, hx⟩ := hR m hm
    exact ⟨xs, hx, fun h => by omega, fun _ => by simp [marks]⟩, hV, Fr.refl rs w⟩
theorem Wm.row (h : Wm T TS size mk rs V w0 w n i) {m : Nat} (hm : m < rs.length) : ∃ xs, w.ownsRow 0 T size (rv rs m) (rl rs m) xs := by
  obtain ⟨xs, hx, _⟩ := h.wr m hm
  exact ⟨xs, hx⟩
/-- A mark is written. -/
theorem Wm.step {w' : World} (hs : Sep rs) (hT : T ≠ TS) (h : Wm T TS size mk rs V w0 w n i) (hn : n < rs.length) (hg : w.grownBy w' (rv rs n).ownBlock) (ho : ∀ xs, w.ownsRow 0 T size (rv rs n) (rl rs n) xs → xs.take (i * size) = marks mk n i → ∃ ys, w'.ownsRow 0 T size (rv rs n) (rl rs n) ys ∧ ys.take ((i + 1) * size) = marks mk n (i + 1)) : Wm T TS size mk rs V w0 w' n (i + 1) := by
  obtain ⟨xs, hx⟩ := h.row hn
  exact ⟨h.wr.step hs hn hg ho, own_other h.bag hg (own_not hx hT), h.fr.grown hg fun b hb => .inr ⟨n, hn, hb⟩⟩
theorem grown_trans {a b c : World} {row : Option Nat} (h : a.grownBy b row) (k : b.grownBy c row) : a.grownBy c row :=
  ⟨k.os.trans h.os, k.tape.trans h.tape, k.output.trans h.output, Nat.le_trans h.size k.size, fun x hx hn => (k.block x (Nat.lt_of_lt_of_le hx h.size) hn).trans (h.block x hx hn)⟩
theorem Wm.step1 {g c : Nat} {u : Value} (hs : Sep rs) (hT : T ≠ TS) (h : Wm T TS 1 mk rs V w0 w n i) (hn : n < rs.length) (hi : i < rl rs n) (e : rv rs n = .slice (some ⟨g, 0, none⟩) (rl rs n) c) (hu : mk n i = [u]) : Wm T TS 1 mk rs V w0 (w.setCell ⟨g, i, none⟩ u) n (i + 1) := by
  obtain ⟨xs, hx⟩ := h.row hn
  rw [e] at hx
  refine h.step hs hT hn (by rw [e]; exact (hx.stored i u).2) fun xs hx ht => ?_
  rw [e] at hx ⊢
  refine ⟨_, (hx.stored i u).1, ?_⟩
  rw [Nat.mul_one] at ht ⊢
  rw [take_set ht (by rw [hx.1]; omega), marks_succ, hu]
theorem Wm.step2 {g c : Nat} {u v : Value} (hs : Sep rs) (hT : T ≠ TS) (h : Wm T TS 2 mk rs V w0 w n i) (hn : n < rs.length) (hi : i < rl rs n) (e : rv rs n = .slice (some ⟨g, 0, none⟩) (rl rs n) c) (hu : mk n i = [u, v]) : Wm T TS 2 mk rs V w0 ((w.setCell ⟨g, i * 2, none⟩ u).setCell ⟨g, i * 2 + 1, none⟩ v) n (i + 1) := by
  obtain ⟨xs, hx⟩ := h.row hn
  rw [e] at hx
  refine h.step hs hT hn (by rw [e]; exact grown_trans (hx.stored (i * 2) u).2 ((hx.stored (i * 2) u).1.stored (i * 2 + 1) v).2) fun xs hx ht => ?_
  rw [e] at hx ⊢
  refine ⟨_, ((hx.stored (i * 2) u).1.stored (i * 2 + 1) v).1, ?_⟩
  have h1 := take_set ht (by rw [hx.1]; omega) u
  have h2 := take_set h1 (by rw [List.length_set, hx.1]; omega) v
  rw [show (i + 1) * 2 = i * 2 + 1 + 1 by omega, h2, marks_succ, hu, List.append_assoc]
  rfl
theorem Wm.step3 {g c : Nat} {u v x : Value} (hs : Sep rs) (hT : T ≠ TS) (h : Wm T TS 3 mk rs V w0 w n i) (hn : n < rs.length) (hi : i < rl rs n) (e : rv rs n = .slice (some ⟨g, 0, none⟩) (rl rs n) c) (hu : mk n i = [u, v, x]) : Wm T TS 3 mk rs V w0 (((w.setCell ⟨g, i * 3, none⟩ u).setCell ⟨g, i * 3 + 1, none⟩ v).setCell ⟨g, i * 3 + 2, none⟩ x) n (i + 1) := by
  obtain ⟨xs, hx⟩ := h.row hn
  rw [e] at hx
  refine h.step hs hT hn (by rw [e]; exact grown_trans (grown_trans (hx.stored (i * 3) u).2 ((hx.stored (i * 3) u).1.stored (i * 3 + 1) v).2) (((hx.stored (i * 3) u).1.stored (i * 3 + 1) v).1.stored (i * 3 + 2) x).2) fun xs hx ht => ?_
  rw [e] at hx ⊢
  refine ⟨_, (((hx.stored (i * 3) u).1.stored (i * 3 + 1) v).1.stored (i * 3 + 2) x).1, ?_⟩
  have h1 := take_set ht (by rw [hx.1]; omega) u
  have h2 := take_set h1 (by rw [List.length_set, hx.1]; omega) v
  have h3 := take_set h2 (by rw [List.length_set, List.length_set, hx.1]; omega) x
  rw [show (i + 1) * 3 = i * 3 + 1 + 1 + 1 by omega, h3, marks_succ, hu, List.append_assoc, List.append_assoc]
  rfl
theorem Wm.out (hs : Sep rs) (h : Wm T TS size mk rs V w0 w rs.length 0) : Out T TS size mk rs w0 w 0 V (.slice none 0 0) (.slice none 0 0) [] [] := Wr.out hs h.wr h.bag h.fr
/-- A new block is made. -/
theorem Out.alloc {O M : Value} {os ms : List Value} (h : Out T TS size mk rs w0 w n V O M os ms) (o : Obj) : Out T TS size mk rs w0 (w.alloc o) n V O M os ms :=
  h.other (World.grownBy_alloc w o none) (fun b e => by cases e) (fun b e => by cases e) (fun b e => by cases e)
theorem Ap.alloc {O M l : Value} {os ms : List Value} (h : Ap T TS size mk rs w0 w n V O M os ms l i) (o : Obj) : Ap T TS size mk rs w0 (w.alloc o) n V O M os ms l i :=
  ⟨h.out.alloc o, h.cur.alloc o, h.my, h.far, h.safe⟩
/-- What a held row's cells are. -/
theorem own_mark {g L c k j : Nat} (hmk : ∀ n i, (mk n i).length = size) (h : w.ownsRow 0 T size (.slice (some ⟨g, 0, none⟩) L c) L (marks mk k L)) (hi : i < L) (hj : j < size) {u : Value} (hu : (mk k i)[j]? = some u) : w.cell? ⟨g, i * size + j, none⟩ = some u := by
  have := h.cells rfl (i * size + j) u (by rw [marks_get hmk k hi hj]; exact hu)
  rwa [Addr.add_lit, Nat.zero_add] at this
theorem Out.row {O M : Value} {os ms : List Value} (h : Out T TS size mk rs w0 w n V O M os ms) (k : Nat) (hk : k < rs.length) : w.ownsRow 0 T size (rv rs k) (rl rs k) (marks mk k (rl rs k)) := (h.held _ _ _ (.inl ⟨hk, rfl, rfl⟩)).1
theorem Out.ones {O M : Value} {os ms : List Value} (h : Out T TS size mk rs w0 w n V O M os ms) (k : Nat) (hk : k < os.length) : w.ownsRow 0 T size (vn os k) (rl rs k + 1) (marks mk k (rl rs k + 1)) := (h.held _ _ _ (.inr (.inl ⟨hk, rfl, rfl⟩))).1
theorem Out.mores {O M : Value} {os ms : List Value} (h : Out T TS size mk rs w0 w n V O M os ms) (k : Nat) (hk : k < ms.length) : w.ownsRow 0 T size (vn ms k) (rl rs k + 70) (marks mk k (rl rs k + 70)) := (h.held _ _ _ (.inr (.inr ⟨hk, rfl, rfl⟩))).1
end







end Go.Proofs.YtokhclindfipbaaGreatDoor

namespace Go.Proofs.YtokhclindfipbaaGreatDoor
open Go.RowKit


set_option maxRecDepth 100000 in
set_option maxHeartbeats 1000000 in
theorem none_42 (B : Nat) (w : World) (hb : w.cell? ⟨B, 0, none⟩ = some (.slice none 0 0)) : Calls Tryz.prog 39 #[.pointer (some ⟨B, 0, none⟩)] w fun r w' => r = .returned (.bool true) ∧ w' = w := by
  go_enter Tryz.func39, Tryz.ntmps39
  go_wp2
  go_loopw [3] (fun n wr => n = .int .i64 0 ∧ wr = w) (fun _ _ => 0)
  case atStart => exact ⟨rfl, rfl⟩
  case round =>
    obtain ⟨rfl, rfl⟩ := hrel
    go_wp2
    go_loopw [7, 6] (fun n m w2 => n = .int .i64 0 ∧ m = .slice none 0 0 ∧ w2 = wr) (fun _ _ _ => 0)
    case atStart => exact ⟨rfl, rfl, rfl⟩
    case round =>
      obtain ⟨rfl, rfl, rfl⟩ := hrel
      go_wp2
      go_loopw [10] (fun n w3 => n = .int .i64 0 ∧ w3 = wr) (fun _ _ => 0)
      case atStart => exact ⟨rfl, rfl⟩
      case round =>
        obtain ⟨rfl, rfl⟩ := hrel
        go_wp2
        go_ret
        exact ⟨rfl, rfl⟩

set_option maxRecDepth 100000 in
set_option maxHeartbeats 1000000 in
theorem none_43 (B : Nat) (w : World) (hb : w.cell? ⟨B, 1, none⟩ = some (.slice none 0 0)) : Calls Tryz.prog 40 #[.pointer (some ⟨B, 0, none⟩)] w fun r w' => r = .returned (.bool true) ∧ w' = w := by
  go_enter Tryz.func40, Tryz.ntmps40
  go_wp2
  go_loopw [3] (fun n wr => n = .int .i64 0 ∧ wr = w) (fun _ _ => 0)
  case atStart => exact ⟨rfl, rfl⟩
  case round =>
    obtain ⟨rfl, rfl⟩ := hrel
    go_wp2
    go_loopw [7, 6] (fun n m w2 => n = .int .i64 0 ∧ m = .slice none 0 0 ∧ w2 = wr) (fun _ _ _ => 0)
    case atStart => exact ⟨rfl, rfl, rfl⟩
    case round =>
      obtain ⟨rfl, rfl, rfl⟩ := hrel
      go_wp2
      go_loopw [10] (fun n w3 => n = .int .i64 0 ∧ w3 = wr) (fun _ _ => 0)
      case atStart => exact ⟨rfl, rfl⟩
      case round =>
        obtain ⟨rfl, rfl⟩ := hrel
        go_wp2
        go_ret
        exact ⟨rfl, rfl⟩

set_option maxRecDepth 100000 in
set_option maxHeartbeats 1000000 in
theorem none_44 (B : Nat) (w : World) (hb : w.cell? ⟨B, 2, none⟩ = some (.slice none 0 0)) : Calls Tryz.prog 41 #[.pointer (some ⟨B, 0, none⟩)] w fun r w' => r = .returned (.bool true) ∧ w' = w := by
  go_enter Tryz.func41, Tryz.ntmps41
  go_wp2
  go_loopw [3] (fun n wr => n = .int .i64 0 ∧ wr = w) (fun _ _ => 0)
  case atStart => exact ⟨rfl, rfl⟩
  case round =>
    obtain ⟨rfl, rfl⟩ := hrel
    go_wp2
    go_loopw [7, 6] (fun n m w2 => n = .int .i64 0 ∧ m = .slice none 0 0 ∧ w2 = wr) (fun _ _ _ => 0)
    case atStart => exact ⟨rfl, rfl, rfl⟩
    case round =>
      obtain ⟨rfl, rfl, rfl⟩ := hrel
      go_wp2
      go_loopw [10] (fun n w3 => n = .int .i64 0 ∧ w3 = wr) (fun _ _ => 0)
      case atStart => exact ⟨rfl, rfl⟩
      case round =>
        obtain ⟨rfl, rfl⟩ := hrel
        go_wp2
        go_ret
        exact ⟨rfl, rfl⟩

set_option maxRecDepth 100000 in
set_option maxHeartbeats 1000000 in
theorem none_45 (B : Nat) (w : World) (hb : w.cell? ⟨B, 3, none⟩ = some (.slice none 0 0)) : Calls Tryz.prog 42 #[.pointer (some ⟨B, 0, none⟩)] w fun r w' => r = .returned (.bool true) ∧ w' = w := by
  go_enter Tryz.func42, Tryz.ntmps42
  go_wp2
  go_loopw [3] (fun n wr => n = .int .i64 0 ∧ wr = w) (fun _ _ => 0)
  case atStart => exact ⟨rfl, rfl⟩
  case round =>
    obtain ⟨rfl, rfl⟩ := hrel
    go_wp2
    go_loopw [7, 6] (fun n m w2 => n = .int .i64 0 ∧ m = .slice none 0 0 ∧ w2 = wr) (fun _ _ _ => 0)
    case atStart => exact ⟨rfl, rfl, rfl⟩
    case round =>
      obtain ⟨rfl, rfl, rfl⟩ := hrel
      go_wp2
      go_loopw [10] (fun n w3 => n = .int .i64 0 ∧ w3 = wr) (fun _ _ => 0)
      case atStart => exact ⟨rfl, rfl⟩
      case round =>
        obtain ⟨rfl, rfl⟩ := hrel
        go_wp2
        go_ret
        exact ⟨rfl, rfl⟩

set_option maxRecDepth 100000 in
set_option maxHeartbeats 1000000 in
theorem none_46 (B : Nat) (w : World) (hb : w.cell? ⟨B, 4, none⟩ = some (.slice none 0 0)) : Calls Tryz.prog 43 #[.pointer (some ⟨B, 0, none⟩)] w fun r w' => r = .returned (.bool true) ∧ w' = w := by
  go_enter Tryz.func43, Tryz.ntmps43
  go_wp2
  go_loopw [3] (fun n wr => n = .int .i64 0 ∧ wr = w) (fun _ _ => 0)
  case atStart => exact ⟨rfl, rfl⟩
  case round =>
    obtain ⟨rfl, rfl⟩ := hrel
    go_wp2
    go_loopw [7, 6] (fun n m w2 => n = .int .i64 0 ∧ m = .slice none 0 0 ∧ w2 = wr) (fun _ _ _ => 0)
    case atStart => exact ⟨rfl, rfl, rfl⟩
    case round =>
      obtain ⟨rfl, rfl, rfl⟩ := hrel
      go_wp2
      go_loopw [10] (fun n w3 => n = .int .i64 0 ∧ w3 = wr) (fun _ _ => 0)
      case atStart => exact ⟨rfl, rfl⟩
      case round =>
        obtain ⟨rfl, rfl⟩ := hrel
        go_wp2
        go_ret
        exact ⟨rfl, rfl⟩

set_option maxRecDepth 100000 in
set_option maxHeartbeats 1000000 in
theorem none_47 (B : Nat) (w : World) (hb : w.cell? ⟨B, 5, none⟩ = some (.slice none 0 0)) : Calls Tryz.prog 44 #[.pointer (some ⟨B, 0, none⟩)] w fun r w' => r = .returned (.bool true) ∧ w' = w := by
  go_enter Tryz.func44, Tryz.ntmps44
  go_wp2
  go_loopw [3] (fun n wr => n = .int .i64 0 ∧ wr = w) (fun _ _ => 0)
  case atStart => exact ⟨rfl, rfl⟩
  case round =>
    obtain ⟨rfl, rfl⟩ := hrel
    go_wp2
    go_loopw [7, 6] (fun n m w2 => n = .int .i64 0 ∧ m = .slice none 0 0 ∧ w2 = wr) (fun _ _ _ => 0)
    case atStart => exact ⟨rfl, rfl, rfl⟩
    case round =>
      obtain ⟨rfl, rfl, rfl⟩ := hrel
      go_wp2
      go_loopw [10] (fun n w3 => n = .int .i64 0 ∧ w3 = wr) (fun _ _ => 0)
      case atStart => exact ⟨rfl, rfl⟩
      case round =>
        obtain ⟨rfl, rfl⟩ := hrel
        go_wp2
        go_ret
        exact ⟨rfl, rfl⟩







end Go.Proofs.YtokhclindfipbaaGreatDoor

namespace Go.Proofs.YtokhclindfipbaaGreatDoor
open Go.RowKit


set_option maxRecDepth 100000 in
set_option maxHeartbeats 1000000 in
theorem none_48 (B : Nat) (w : World) (hb : w.cell? ⟨B, 6, none⟩ = some (.slice none 0 0)) : Calls Tryz.prog 45 #[.pointer (some ⟨B, 0, none⟩)] w fun r w' => r = .returned (.bool true) ∧ w' = w := by
  go_enter Tryz.func45, Tryz.ntmps45
  go_wp2
  go_loopw [3] (fun n wr => n = .int .i64 0 ∧ wr = w) (fun _ _ => 0)
  case atStart => exact ⟨rfl, rfl⟩
  case round =>
    obtain ⟨rfl, rfl⟩ := hrel
    go_wp2
    go_loopw [7, 6] (fun n m w2 => n = .int .i64 0 ∧ m = .slice none 0 0 ∧ w2 = wr) (fun _ _ _ => 0)
    case atStart => exact ⟨rfl, rfl, rfl⟩
    case round =>
      obtain ⟨rfl, rfl, rfl⟩ := hrel
      go_wp2
      go_loopw [10] (fun n w3 => n = .int .i64 0 ∧ w3 = wr) (fun _ _ => 0)
      case atStart => exact ⟨rfl, rfl⟩
      case round =>
        obtain ⟨rfl, rfl⟩ := hrel
        go_wp2
        go_ret
        exact ⟨rfl, rfl⟩

set_option maxRecDepth 100000 in
set_option maxHeartbeats 1000000 in
theorem none_49 (B : Nat) (w : World) (hb : w.cell? ⟨B, 7, none⟩ = some (.slice none 0 0)) : Calls Tryz.prog 46 #[.pointer (some ⟨B, 0, none⟩)] w fun r w' => r = .returned (.bool true) ∧ w' = w := by
  go_enter Tryz.func46, Tryz.ntmps46
  go_wp2
  go_loopw [3] (fun n wr => n = .int .i64 0 ∧ wr = w) (fun _ _ => 0)
  case atStart => exact ⟨rfl, rfl⟩
  case round =>
    obtain ⟨rfl, rfl⟩ := hrel
    go_wp2
    go_loopw [7, 6] (fun n m w2 => n = .int .i64 0 ∧ m = .slice none 0 0 ∧ w2 = wr) (fun _ _ _ => 0)
    case atStart => exact ⟨rfl, rfl, rfl⟩
    case round =>
      obtain ⟨rfl, rfl, rfl⟩ := hrel
      go_wp2
      go_loopw [10] (fun n w3 => n = .int .i64 0 ∧ w3 = wr) (fun _ _ => 0)
      case atStart => exact ⟨rfl, rfl⟩
      case round =>
        obtain ⟨rfl, rfl⟩ := hrel
        go_wp2
        go_ret
        exact ⟨rfl, rfl⟩

set_option maxRecDepth 100000 in
set_option maxHeartbeats 1000000 in
theorem none_50 (B : Nat) (w : World) (hb : w.cell? ⟨B, 8, none⟩ = some (.slice none 0 0)) : Calls Tryz.prog 47 #[.pointer (some ⟨B, 0, none⟩)] w fun r w' => r = .returned (.bool true) ∧ w' = w := by
  go_enter Tryz.func47, Tryz.ntmps47
  go_wp2
  go_loopw [3] (fun n wr => n = .int .i64 0 ∧ wr = w) (fun _ _ => 0)
  case atStart => exact ⟨rfl, rfl⟩
  case round =>
    obtain ⟨rfl, rfl⟩ := hrel
    go_wp2
    go_loopw [7, 6] (fun n m w2 => n = .int .i64 0 ∧ m = .slice none 0 0 ∧ w2 = wr) (fun _ _ _ => 0)
    case atStart => exact ⟨rfl, rfl, rfl⟩
    case round =>
      obtain ⟨rfl, rfl, rfl⟩ := hrel
      go_wp2
      go_loopw [10] (fun n w3 => n = .int .i64 0 ∧ w3 = wr) (fun _ _ => 0)
      case atStart => exact ⟨rfl, rfl⟩
      case round =>
        obtain ⟨rfl, rfl⟩ := hrel
        go_wp2
        go_ret
        exact ⟨rfl, rfl⟩

set_option maxRecDepth 100000 in
set_option maxHeartbeats 1000000 in
theorem none_51 (B : Nat) (w : World) (hb : w.cell? ⟨B, 9, none⟩ = some (.slice none 0 0)) : Calls Tryz.prog 48 #[.pointer (some ⟨B, 0, none⟩)] w fun r w' => r = .returned (.bool true) ∧ w' = w := by
  go_enter Tryz.func48, Tryz.ntmps48
  go_wp2
  go_loopw [3] (fun n wr => n = .int .i64 0 ∧ wr = w) (fun _ _ => 0)
  case atStart => exact ⟨rfl, rfl⟩
  case round =>
    obtain ⟨rfl, rfl⟩ := hrel
    go_wp2
    go_loopw [7, 6] (fun n m w2 => n = .int .i64 0 ∧ m = .slice none 0 0 ∧ w2 = wr) (fun _ _ _ => 0)
    case atStart => exact ⟨rfl, rfl, rfl⟩
    case round =>
      obtain ⟨rfl, rfl, rfl⟩ := hrel
      go_wp2
      go_loopw [10] (fun n w3 => n = .int .i64 0 ∧ w3 = wr) (fun _ _ => 0)
      case atStart => exact ⟨rfl, rfl⟩
      case round =>
        obtain ⟨rfl, rfl⟩ := hrel
        go_wp2
        go_ret
        exact ⟨rfl, rfl⟩

set_option maxRecDepth 100000 in
set_option maxHeartbeats 1000000 in
theorem none_52 (B : Nat) (w : World) (hb : w.cell? ⟨B, 10, none⟩ = some (.slice none 0 0)) : Calls Tryz.prog 49 #[.pointer (some ⟨B, 0, none⟩)] w fun r w' => r = .returned (.bool true) ∧ w' = w := by
  go_enter Tryz.func49, Tryz.ntmps49
  go_wp2
  go_loopw [3] (fun n wr => n = .int .i64 0 ∧ wr = w) (fun _ _ => 0)
  case atStart => exact ⟨rfl, rfl⟩
  case round =>
    obtain ⟨rfl, rfl⟩ := hrel
    go_wp2
    go_loopw [7, 6] (fun n m w2 => n = .int .i64 0 ∧ m = .slice none 0 0 ∧ w2 = wr) (fun _ _ _ => 0)
    case atStart => exact ⟨rfl, rfl, rfl⟩
    case round =>
      obtain ⟨rfl, rfl, rfl⟩ := hrel
      go_wp2
      go_loopw [10] (fun n w3 => n = .int .i64 0 ∧ w3 = wr) (fun _ _ => 0)
      case atStart => exact ⟨rfl, rfl⟩
      case round =>
        obtain ⟨rfl, rfl⟩ := hrel
        go_wp2
        go_ret
        exact ⟨rfl, rfl⟩







end Go.Proofs.YtokhclindfipbaaGreatDoor
