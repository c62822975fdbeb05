/-
  Rows of a bag, as a walk wants them; no Go in sight. A bag of bytes: marked, grown, and looked at: all marks stand. Lists that are not there lie apart. Lists that are not there lie apart.
-/
import Derived.Test.YthfcimmfkibmjaaGreatDoorProg
import Derived.WalkKit
import Derived.WalkSpells
import Derived.WalkLawsBesides
import Derived.RowKit3
import Derived.Below
import Derived.Deep.QuietTactic
import Derived.BigQuiet
import Derived.WalkSmall
import Derived.Laws.Rows
import Derived.Test.YthfcimmfkibmjaaGreatDoorWd20
import Derived.Test.YthfcimmfkibmjaaGreatDoorWd01
import Derived.Deep.AppendLies
import Derived.Laws.OwnMore
import Derived.Test.YthfcimmfkibmjaaGreatDoorWd06
namespace Go.Proofs.YthfcimmfkibmjaaGreatDoor
open Go.RowKit


theorem Fr.cell {rs : List (Value × Nat)} {w0 w : World} (h : Fr rs w0 w) {a : Addr} {v : Value} (hc : w0.cell? a = some v) (hB : ∀ m, m < rs.length → (rv rs m).ownBlock ≠ some a.block) : w.cell? a = some v :=
  (World.cell?_of_block (h.block a.block (World.block_lt_of_cell? w0 a hc) hB)).trans hc
theorem Fr.refl (rs : List (Value × Nat)) (w : World) : Fr rs w w := ⟨rfl, rfl, rfl, Nat.le_refl _, fun _ _ _ => rfl⟩
/-- A row's value, written out. -/
theorem own_any {w : World} {base : Nat} {e : TypeId} {size : Nat} {v : Value} {n : Nat} {xs : List Value} (h : w.ownsRow base e size v n xs) : ∃ A c, v = .slice A n c ∧ n ≤ c := by
  rcases h.2 with ⟨rfl, rfl⟩ | ⟨g, cap, cur, rfl, _, _, hc, _⟩
  · exact ⟨none, 0, rfl, Nat.le_refl _⟩
  · exact ⟨_, _, rfl, hc⟩
/-- The value at a place of a list of lists. -/
theorem vn_get (l : List Value) (m : Nat) (h : m < l.length) : l[m]? = some (vn l m) := by simp [vn, h]
theorem outer_at {w : World} {TS : TypeId} {A : Option Addr} {n cV : Nat} {l : List Value} (h : w.ownsRow 0 TS 1 (.slice A n cV) n l) (m : Nat) (hm : m < n) : ∃ a, A = some a ∧ w.cell? (a.add m) = some (vn l m) := by
  have hl : l.length = n := by have := h.1; omega
  obtain ⟨g, cap, e, _, _⟩ := h.form (by omega)
  cases e
  exact ⟨_, rfl, h.cells rfl m _ (vn_get l m (by omega))⟩
theorem bag_at {rs : List (Value × Nat)} {w : World} {TS : TypeId} {A : Option Addr} {cV : Nat} (h : w.ownsRow 0 TS 1 (.slice A rs.length cV) rs.length (rs.map Prod.fst)) (m : Nat) (hm : m < rs.length) : ∃ a, A = some a ∧ w.cell? (a.add m) = some (rv rs m) := by
  rw [← vn_map rs m hm]
  exact outer_at h m hm
/-- A cell of a row. -/
theorem row_cell {w : World} {e : TypeId} {size g n c : Nat} {xs : List Value} (h : w.ownsRow 0 e size (.slice (some ⟨g, 0, none⟩) n c) n xs) (j : Nat) (hj : j < n * size) : ∃ u, w.cell? ((⟨g, 0, none⟩ : Addr).add j) = some u :=
  ⟨_, h.cells rfl j _ (List.getElem?_eq_getElem (by rw [h.1]; exact hj))⟩

theorem row_cell0 {w : World} {e : TypeId} {size g n c : Nat} {xs : List Value} (h : w.ownsRow 0 e size (.slice (some ⟨g, 0, none⟩) n c) n xs) (j : Nat) (hj : j < n * size) : ∃ u, w.cell? ⟨g, j, none⟩ = some u := by
  obtain ⟨u, hu⟩ := row_cell h j hj
  rw [Addr.add_lit, Nat.zero_add] at hu
  exact ⟨u, hu⟩
theorem take_set {xs M : List Value} {p : Nat} (h : xs.take p = M) (hp : p < xs.length) (u : Value) : (xs.set p u).take (p + 1) = M ++ [u] := by
  rw [List.take_set, List.take_succ_eq_append_getElem hp, h]
  have hl : M.length = p := by rw [← h, List.length_take]; omega
  rw [List.set_append_right _ _ (by omega), hl, Nat.sub_self]
  rfl
/-- Marks being written, cell by cell. -/
structure Wm (T TS : TypeId) (size : Nat) (mk : Nat → Nat → List Value) (rs : List (Value × Nat)) (V : Value) (w0 w : World) (n i : Nat) : Prop where
  wr : Wr T size mk rs w n i
  bag : w.ownsRow 0 TS 1 V rs.length (rs.map Prod.fst)
  fr : Fr rs w0 w
section
variable {T TS : TypeId} {size : Nat} {mk : Nat → Nat → List Value} {rs : List (Value × Nat)} {V : Value} {w0 w : World} {n i : Nat}
theorem Wm.next (h : Wm T TS size mk rs V w0 w n (rl rs n)) : Wm T TS size mk rs V w0 w (n + 1) 0 := ⟨h.wr.next, h.bag, h.fr⟩
theorem Wm.start (hV : w.ownsRow 0 TS 1 V rs.length (rs.map Prod.fst)) (hR : ∀ m, m < rs.length → ∃ xs, w.ownsRow 0 T size (rv rs m) (rl rs m) xs) : Wm T TS size mk rs V w w 0 0 :=
  ⟨fun m hm => by
    obtain ⟨xs, hx⟩ := hR m hm
    exact ⟨xs, hx, fun h => by omega, fun _ => by simp [marks]⟩, hV, Fr.refl rs w⟩
theorem Wm.row (h : Wm T TS size mk rs V w0 w n i) {m : Nat} (hm : m < rs.length) : ∃ xs, w.ownsRow 0 T size (rv rs m) (rl rs m) xs := by
  obtain ⟨xs, hx, _⟩ := h.wr m hm
  exact ⟨xs, hx⟩
/-- A mark is written. -/
theorem Wm.step {w' : World} (hs : Sep rs) (hT : T ≠ TS) (h : Wm T TS size mk rs V w0 w n i) (hn : n < rs.length) (hg : w.grownBy w' (rv rs n).ownBlock) (ho : ∀ xs, w.ownsRow 0 T size (rv rs n) (rl rs n) xs → xs.take (i * size) = marks mk n i → ∃ ys, w'.ownsRow 0 T size (rv rs n) (rl rs n) ys ∧ ys.take ((i + 1) * size) = marks mk n (i + 1)) : Wm T TS size mk rs V w0 w' n (i + 1) := by
  obtain ⟨xs, hx⟩ := h.row hn
  exact ⟨h.wr.step hs hn hg ho, own_other h.bag hg (own_not hx hT), h.fr.grown hg fun b hb => .inr ⟨n, hn, hb⟩⟩
theorem grown_trans {a b c : World} {row : Option Nat} (h : a.grownBy b row) (k : b.grownBy c row) : a.grownBy c row :=
  ⟨k.os.trans h.os, k.tape.trans h.tape, k.output.trans h.output, Nat.le_trans h.size k.size, fun x hx hn => (k.block x (Nat.lt_of_lt_of_le hx h.size) hn).trans (h.block x hx hn)⟩
theorem Wm.step1 {g c : Nat} {u : Value} (hs : Sep rs) (hT : T ≠ TS) (h : Wm T TS 1 mk rs V w0 w n i) (hn : n < rs.length) (hi : i < rl rs n) (e : rv rs n = .slice (some ⟨g, 0, none⟩) (rl rs n) c) (hu : mk n i = [u]) : Wm T TS 1 mk rs V w0 (w.setCell ⟨g, i, none⟩ u) n (i + 1) := by
  obtain ⟨xs, hx⟩ := h.row hn
  rw [e] at hx
  refine h.step hs hT hn (by rw [e]; exact (hx.stored i u).2) fun xs hx ht => ?_
  rw [e] at hx ⊢
  refine ⟨_, (hx.stored i u).1, ?_⟩
  rw [Nat.mul_one] at ht ⊢
  rw [take_set ht (by rw [hx.1]; omega), marks_succ, hu]
theorem Wm.step2 {g c : Nat} {u v : Value} (hs : Sep rs) (hT : T ≠ TS) (h : Wm T TS 2 mk rs V w0 w n i) (hn : n < rs.length) (hi : i < rl rs n) (e : rv rs n = .slice (some ⟨g, 0, none⟩) (rl rs n) c) (hu : mk n i = [u, v]) : Wm T TS 2 mk rs V w0 ((w.setCell ⟨g, i * 2, none⟩ u).setCell ⟨g, i * 2 + 1, none⟩ v) n (i + 1) := by
  obtain ⟨xs, hx⟩ := h.row hn
  rw [e] at hx
  refine h.step hs hT hn (by rw [e]; exact grown_trans (hx.stored (i * 2) u).2 ((hx.stored (i * 2) u).1.stored (i * 2 + 1) v).2) fun xs hx ht => ?_
  rw [e] at hx ⊢
  refine ⟨_, ((hx.stored (i * 2) u).1.stored (i * 2 + 1) v).1, ?_⟩
  have h1 := take_set ht (by rw [hx.1]; omega) u
  have h2 := take_set h1 (by rw [List.length_set, hx.1]; omega) v
  rw [show (i + 1) * 2 = i * 2 + 1 + 1 by omega, h2, marks_succ, hu, List.append_assoc]
  rfl
theorem Wm.step3 {g c : Nat} {u v x : Value} (hs : Sep rs) (hT : T ≠ TS) (h : Wm T TS 3 mk rs V w0 w n i) (hn : n < rs.length) (hi : i < rl rs n) (e : rv rs n = .slice (some ⟨g, 0, none⟩) (rl rs n) c) (hu : mk n i = [u, v, x]) : Wm T TS 3 mk rs V w0 (((w.setCell ⟨g, i * 3, none⟩ u).setCell ⟨g, i * 3 + 1, none⟩ v).setCell ⟨g, i * 3 + 2, none⟩ x) n (i + 1) := by
  obtain ⟨xs, hx⟩ := h.row hn
  rw [e] at hx
  refine h.step hs hT hn (by rw [e]; exact grown_trans (grown_trans (hx.stored (i * 3) u).2 ((hx.stored (i * 3) u).1.stored (i * 3 + 1) v).2) (((hx.stored (i * 3) u).1.stored (i * 3 + 1) v).1.stored (i * 3 + 2) x).2) fun xs hx ht => ?_
  rw [e] at hx ⊢
  refine ⟨_, (((hx.stored (i * 3) u).1.stored (i * 3 + 1) v).1.stored (i * 3 + 2) x).1, ?_⟩
  have h1 := take_set ht (by rw [hx.1]; omega) u
  have h2 := take_set h1 (by rw [List.length_set, hx.1]; omega) v
  have h3 := take_set h2 (by rw [List.length_set, List.length_set, hx.1]; omega) x
  rw [show (i + 1) * 3 = i * 3 + 1 + 1 + 1 by omega, h3, marks_succ, hu, List.append_assoc, List.append_assoc]
  rfl
theorem Wm.out (hs : Sep rs) (h : Wm T TS size mk rs V w0 w rs.length 0) : Out T TS size mk rs w0 w 0 V (.slice none 0 0) (.slice none 0 0) [] [] := Wr.out hs h.wr h.bag h.fr
/-- A new block is made. -/
theorem Out.alloc {O M : Value} {os ms : List Value} (h : Out T TS size mk rs w0 w n V O M os ms) (o : Obj) : Out T TS size mk rs w0 (w.alloc o) n V O M os ms :=
  h.other (World.grownBy_alloc w o none) (fun b e => by cases e) (fun b e => by cases e) (fun b e => by cases e)
theorem Ap.alloc {O M l : Value} {os ms : List Value} (h : Ap T TS size mk rs w0 w n V O M os ms l i) (o : Obj) : Ap T TS size mk rs w0 (w.alloc o) n V O M os ms l i :=
  ⟨h.out.alloc o, h.cur.alloc o, h.my, h.far, h.safe⟩
/-- What a held row's cells are. -/
theorem own_mark {g L c k j : Nat} (hmk : ∀ n i, (mk n i).length = size) (h : w.ownsRow 0 T size (.slice (some ⟨g, 0, none⟩) L c) L (marks mk k L)) (hi : i < L) (hj : j < size) {u : Value} (hu : (mk k i)[j]? = some u) : w.cell? ⟨g, i * size + j, none⟩ = some u := by
  have := h.cells rfl (i * size + j) u (by rw [marks_get hmk k hi hj]; exact hu)
  rwa [Addr.add_lit, Nat.zero_add] at this
theorem Out.row {O M : Value} {os ms : List Value} (h : Out T TS size mk rs w0 w n V O M os ms) (k : Nat) (hk : k < rs.length) : w.ownsRow 0 T size (rv rs k) (rl rs k) (marks mk k (rl rs k)) := (h.held _ _ _ (.inl ⟨hk, rfl, rfl⟩)).1
theorem Out.ones {O M : Value} {os ms : List Value} (h : Out T TS size mk rs w0 w n V O M os ms) (k : Nat) (hk : k < os.length) : w.ownsRow 0 T size (vn os k) (rl rs k + 1) (marks mk k (rl rs k + 1)) := (h.held _ _ _ (.inr (.inl ⟨hk, rfl, rfl⟩))).1
theorem Out.mores {O M : Value} {os ms : List Value} (h : Out T TS size mk rs w0 w n V O M os ms) (k : Nat) (hk : k < ms.length) : w.ownsRow 0 T size (vn ms k) (rl rs k + 70) (marks mk k (rl rs k + 70)) := (h.held _ _ _ (.inr (.inr ⟨hk, rfl, rfl⟩))).1
end

end Go.Proofs.YthfcimmfkibmjaaGreatDoor

namespace Go.Proofs.YthfcimmfkibmjaaGreatDoor
open Go.RowKit


def mkB (n i : Nat) : List Value := [.int .u8 ((31 * n + 7 * i + 3) % 256)]
theorem mkB_len (n i : Nat) : (mkB n i).length = 1 := rfl
theorem info31 : ∃ i, Tryz.prog.info? 31 = some i ∧ i.zero = some (.slice none 0 0) ∧ i.size = 1 ∧ i.bytes = 24 :=
  ⟨(Tryz.prog.info? 31).get (by kernel_rfl), by kernel_rfl, by kernel_rfl, by kernel_rfl, by kernel_rfl⟩
theorem cells_of {w : World} {T : TypeId} {size L k : Nat} {mk : Nat → Nat → List Value} {v : Value} (hmk : ∀ n i, (mk n i).length = size) (h : w.ownsRow 0 T size v L (marks mk k L)) (hL : 0 < L) :
    ∃ g c, v = .slice (some ⟨g, 0, none⟩) L c ∧ Hid (∀ j, j < L → ∀ p, p < size → ∀ u, (mk k j)[p]? = some u → w.cell? ⟨g, j * size + p, none⟩ = some u) := by
  obtain ⟨g, c, e, -, -⟩ := h.form hL
  rw [e] at h
  exact ⟨g, c, e, fun j hj p hp u hu => own_mark hmk h hj hp hu⟩
set_option maxRecDepth 100000 in
set_option maxHeartbeats 2000000 in
theorem apartbytes_any (B : Nat) (A : Option Addr) (cV : Nat) (rs : List (Value × Nat)) (w0 : World)
    (hbag : w0.cell? ⟨B, 0, none⟩ = some (.slice A rs.length cV)) (hV : w0.ownsRow 0 31 1 (.slice A rs.length cV) rs.length (rs.map Prod.fst))
    (hR : ∀ m, m < rs.length → ∃ xs, w0.ownsRow 0 5 1 (rv rs m) (rl rs m) xs) (hS : Sep rs) (hB : ∀ m, m < rs.length → (rv rs m).ownBlock ≠ some B)
    (hN : rs.length ≤ 300) (hL : ∀ m, rl rs m ≤ 1048576) :
    Calls Tryz.prog 42 #[.pointer (some ⟨B, 0, none⟩)] w0 fun r w' => r = .returned (.bool true) ∧ Fr rs w0 w' := by
  obtain ⟨i0, hi, hz0, hz1, hz2⟩ := info5
  obtain ⟨i1, hy, hy0, hy1, hy2⟩ := info31
  have HB : Hid (∀ w, Fr rs w0 w → w.cell? ⟨B, 0, none⟩ = some (.slice A rs.length cV)) := fun w h => h.cell hbag hB
  have HW : Hid (Wm 5 31 1 mkB rs (.slice A rs.length cV) w0 w0 0 0) := Wm.start hV hR
  clear hbag hV hR hB
  go_enter Tryz.func42, Tryz.ntmps42
  go_wp2
  go_loopw [3] (fun n wr => ∃ k : Nat, n = .int .i64 k ∧ k ≤ rs.length ∧ Hid (Wm 5 31 1 mkB rs (.slice A rs.length cV) w0 wr k 0)) (fun n _ => rs.length - (intOf n).toNat)
  case atStart => exact ⟨0, rfl, Nat.zero_le _, HW⟩
  case round =>
    clear HW
    obtain ⟨k, rfl, hk, HW⟩ := hrel
    have hb := HB.out _ HW.out.fr
    by_cases hlt : k < rs.length
    · have hLk := hL k
      obtain ⟨a, ea, q⟩ := bag_at HW.out.bag k hlt
      obtain ⟨xs, hx⟩ := HW.out.row hlt
      obtain ⟨A1, c1, e1, -⟩ := own_any hx
      rw [e1] at q
      have HE1 : Hid _ := e1
      clear hx e1
      go_wp2
      go_loopw [4] (fun i wr => ∃ j : Nat, i = .int .i64 j ∧ j ≤ rl rs k ∧ Hid (Wm 5 31 1 mkB rs (.slice A rs.length cV) w0 wr k j)) (fun i _ => rl rs k - (intOf i).toNat)
      case atStart => exact ⟨0, rfl, Nat.zero_le _, HW⟩
      case round =>
        clear HW hb q
        obtain ⟨j, rfl, hj, HW⟩ := hrel
        have hb := HB.out _ HW.out.fr
        obtain ⟨a', ea', q⟩ := bag_at HW.out.bag k hlt
        rw [ea] at ea'
        cases ea'
        rw [HE1.out] at q
        by_cases hlj : j < rl rs k
        · obtain ⟨xs, hx⟩ := HW.out.row hlt
          rw [HE1.out] at hx
          obtain ⟨g, cap, e2, -, -⟩ := hx.form (by omega)
          cases e2
          obtain ⟨u, hu⟩ := row_cell0 hx j (by omega)
          have hfr := hx.frozenAt j
          clear hx
          subst ea
          go_wp2
          go_roundw
          case rel => exact ⟨j + 1, by go_num, by omega, HW.out.step1 hS (by decide) hlt hlj HE1.out rfl⟩
          case measure => simp [intOf]; omega
        · obtain rfl : j = rl rs k := by omega
          subst ea
          go_wp2
          go_roundw
          case rel => exact ⟨k + 1, by go_num, by omega, HW.out.next⟩
          case measure => simp [intOf]; omega
    · obtain rfl : k = rs.length := by omega
      have HO : Hid _ := Wm.out hS HW.out
      clear HW
      go_wp2
      go_loopw [7, 5, 6] (fun n one more wr => ∃ (k : Nat) (os ms : List Value), n = .int .i64 k ∧ k ≤ rs.length ∧ os.length = k ∧ ms.length = k ∧ Hid (Out 5 31 1 mkB rs w0 wr k (.slice A rs.length cV) one more os ms)) (fun n _ _ _ => rs.length - (intOf n).toNat)
      case atStart => exact ⟨0, [], [], rfl, Nat.zero_le _, rfl, rfl, HO⟩
      case round =>
        clear HO hb hlt hk
        obtain ⟨k, os, ms, rfl, hk, hos', hms', HO⟩ := hrel
        have hos : Hid _ := hos'
        have hms : Hid _ := hms'
        clear hos' hms'
        have hb := HB.out _ HO.out.fr
        by_cases hlt : k < rs.length
        · have hLk := hL k
          obtain ⟨a, ea, q⟩ := bag_at HO.out.three.bag k hlt
          obtain ⟨A1, c1, e1, -⟩ := own_any (HO.out.row k hlt)
          have HA : Hid _ := HO.out.take hS hlt
          rw [e1] at q HA
          have HE1 : Hid _ := e1
          clear e1 HO
          go_wp2
          go_loopw [9, 8, 5] (fun i l one wr => ∃ (j : Nat) (os : List Value), i = .int .i64 j ∧ rl rs k ≤ j ∧ j ≤ rl rs k + 70 ∧ (j = rl rs k → os.length = k) ∧ (rl rs k < j → os.length = k + 1) ∧ Hid (Ap 5 31 1 mkB rs w0 wr k (.slice A rs.length cV) one u6 os ms l j)) (fun i _ _ _ => rl rs k + 70 - (intOf i).toNat)
          case atStart => exact ⟨rl rs k, os, rfl, Nat.le_refl _, by omega, fun _ => hos.out, fun h => by omega, HA⟩
          case round =>
            clear HA hb q hos os
            obtain ⟨j, os, rfl, hj0, hj1, ho0', ho1', HA⟩ := hrel
            have ho0 : Hid _ := ho0'
            have ho1 : Hid _ := ho1'
            clear ho0' ho1'
            have hb := HB.out _ HA.out.out.fr
            obtain ⟨a', ea', q⟩ := bag_at HA.out.out.three.bag k hlt
            rw [ea] at ea'
            cases ea'
            rw [HE1.out] at q
            by_cases hlj : j < rl rs k + 70
            · have HA2 : Hid _ := HA.out.alloc (.cells #[.int .u8 ((31 * (k : Int) + 7 * (j : Int) + 3) % 256)] 5)
              by_cases hjl : j = rl rs k
              · have hOS : Hid _ := ho0.out hjl
                subst hjl
                go_wp2_with (first | (at_builtin; refine wpList_append_two _ rfl (.tmp 82) (.tmp 90) 31 rfl 5 i0 (.int .u8 0) 1 1 Tryz.underlying31 hi hz0 hz1 hz2 rfl (by decide) _ (rl rs k) (marks mkB k (rl rs k)) rfl HA2.out.cur ⟨wr.heap.size, 0, none⟩ 1 1 (mkB k (rl rs k)) rfl rfl (fun j u hu => World.news_of_block (heap_alloc_new _ _) j u hu) (fun u hu => by cases hu with | head => rfl | tail _ h => cases h) (by omega) (by unfold maxLen; omega) (by omega) ?_; intro g cap w2 hown hgrow hat; have HA3 : Hid _ := Ap.grow mkB_len (by decide) (by decide) HA2.out hown hgrow hat; clear hown hgrow hat HA2 HA hb q; have hb := HB.out _ HA3.out.out.fr; obtain ⟨a', ea', q⟩ := bag_at HA3.out.out.three.bag k hlt; rw [ea] at ea'; cases ea'; rw [HE1.out] at q) | (at_builtin; refine wpList_append_two _ rfl (.tmp 102) (.tmp 104) 38 rfl 31 i1 (.slice none 0 0) 1 24 Tryz.underlying38 hy hy0 hy1 hy2 rfl (by decide) _ os.length os rfl (HA3.out.alloc _).out.three.one ⟨w2.heap.size, 0, none⟩ 1 1 [.slice (some ⟨g, 0, none⟩) (rl rs k + 1) cap] rfl rfl (fun j u hu => World.news_of_block (heap_alloc_new _ _) j u hu) (fun u hu => by cases hu with | head => rfl | tail _ h => cases h) (by omega) (by have := hOS.out; unfold maxLen; omega) (by have := hOS.out; omega) ?_; intro g2 cap2 w3 hown hgrow hat; have HA4 : Hid _ := Ap.addOne (by decide) (HA3.out.alloc _) rfl hOS.out hown hgrow hat; clear hown hgrow hat HA3 hb q))
                subst ea
                go_roundw
                case rel => exact ⟨_, _, _, ⟨rl rs k + 1, by go_num, by omega, by omega, _, fun h => by omega, fun _ => by rw [List.length_append, hOS.out]; rfl, HA4⟩, rfl, rfl, rfl⟩
                case measure => simp [intOf]
              · have hx : ((j : Int) == (rl rs k : Int)) = false := by simpa using (fun h => hjl (by omega))
                go_wp2_with (first | (at_builtin; refine wpList_append_two _ rfl (.tmp 82) (.tmp 90) 31 rfl 5 i0 (.int .u8 0) 1 1 Tryz.underlying31 hi hz0 hz1 hz2 rfl (by decide) _ j (marks mkB k j) rfl HA2.out.cur ⟨wr.heap.size, 0, none⟩ 1 1 (mkB k j) rfl rfl (fun j u hu => World.news_of_block (heap_alloc_new _ _) j u hu) (fun u hu => by cases hu with | head => rfl | tail _ h => cases h) (by omega) (by unfold maxLen; omega) (by omega) ?_; intro g cap w2 hown hgrow hat; have HA3 : Hid _ := Ap.grow mkB_len (by decide) (by decide) HA2.out hown hgrow hat; clear hown hgrow hat HA2 HA hb q; have hb := HB.out _ HA3.out.out.fr; obtain ⟨a', ea', q⟩ := bag_at HA3.out.out.three.bag k hlt; rw [ea] at ea'; cases ea'; rw [HE1.out] at q))
                subst ea
                go_roundw
                case rel => exact ⟨j + 1, os, by go_num, by omega, by omega, fun h => by omega, fun _ => ho1.out (by omega), HA3⟩
                case measure => simp [intOf]; omega
            · obtain rfl : j = rl rs k + 70 := by omega
              obtain ⟨Al, cl, rfl, -⟩ := own_any HA.out.cur
              go_wp2_with (at_builtin; refine wpList_append_two _ rfl (.tmp 106) (.tmp 108) 38 rfl 31 i1 (.slice none 0 0) 1 24 Tryz.underlying38 hy hy0 hy1 hy2 rfl (by decide) _ ms.length ms rfl (HA.out.alloc _).out.three.more ⟨wr.heap.size, 0, none⟩ 1 1 [.slice Al (rl rs k + 70) cl] rfl rfl (fun j u hu => World.news_of_block (heap_alloc_new _ _) j u hu) (fun u hu => by cases hu with | head => rfl | tail _ h => cases h) (by omega) (by have := hms.out; unfold maxLen; omega) (by have := hms.out; omega) ?_; intro g2 cap2 w3 hown hgrow hat; have HO : Hid _ := Ap.addMore (by decide) (HA.out.alloc _) rfl hms.out hown hgrow hat; clear hown hgrow hat HA hb q)
              subst ea
              go_roundw
              case rel => exact ⟨k + 1, os, _, by go_num, by omega, ho1.out (by omega), by rw [List.length_append, hms.out]; rfl, HO⟩
              case measure => simp [intOf]; omega
        · obtain rfl : k = rs.length := by omega
          clear hlt hk
          have h5 := HO.out.three.one
          have h6 := HO.out.three.more
          rw [hos.out] at h5
          rw [hms.out] at h6
          obtain ⟨A5, c5, rfl, -⟩ := own_any h5
          obtain ⟨A6, c6, rfl, -⟩ := own_any h6
          have H5 : Hid _ := h5
          have H6 : Hid _ := h6
          clear h5 h6
          go_wp2
          go_loopw [10] (fun n w2 => ∃ (k d : Nat), n = .int .i64 k ∧ k ≤ rs.length ∧ w2 = wr.drewN d) (fun n _ => rs.length - (intOf n).toNat)
          case atStart => exact ⟨0, 0, rfl, Nat.zero_le _, rfl⟩
          case round =>
            obtain ⟨k, d, rfl, hk, rfl⟩ := hrel
            by_cases hlt : k < rs.length
            · have hLk := hL k
              obtain ⟨a6, ea6, q6⟩ := outer_at H6.out k hlt
              obtain ⟨gm, cm, em, HM⟩ := cells_of mkB_len (HO.out.mores k (by rw [hms.out]; exact hlt)) (by omega)
              obtain ⟨a5, ea5, q5⟩ := outer_at H5.out k hlt
              obtain ⟨go, co, eo, HO5⟩ := cells_of mkB_len (HO.out.ones k (by rw [hos.out]; exact hlt)) (by omega)
              obtain ⟨a, ea, q⟩ := bag_at HO.out.three.bag k hlt
              obtain ⟨A1, c1, e1, -⟩ := own_any (HO.out.row k hlt)
              rw [em] at q6
              rw [eo] at q5
              rw [e1] at q
              have HE1 : Hid _ := e1
              clear em eo e1
              go_wp2
              go_loopw [11] (fun i w2 => ∃ (j d : Nat), i = .int .i64 j ∧ j ≤ rl rs k + 70 ∧ w2 = wr.drewN d) (fun i _ => rl rs k + 70 - (intOf i).toNat)
              case atStart => exact ⟨0, d, rfl, Nat.zero_le _, rfl⟩
              case round =>
                obtain ⟨j, d, rfl, hj, rfl⟩ := hrel
                by_cases hlj : j < rl rs k + 70
                · have m6 := HM.out j hlj 0 (by omega) _ rfl
                  rw [Nat.mul_one, Nat.add_zero] at m6
                  rcases Nat.lt_trichotomy j (rl rs k) with h1 | h1 | h1
                  · obtain ⟨g1, c1', e1, H1⟩ := cells_of mkB_len (HO.out.row k hlt) (by omega)
                    rw [HE1.out] at e1
                    cases e1
                    have m1 := H1.out j h1 0 (by omega) _ rfl
                    rw [Nat.mul_one, Nat.add_zero] at m1
                    have hx : ((j : Int) == (rl rs k : Int)) = false := by simpa using (fun h => absurd h1 (by omega))
                    subst ea ea5 ea6
                    go_wp2
                    go_roundw
                    case rel => exact ⟨j + 1, _, by go_num, by omega, rfl⟩
                    case measure => simp [intOf]; omega
                  · have m5 := HO5.out j (by omega) 0 (by omega) _ rfl
                    rw [Nat.mul_one, Nat.add_zero] at m5
                    subst ea ea5 ea6 h1
                    go_wp2
                    go_roundw
                    case rel => exact ⟨rl rs k + 1, _, by go_num, by omega, rfl⟩
                    case measure => simp [intOf]
                  · have hx : ((j : Int) == (rl rs k : Int)) = false := by simpa using (fun h => absurd h1 (by omega))
                    subst ea ea5 ea6
                    go_wp2
                    go_roundw
                    case rel => exact ⟨j + 1, _, by go_num, by omega, rfl⟩
                    case measure => simp [intOf]; omega
                · obtain rfl : j = rl rs k + 70 := by omega
                  subst ea ea5 ea6
                  go_wp2
                  go_roundw
                  case rel => exact ⟨k + 1, _, by go_num, by omega, rfl⟩
                  case measure => simp [intOf]; omega
            · obtain rfl : k = rs.length := by omega
              go_wp2
              go_ret
              exact ⟨rfl, HO.out.fr.os, HO.out.fr.tape, HO.out.fr.output, HO.out.fr.size, HO.out.fr.block⟩

end Go.Proofs.YthfcimmfkibmjaaGreatDoor

namespace Go.Proofs.YthfcimmfkibmjaaGreatDoor
open Go.RowKit


set_option maxRecDepth 100000 in
set_option maxHeartbeats 1000000 in
theorem none_42 (B : Nat) (w : World) (hb : w.cell? ⟨B, 0, none⟩ = some (.slice none 0 0)) : Calls Tryz.prog 42 #[.pointer (some ⟨B, 0, none⟩)] w fun r w' => r = .returned (.bool true) ∧ w' = w := by
  go_enter Tryz.func42, Tryz.ntmps42
  go_wp2
  go_loopw [3] (fun n wr => n = .int .i64 0 ∧ wr = w) (fun _ _ => 0)
  case atStart => exact ⟨rfl, rfl⟩
  case round =>
    obtain ⟨rfl, rfl⟩ := hrel
    go_wp2
    go_loopw [7, 6] (fun n m w2 => n = .int .i64 0 ∧ m = .slice none 0 0 ∧ w2 = wr) (fun _ _ _ => 0)
    case atStart => exact ⟨rfl, rfl, rfl⟩
    case round =>
      obtain ⟨rfl, rfl, rfl⟩ := hrel
      go_wp2
      go_loopw [10] (fun n w3 => n = .int .i64 0 ∧ w3 = wr) (fun _ _ => 0)
      case atStart => exact ⟨rfl, rfl⟩
      case round =>
        obtain ⟨rfl, rfl⟩ := hrel
        go_wp2
        go_ret
        exact ⟨rfl, rfl⟩

set_option maxRecDepth 100000 in
set_option maxHeartbeats 1000000 in
theorem none_43 (B : Nat) (w : World) (hb : w.cell? ⟨B, 1, none⟩ = some (.slice none 0 0)) : Calls Tryz.prog 43 #[.pointer (some ⟨B, 0, none⟩)] w fun r w' => r = .returned (.bool true) ∧ w' = w := by
  go_enter Tryz.func43, Tryz.ntmps43
  go_wp2
  go_loopw [3] (fun n wr => n = .int .i64 0 ∧ wr = w) (fun _ _ => 0)
  case atStart => exact ⟨rfl, rfl⟩
  case round =>
    obtain ⟨rfl, rfl⟩ := hrel
    go_wp2
    go_loopw [7, 6] (fun n m w2 => n = .int .i64 0 ∧ m = .slice none 0 0 ∧ w2 = wr) (fun _ _ _ => 0)
    case atStart => exact ⟨rfl, rfl, rfl⟩
    case round =>
      obtain ⟨rfl, rfl, rfl⟩ := hrel
      go_wp2
      go_loopw [10] (fun n w3 => n = .int .i64 0 ∧ w3 = wr) (fun _ _ => 0)
      case atStart => exact ⟨rfl, rfl⟩
      case round =>
        obtain ⟨rfl, rfl⟩ := hrel
        go_wp2
        go_ret
        exact ⟨rfl, rfl⟩

set_option maxRecDepth 100000 in
set_option maxHeartbeats 1000000 in
theorem none_44 (B : Nat) (w : World) (hb : w.cell? ⟨B, 2, none⟩ = some (.slice none 0 0)) : Calls Tryz.prog 44 #[.pointer (some ⟨B, 0, none⟩)] w fun r w' => r = .returned (.bool true) ∧ w' = w := by
  go_enter Tryz.func44, Tryz.ntmps44
  go_wp2
  go_loopw [3] (fun n wr => n = .int .i64 0 ∧ wr = w) (fun _ _ => 0)
  case atStart => exact ⟨rfl, rfl⟩
  case round =>
    obtain ⟨rfl, rfl⟩ := hrel
    go_wp2
    go_loopw [7, 6] (fun n m w2 => n = .int .i64 0 ∧ m = .slice none 0 0 ∧ w2 = wr) (fun _ _ _ => 0)
    case atStart => exact ⟨rfl, rfl, rfl⟩
    case round =>
      obtain ⟨rfl, rfl, rfl⟩ := hrel
      go_wp2
      go_loopw [10] (fun n w3 => n = .int .i64 0 ∧ w3 = wr) (fun _ _ => 0)
      case atStart => exact ⟨rfl, rfl⟩
      case round =>
        obtain ⟨rfl, rfl⟩ := hrel
        go_wp2
        go_ret
        exact ⟨rfl, rfl⟩

set_option maxRecDepth 100000 in
set_option maxHeartbeats 1000000 in
theorem none_45 (B : Nat) (w : World) (hb : w.cell? ⟨B, 3, none⟩ = some (.slice none 0 0)) : Calls Tryz.prog 45 #[.pointer (some ⟨B, 0, none⟩)] w fun r w' => r = .returned (.bool true) ∧ w' = w := by
  go_enter Tryz.func45, Tryz.ntmps45
  go_wp2
  go_loopw [3] (fun n wr => n = .int .i64 0 ∧ wr = w) (fun _ _ => 0)
  case atStart => exact ⟨rfl, rfl⟩
  case round =>
    obtain ⟨rfl, rfl⟩ := hrel
    go_wp2
    go_loopw [7, 6] (fun n m w2 => n = .int .i64 0 ∧ m = .slice none 0 0 ∧ w2 = wr) (fun _ _ _ => 0)
    case atStart => exact ⟨rfl, rfl, rfl⟩
    case round =>
      obtain ⟨rfl, rfl, rfl⟩ := hrel
      go_wp2
      go_loopw [10] (fun n w3 => n = .int .i64 0 ∧ w3 = wr) (fun _ _ => 0)
      case atStart => exact ⟨rfl, rfl⟩
      case round =>
        obtain ⟨rfl, rfl⟩ := hrel
        go_wp2
        go_ret
        exact ⟨rfl, rfl⟩

set_option maxRecDepth 100000 in
set_option maxHeartbeats 1000000 in
theorem none_46 (B : Nat) (w : World) (hb : w.cell? ⟨B, 4, none⟩ = some (.slice none 0 0)) : Calls Tryz.prog 46 #[.pointer (some ⟨B, 0, none⟩)] w fun r w' => r = .returned (.bool true) ∧ w' = w := by
  go_enter Tryz.func46, Tryz.ntmps46
  go_wp2
  go_loopw [3] (fun n wr => n = .int .i64 0 ∧ wr = w) (fun _ _ => 0)
  case atStart => exact ⟨rfl, rfl⟩
  case round =>
    obtain ⟨rfl, rfl⟩ := hrel
    go_wp2
    go_loopw [7, 6] (fun n m w2 => n = .int .i64 0 ∧ m = .slice none 0 0 ∧ w2 = wr) (fun _ _ _ => 0)
    case atStart => exact ⟨rfl, rfl, rfl⟩
    case round =>
      obtain ⟨rfl, rfl, rfl⟩ := hrel
      go_wp2
      go_loopw [10] (fun n w3 => n = .int .i64 0 ∧ w3 = wr) (fun _ _ => 0)
      case atStart => exact ⟨rfl, rfl⟩
      case round =>
        obtain ⟨rfl, rfl⟩ := hrel
        go_wp2
        go_ret
        exact ⟨rfl, rfl⟩

set_option maxRecDepth 100000 in
set_option maxHeartbeats 1000000 in
theorem none_47 (B : Nat) (w : World) (hb : w.cell? ⟨B, 5, none⟩ = some (.slice none 0 0)) : Calls Tryz.prog 47 #[.pointer (some ⟨B, 0, none⟩)] w fun r w' => r = .returned (.bool true) ∧ w' = w := by
  go_enter Tryz.func47, Tryz.ntmps47
  go_wp2
  go_loopw [3] (fun n wr => n = .int .i64 0 ∧ wr = w) (fun _ _ => 0)
  case atStart => exact ⟨rfl, rfl⟩
  case round =>
    obtain ⟨rfl, rfl⟩ := hrel
    go_wp2
    go_loopw [7, 6] (fun n m w2 => n = .int .i64 0 ∧ m = .slice none 0 0 ∧ w2 = wr) (fun _ _ _ => 0)
    case atStart => exact ⟨rfl, rfl, rfl⟩
    case round =>
      obtain ⟨rfl, rfl, rfl⟩ := hrel
      go_wp2
      go_loopw [10] (fun n w3 => n = .int .i64 0 ∧ w3 = wr) (fun _ _ => 0)
      case atStart => exact ⟨rfl, rfl⟩
      case round =>
        obtain ⟨rfl, rfl⟩ := hrel
        go_wp2
        go_ret
        exact ⟨rfl, rfl⟩

end Go.Proofs.YthfcimmfkibmjaaGreatDoor

namespace Go.Proofs.YthfcimmfkibmjaaGreatDoor
open Go.RowKit


set_option maxRecDepth 100000 in
set_option maxHeartbeats 1000000 in
theorem none_48 (B : Nat) (w : World) (hb : w.cell? ⟨B, 6, none⟩ = some (.slice none 0 0)) : Calls Tryz.prog 48 #[.pointer (some ⟨B, 0, none⟩)] w fun r w' => r = .returned (.bool true) ∧ w' = w := by
  go_enter Tryz.func48, Tryz.ntmps48
  go_wp2
  go_loopw [3] (fun n wr => n = .int .i64 0 ∧ wr = w) (fun _ _ => 0)
  case atStart => exact ⟨rfl, rfl⟩
  case round =>
    obtain ⟨rfl, rfl⟩ := hrel
    go_wp2
    go_loopw [7, 6] (fun n m w2 => n = .int .i64 0 ∧ m = .slice none 0 0 ∧ w2 = wr) (fun _ _ _ => 0)
    case atStart => exact ⟨rfl, rfl, rfl⟩
    case round =>
      obtain ⟨rfl, rfl, rfl⟩ := hrel
      go_wp2
      go_loopw [10] (fun n w3 => n = .int .i64 0 ∧ w3 = wr) (fun _ _ => 0)
      case atStart => exact ⟨rfl, rfl⟩
      case round =>
        obtain ⟨rfl, rfl⟩ := hrel
        go_wp2
        go_ret
        exact ⟨rfl, rfl⟩

set_option maxRecDepth 100000 in
set_option maxHeartbeats 1000000 in
theorem none_49 (B : Nat) (w : World) (hb : w.cell? ⟨B, 7, none⟩ = some (.slice none 0 0)) : Calls Tryz.prog 49 #[.pointer (some ⟨B, 0, none⟩)] w fun r w' => r = .returned (.bool true) ∧ w' = w := by
  go_enter Tryz.func49, Tryz.ntmps49
  go_wp2
  go_loopw [3] (fun n wr => n = .int .i64 0 ∧ wr = w) (fun _ _ => 0)
  case atStart => exact ⟨rfl, rfl⟩
  case round =>
    obtain ⟨rfl, rfl⟩ := hrel
    go_wp2
    go_loopw [7, 6] (fun n m w2 => n = .int .i64 0 ∧ m = .slice none 0 0 ∧ w2 = wr) (fun _ _ _ => 0)
    case atStart => exact ⟨rfl, rfl, rfl⟩
    case round =>
      obtain ⟨rfl, rfl, rfl⟩ := hrel
      go_wp2
      go_loopw [10] (fun n w3 => n = .int .i64 0 ∧ w3 = wr) (fun _ _ => 0)
      case atStart => exact ⟨rfl, rfl⟩
      case round =>
        obtain ⟨rfl, rfl⟩ := hrel
        go_wp2
        go_ret
        exact ⟨rfl, rfl⟩

set_option maxRecDepth 100000 in
set_option maxHeartbeats 1000000 in
theorem none_50 (B : Nat) (w : World) (hb : w.cell? ⟨B, 8, none⟩ = some (.slice none 0 0)) : Calls Tryz.prog 50 #[.pointer (some ⟨B, 0, none⟩)] w fun r w' => r = .returned (.bool true) ∧ w' = w := by
  go_enter Tryz.func50, Tryz.ntmps50
  go_wp2
  go_loopw [3] (fun n wr => n = .int .i64 0 ∧ wr = w) (fun _ _ => 0)
  case atStart => exact ⟨rfl, rfl⟩
  case round =>
    obtain ⟨rfl, rfl⟩ := hrel
    go_wp2
    go_loopw [7, 6] (fun n m w2 => n = .int .i64 0 ∧ m = .slice none 0 0 ∧ w2 = wr) (fun _ _ _ => 0)
    case atStart => exact ⟨rfl, rfl, rfl⟩
    case round =>
      obtain ⟨rfl, rfl, rfl⟩ := hrel
      go_wp2
      go_loopw [10] (fun n w3 => n = .int .i64 0 ∧ w3 = wr) (fun _ _ => 0)
      case atStart => exact ⟨rfl, rfl⟩
      case round =>
        obtain ⟨rfl, rfl⟩ := hrel
        go_wp2
        go_ret
        exact ⟨rfl, rfl⟩

set_option maxRecDepth 100000 in
set_option maxHeartbeats 1000000 in
theorem none_51 (B : Nat) (w : World) (hb : w.cell? ⟨B, 9, none⟩ = some (.slice none 0 0)) : Calls Tryz.prog 51 #[.pointer (some ⟨B, 0, none⟩)] w fun r w' => r = .returned (.bool true) ∧ w' = w := by
  go_enter Tryz.func51, Tryz.ntmps51
  go_wp2
  go_loopw [3] (fun n wr => n = .int .i64 0 ∧ wr = w) (fun _ _ => 0)
  case atStart => exact ⟨rfl, rfl⟩
  case round =>
    obtain ⟨rfl, rfl⟩ := hrel
    go_wp2
    go_loopw [7, 6] (fun n m w2 => n = .int .i64 0 ∧ m = .slice none 0 0 ∧ w2 = wr) (fun _ _ _ => 0)
    case atStart => exact ⟨rfl, rfl, rfl⟩
    case round =>
      obtain ⟨rfl, rfl, rfl⟩ := hrel
      go_wp2
      go_loopw [10] (fun n w3 => n = .int .i64 0 ∧ w3 = wr) (fun _ _ => 0)
      case atStart => exact ⟨rfl, rfl⟩
      case round =>
        obtain ⟨rfl, rfl⟩ := hrel
        go_wp2
        go_ret
        exact ⟨rfl, rfl⟩

set_option maxRecDepth 100000 in
set_option maxHeartbeats 1000000 in
theorem none_52 (B : Nat) (w : World) (hb : w.cell? ⟨B, 10, none⟩ = some (.slice none 0 0)) : Calls Tryz.prog 52 #[.pointer (some ⟨B, 0, none⟩)] w fun r w' => r = .returned (.bool true) ∧ w' = w := by
  go_enter Tryz.func52, Tryz.ntmps52
  go_wp2
  go_loopw [3] (fun n wr => n = .int .i64 0 ∧ wr = w) (fun _ _ => 0)
  case atStart => exact ⟨rfl, rfl⟩
  case round =>
    obtain ⟨rfl, rfl⟩ := hrel
    go_wp2
    go_loopw [7, 6] (fun n m w2 => n = .int .i64 0 ∧ m = .slice none 0 0 ∧ w2 = wr) (fun _ _ _ => 0)
    case atStart => exact ⟨rfl, rfl, rfl⟩
    case round =>
      obtain ⟨rfl, rfl, rfl⟩ := hrel
      go_wp2
      go_loopw [10] (fun n w3 => n = .int .i64 0 ∧ w3 = wr) (fun _ _ => 0)
      case atStart => exact ⟨rfl, rfl⟩
      case round =>
        obtain ⟨rfl, rfl⟩ := hrel
        go_wp2
        go_ret
        exact ⟨rfl, rfl⟩

end Go.Proofs.YthfcimmfkibmjaaGreatDoor
