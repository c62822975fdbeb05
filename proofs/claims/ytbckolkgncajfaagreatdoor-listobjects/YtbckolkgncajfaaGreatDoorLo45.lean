/-
  Ins of the document: the line of a word. The document's text of an object: its bytes grow in a row of their own; no Go in sight but the append of a text.
-/
import Derived.Test.YtbckolkgncajfaaGreatDoorProg
import Derived.WalkKit
import Derived.WalkSpells
import Derived.WalkLawsBesides
import Derived.RowKit3
import Derived.Below
import Derived.Deep.QuietTactic
import Derived.BigQuiet
import Derived.WalkSmall
import Derived.Laws.Rows
import Derived.Test.YtbckolkgncajfaaGreatDoorLo19
import Derived.Test.YtbckolkgncajfaaGreatDoorLo18
import Derived.Deep.RegionHeld3
import Derived.Test.YtbckolkgncajfaaGreatDoorLo35
import Derived.Deep.AppendLies
import Derived.Laws.IdiomStrings
namespace Go.Proofs.YtbckolkgncajfaaGreatDoor
open Go.RowKit

theorem field_has3 (b1 b2 b3 b4 b5 : Bool) (X : World) : (Instr.field 101 (.agg #[.bool b1, .bool b2, .bool b3, .bool b4, .bool b5]) 3).run Tryz.prog X = .ok (.bool b4) X := by kernel_rfl
theorem lineL_no {v : Int} (h : isIns v = false) : lineL v = wordB.data.toList ++ sp (numB v) := by
  unfold lineL wordsL
  rw [if_neg (by simp [h]), join_sps, sps_one]
theorem lineL_yes {v : Int} (h : isIns v = true) : lineL v = (nameB (dOp v)).data.toList ++ sps (fl (hD (dOp v)) (hA (dOp v)) (hB (dOp v)) (dD v) (dA v) (dB v)) ++ sps (nL v) := by
  unfold lineL wordsL
  rw [if_pos h, join_sps, sps_app]
  simp [fl, fieldsL]
theorem bs_of_app (b : ByteArray) (l : List UInt8) : b ++ bs l = bs (b.data.toList ++ l) := by
  rw [← bs_app, bs_of]
set_option maxHeartbeats 2000000 in
set_option maxRecDepth 100000 in
theorem refins_no (v : Int) (h0 : 0 ≤ v) (h1 : v < 4294967296) (hI : isIns v = false) (w : World) (ht : Tab w) :
    Calls Tryz.prog 25 #[.int .u32 v] w fun e w' => e = .returned (.string (bs (lineL v))) ∧ Below w.heap.size w w' := by
  have CD := refdecode_any v h0 h1 w
  rw [dOp_no hI] at CD
  have HL : Hid _ := lineL_no hI
  have HT : Hid (Tab w) := ht
  have HI : Hid (In64 v) := ⟨by omega, by omega⟩
  have hs : (bs (sp (numB v))).size ≤ 22 := by rw [bs_size, sp_len]; have := numB_size HI.out; omega
  clear ht hI
  go_enter Tryz.func25, Tryz.ntmps25
  go_wp2_with fail
  refine CD.mono ?_
  rintro e w1 ⟨rfl, hb1⟩
  have HB2 : Hid (Below w.heap.size w (w1.alloc (.cells #[.int .i8 (-1), .int .i8 (dD v), .int .i8 (dA v), .int .i8 (dB v), .int .i64 (dN v)] 95))) := lb_alloc hb1 _
  have CN := refnum_any v HI.out _ (HT.out.below HB2.out)
  clear CD hb1
  go_wp2_with fail
  refine CN.mono ?_
  rintro e w2 ⟨rfl, hb2⟩
  have HB3 : Hid (Below w.heap.size w w2) := lb_trans HB2.out hb2
  clear CN hb2
  go_wp2
  go_ret
  exact ⟨retTx (by rw [HL.out]; exact bs_of_app _ _), HB3.out⟩
set_option maxHeartbeats 4000000 in
set_option maxRecDepth 100000 in
theorem refins_yes (v : Int) (h0 : 0 ≤ v) (h1 : v < 4294967296) (hI : isIns v = true) (w : World) (ht : Tab w) :
    Calls Tryz.prog 25 #[.int .u32 v] w fun e w' => e = .returned (.string (bs (lineL v))) ∧ Below w.heap.size w w' := by
  have CD := refdecode_any v h0 h1 w
  obtain ⟨hop0, hop1⟩ := dOp_yes hI h0
  obtain ⟨hd, ha, hb, hn0, hn1⟩ := d_in h0 h1
  have HL : Hid (lineL v = (nameB (dOp v)).data.toList ++ sps (fl (hD (dOp v)) (hA (dOp v)) (hB (dOp v)) (dD v) (dA v) (dB v)) ++ sps (if hN (dOp v) then [numB (dN v)] else [])) := lineL_yes hI
  have HT : Hid (Tab w) := ht
  have CF := fun wx (hx : Below w.heap.size w wx) => reffields_any (dOp v) (dD v) (dA v) (dB v) (dN v) hd ha hb wx (HT.out.below hx)
  have CNm := fun wx => refopname_any (dOp v) wx
  have CH := fun wx => refhas_any (dOp v) wx
  have HI : Hid (In64 (dN v)) := ⟨by omega, by omega⟩
  have hs : (bs (sp (numB (dN v)))).size ≤ 22 := by rw [bs_size, sp_len]; have := numB_size HI.out; omega
  have hnm : (nameB (dOp v)).size ≤ 8 := name_len
  have hsf : (bs (sps (fl (hD (dOp v)) (hA (dOp v)) (hB (dOp v)) (dD v) (dA v) (dB v)))).size ≤ 88 := by
    rw [bs_size]
    have a := sps_len (ws := fieldsL v) (fun x hx => fieldsL_size h0 h1 x (by simp [hx]))
    have b := fieldsL_len v
    rw [List.length_append] at b
    show (sps (fieldsL v)).length ≤ 88
    omega
  have hop : ¬ dOp v < 0 := by omega
  clear ht hI hop0 hop1 hd ha hb
  generalize fl (hD (dOp v)) (hA (dOp v)) (hB (dOp v)) (dD v) (dA v) (dB v) = FL at *
  generalize nameB (dOp v) = nm at *
  generalize hD (dOp v) = b1 at *
  generalize hA (dOp v) = b2 at *
  generalize hB (dOp v) = b3 at *
  generalize hN (dOp v) = b4 at *
  generalize hP (dOp v) = b5 at *
  generalize dOp v = op at *
  generalize dD v = fd at *
  generalize dA v = fa at *
  generalize dB v = fb at *
  generalize dN v = fn at *
  have hab : ¬ 9223372036854775807 < nm.size + (bs (sps FL)).size := by omega
  go_enter Tryz.func25, Tryz.ntmps25
  go_wp2_with fail
  refine CD.mono ?_
  rintro e w1 ⟨rfl, hb1⟩
  obtain ⟨W, hW⟩ : ∃ W, W = w1.alloc (.cells #[.int .i8 op, .int .i8 fd, .int .i8 fa, .int .i8 fb, .int .i64 fn] 95) := ⟨_, rfl⟩
  have hB2 : Below w.heap.size w W := by rw [hW]; exact lb_alloc hb1 _
  have hX : W.heap[w1.heap.size]? = some (.cells #[.int .i8 op, .int .i8 fd, .int .i8 fa, .int .i8 fb, .int .i64 fn] 95 (0, 0)) := by rw [hW]; exact heap_alloc_new _ _
  clear CD hb1
  obtain ⟨c0, c1, c2, c3, c4⟩ := box5_cell hX
  go_upto_region 4 with fail
  rw [← hW]
  have HX : Hid _ := hX
  have B1 : Below w.heap.size w W.drew := hB2.drew
  clear hW hX
  go_region_held3 (fun X => Below w.heap.size w X ∧ X.cell? ⟨w1.heap.size, 0, none⟩ = some (.int .i8 op) ∧ X.cell? ⟨w1.heap.size, 1, none⟩ = some (.int .i8 fd) ∧ X.cell? ⟨w1.heap.size, 2, none⟩ = some (.int .i8 fa) ∧ X.cell? ⟨w1.heap.size, 3, none⟩ = some (.int .i8 fb) ∧ X.cell? ⟨w1.heap.size, 4, none⟩ = some (.int .i64 fn)) (first | (refine ⟨lb_trans ?_ hb, lkeep hb ?_, lkeep hb ?_, lkeep hb ?_, lkeep hb ?_, lkeep hb ?_⟩ <;> (simp [*]; done)) | (simp [*]; done))
    (first
      | (go_at_call 61; refine (CNm _).mono ?_; rintro e w4 ⟨rfl, rfl⟩)
      | (go_at_call 62; refine (CF _ (by first | assumption | exact (‹Below _ _ _ ∧ _›).1)).mono ?_; rintro e w4 ⟨rfl, hb⟩))
  rename_i hS'
  obtain ⟨sB, e0, e1, e2, e3, e4⟩ := hS'
  have HB5 : Hid (Below w.heap.size w w4) := sB
  have HB6 : Hid (Below w.heap.size w (w4.alloc (.cells #[.bool b1, .bool b2, .bool b3, .bool b4, .bool b5] 101))) := lb_alloc sB _
  have e4' := lkeep (lb_alloc (Below.refl _ _) (.cells #[.bool b1, .bool b2, .bool b3, .bool b4, .bool b5] 101)) e4
  clear sB CNm CF c0 c1 c2 c3 c4 B1 hB2 HX
  have hF : ∀ X, (Instr.field 101 (.agg #[.bool b1, .bool b2, .bool b3, .bool b4, .bool b5]) 3).run Tryz.prog X = .ok (.bool b4) X := field_has3 b1 b2 b3 b4 b5
  have hadd : ∀ x : ByteArray, x.size = nm.size + (bs (sps FL)).size → True := fun _ _ => trivial
  have hsz : (nm ++ bs (sps FL)).size = nm.size + (bs (sps FL)).size := ByteArray.size_append
  have hab2 : ¬ 9223372036854775807 < (nm ++ bs (sps FL)).size + (bs (sp (numB fn))).size := by rw [hsz]; omega
  clear hsz hadd
  cases b4 with
  | false =>
    go_wp2_with fail
    refine (CH _).mono ?_
    rintro e w5 ⟨rfl, rfl⟩
    go_wp2
    go_ret
    exact ⟨retTx (by rw [HL.out]; simp only [Bool.false_eq_true, if_false]; rw [bs_of_app]; simp [sps]), HB6.out⟩
  | true =>
    go_wp2_with fail
    refine (CH _).mono ?_
    rintro e w5 ⟨rfl, rfl⟩
    have CN := refnum_any fn HI.out _ (HT.out.below HB6.out)
    go_wp2_with fail
    refine CN.mono ?_
    rintro e w6 ⟨rfl, hb6⟩
    have HB7 : Hid (Below w.heap.size w w6) := lb_trans HB6.out hb6
    clear CN hb6
    go_wp2
    go_ret
    exact ⟨retTx (by rw [HL.out, if_pos trivial, sps_one, ← bs_app, ← bs_of_app]), HB7.out⟩
theorem refins_any (v : Int) (h0 : 0 ≤ v) (h1 : v < 4294967296) (w : World) (ht : Tab w) :
    Calls Tryz.prog 25 #[.int .u32 v] w fun e w' => e = .returned (.string (bs (lineL v))) ∧ Below w.heap.size w w' := by
  cases h : isIns v with
  | true => exact refins_yes v h0 h1 h w ht
  | false => exact refins_no v h0 h1 h w ht

end Go.Proofs.YtbckolkgncajfaaGreatDoor

namespace Go.Proofs.YtbckolkgncajfaaGreatDoor
open Go.RowKit

section
variable {P : Program}
theorem wp_append_str (w : World) {o : Oper} {a : Act} {K : Act → World → Prop} {Q : Exit → Act → World → Prop} (s x : Operand) (t u : TypeId)
    (ho : o.op = .call { callee := .builtin .append, args := #[s, x], argTypes := #[t, u] })
    (base : Nat) (e : TypeId) (i : TypeInfo) (ht : P.underlying t = some (.slice e)) (hu : P.underlying u = some .string) (hi : P.info? e = some i) (hz : i.zero = some (.int .u8 0))
    (hsize : i.size = 1) (hby : i.bytes = 1) (v : Value) (n : Nat) (xs : List Value) (hs : a.eval s = v) (hown : w.ownsRow base e 1 v n xs) (b : ByteArray) (hx : a.eval x = .string b)
    (h63 : n + b.size ≤ maxLen) (hbytes : n + b.size ≤ 140737488355328) (hbase : base ≤ w.heap.size)
    (h : ∀ v' w', w'.ownsRow base e 1 v' (n + b.size) (xs ++ Lib.strCells b) → w.grownBy w' v.ownBlock → K (a.put o.dst v') w') : o.wp P a w K Q := by
  obtain ⟨v', w', hr, h2, h3, _⟩ := Lib.run_append_own_string (P := P) w base t u o.type e i ht hu hi hz hsize hby v n xs hown b h63 hbytes hbase
  unfold Oper.wp execOp
  simp only [ho, resolve, invoke, builtin, Sem.run_bind, Sem.run_pure, Result.andThen_ok, List.map_toArray, List.map_cons, List.map_nil, hs, hx, hr]
  exact h v' w' h2 h3
theorem step_append_str (w : World) {ops : Array Oper} {o : Oper} {a : Act} {K : Act → World → Prop} {Q : Exit → Act → World → Prop} {E : Prop} (hgd : o.guard = none) (s x : Operand) (t u : TypeId)
    (ho : o.op = .call { callee := .builtin .append, args := #[s, x], argTypes := #[t, u] })
    (base : Nat) (e : TypeId) (i : TypeInfo) (ht : P.underlying t = some (.slice e)) (hu : P.underlying u = some .string) (hi : P.info? e = some i) (hz : i.zero = some (.int .u8 0))
    (hsize : i.size = 1) (hby : i.bytes = 1) (v : Value) (n : Nat) (xs : List Value) (hs : a.eval s = v) (hown : w.ownsRow base e 1 v n xs) (b : ByteArray) (hx : a.eval x = .string b)
    (h63 : n + b.size ≤ maxLen) (hbytes : n + b.size ≤ 140737488355328) (hbase : base ≤ w.heap.size)
    (h : ∀ v' w', w'.ownsRow base e 1 v' (n + b.size) (xs ++ Lib.strCells b) → w.grownBy w' v.ownBlock → K (a.put o.dst v') w') :
    if Region.wanted o (yielded ops a.tmps) = true then Oper.wp P o a w K Q else E := by
  have hw : Region.wanted o (yielded ops a.tmps) = true := by simp [Region.wanted, hgd]
  rw [if_pos hw]
  exact wp_append_str w s x t u ho base e i ht hu hi hz hsize hby v n xs hs hown b hx h63 hbytes hbase h
end
/-- A row of bytes that grows. -/
def Rb (w : World) (B : Nat) (v : Value) (l : List UInt8) : Prop := w.ownsRow B 5 1 v l.length (Lib.byteCells l)
theorem Rb.nil (w : World) (B : Nat) : Rb w B (.slice none 0 0) [] := World.ownsRow_nil _ _ _ _
theorem Rb.keep {w w1 : World} {B : Nat} {v : Value} {l : List UInt8} (h : Rb w B v l) (hb : Below w.heap.size w w1) : Rb w1 B v l := own_keep h hb
theorem Rb.str {w1 : World} {B : Nat} {v : Value} {l : List UInt8} {b : ByteArray} (h : w1.ownsRow B 5 1 v (l.length + b.size) (Lib.byteCells l ++ Lib.strCells b)) : Rb w1 B v (l ++ b.data.toList) := by
  unfold Rb
  rw [List.length_append, Lib.byteCells_append]
  exact h
theorem Rb.form {w : World} {B : Nat} {v : Value} {l : List UInt8} (h : Rb w B v l) : ∃ A c, v = .slice A l.length c := by
  obtain ⟨A, c, e, -⟩ := own_any h
  exact ⟨A, c, e⟩
/-- string(b). -/
theorem Rb.back {w : World} {B : Nat} {A : Option Addr} {n c : Nat} {l : List UInt8} (h : Rb w B (.slice A n c) l) (hn : n = l.length) : (convert 75 9 (.slice A n c)).run Tryz.prog w = .ok (.string (bs l)) w := by
  subst hn
  rcases h.2 with ⟨e, h0⟩ | ⟨g, cap, cur, e, _⟩
  · obtain rfl := List.eq_nil_of_length_eq_zero h0
    cases e
    rw [run_convert_bytes_string w 75 9 5 none _ _ Tryz.underlying75 Tryz.underlying5 Tryz.underlying9]
    rfl
  · cases e
    exact run_convert_bytes_back w 75 9 5 _ _ l Tryz.underlying75 Tryz.underlying5 Tryz.underlying9 fun j hj => h.cells rfl j _ (by simp [Lib.byteCells, hj])
theorem grown_keep {w w' : World} {row : Option Nat} {p : Addr} {v : Value} (hg : w.grownBy w' row) (hc : w.cell? p = some v) (hne : row ≠ some p.block) : w'.cell? p = some v := by
  rw [World.cell?_of_block (hg.block p.block (World.block_lt_of_cell? w p hc) (fun e => hne e.symm))]
  exact hc
theorem Rb.ne {w : World} {B : Nat} {v : Value} {l : List UInt8} (h : Rb w B v l) {k : Nat} (hk : k < B ∨ w.heap.size ≤ k) : v.ownBlock ≠ some k := fun e => by
  have := h.lt k e
  omega
theorem Rb.below {W w w' : World} {v : Value} {l : List UInt8} (h : Rb w W.heap.size v l) (hb : Below W.heap.size W w) (hg : w.grownBy w' v.ownBlock) : Below W.heap.size W w' := hb.grown hg hb.size (fun k hk => (h.lt k hk).1)
theorem refkind_any (k : Int) (h0 : 0 ≤ k) (h3 : k ≤ 3) (w : World) : Calls Tryz.prog 89 #[.int .i8 k] w fun e w' => e = .returned (.string (kindB k)) ∧ w' = w := by
  have : k = 0 ∨ k = 1 ∨ k = 2 ∨ k = 3 := by omega
  rcases this with rfl | rfl | rfl | rfl
  all_goals (
    go_enter Tryz.func89, Tryz.ntmps89
    go_wp2
    go_ret
    exact ⟨rfl, rfl⟩)
/-- Lines, as the document puts them together. -/
theorem line_sps (x : ByteArray) (r : List ByteArray) : lineB (x :: r) = x.data.toList ++ (sps r ++ [10]) := by
  unfold lineB
  rw [join_sps, List.append_assoc]
theorem line_words (v : Int) : lineB (wordsL v) = lineL v ++ [10] := rfl
theorem last_words {v : Int} (h : isT v = true) (x : ByteArray) : lineB (lastB (wordsL v) x) = (nameB (dOp v)).data.toList ++ (sps (fl (hD (dOp v)) (hA (dOp v)) (hB (dOp v)) (dD v) (dA v) (dB v)) ++ (sp x ++ [10])) := by
  unfold isT at h
  simp only [Bool.and_eq_true, decide_eq_true_eq] at h
  have hI : isIns v = true := by
    cases hi : isIns v with
    | true => rfl
    | false =>
      have := dOp_no hi
      omega
  have hn : hN (dOp v) = true := by
    have h2 := h.2
    unfold hP at h2
    unfold hN
    simp only [decide_eq_true_eq] at h2 ⊢
    omega
  have e : wordsL v = nameB (dOp v) :: (fieldsL v ++ [numB (dN v)]) := by
    unfold wordsL nL
    rw [if_pos hI, if_pos hn]
  have e2 : lastB (wordsL v) x = nameB (dOp v) :: (fieldsL v ++ [x]) := by
    rw [e]
    unfold lastB
    simp
  rw [e2, line_sps, sps_app, sps_one, List.append_assoc]
  rfl

end Go.Proofs.YtbckolkgncajfaaGreatDoor
