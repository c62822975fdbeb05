/-
  A number, a list of spots, one of bools, as they are handed in. Contracts of the library, laid at this program. Plain: spots that overlap, the greedy choice, that no choice of rising spots keeps more. Plain: the places that are kept, in their order; pairs counted over places in their order.
-/
import Derived.Test.YtkdafkdogmemcaaDoorProg
import Derived.WalkKit
import Derived.WalkSpells
import Derived.WalkLawsBesides
import Derived.RowKit3
import Derived.Below
import Derived.Deep.QuietTactic
import Derived.BigQuiet
import Derived.WalkSmall
import Derived.Laws.Rows
import Derived.Test.YtkdafkdogmemcaaDoorPs03
import Derived.Test.YtkdafkdogmemcaaDoorPs01
import Derived.Test.YtkdafkdogmemcaaDoorRows
import Derived.Shelf.Sort.Plain
import Derived.Shelf.Slices.In.SortNone
import Derived.Shelf.Slices.Empties
import Derived.Shelf.Spec.SlicesInsertGrow
namespace Go.Proofs.YtkdafkdogmemcaaDoor
open Go.ChangeShapes Go.WideShapes Go.ChangeAt Go.RowKit Go.Joins

set_option maxRecDepth 100000 in
theorem openSpots {H : Type} {enc : TypeId × Value → H} {W : World} {b0 base : Nat} {sp : Nat → Bool} {held : Bool} {v : Value} {d : DataW H} {p : List MemPlace} (hv : Value.okWide Tryd.prog W .any b0 22 v) (h : DataW.Trod enc Tryd.prog W base sp held 22 v d p) :
    ∃ (O : Option Addr) (cap : Nat) (zs : List Spt), v = .slice O zs.length cap ∧ SpAt W O zs := by
  obtain ⟨a, len, c, rfl⟩ := okWide_slice Tryd.underlying22 hv
  obtain ⟨fuel, hf⟩ := h
  obtain ⟨O, cap, zs, e, k, _⟩ := open_spots hf
  exact ⟨O, cap, zs, by simpa [Value.cells] using e, k⟩

end Go.Proofs.YtkdafkdogmemcaaDoor

namespace Go.Proofs
open Go.Shelf
def Tryd.layS_ren : Go.Shelf.Ren := ⟨fun | 189 => 21 | 125 => 46 | 257 => 45 | 128 => 62 | 129 => 63 | 294 => 53 | 295 => 54 | 296 => 55 | 297 => 56 | 298 => 57 | 299 => 58 | 216 => 59 | 300 => 60 | 301 => 61 | 328 => 67 | 329 => 68 | 330 => 69 | 331 => 70 | 332 => 71 | 215 => 72 | 343 => 75 | n => n, fun | 28 => 55 | 3 => 3 | 46 => 74 | 0 => 0 | 51 => 81 | 53 => 124 | 4 => 4 | 183 => 117 | 182 => 116 | 131 => 113 | 5 => 5 | 9 => 9 | 218 => 126 | 222 => 130 | 228 => 132 | 229 => 133 | n => n, fun | n => n⟩
theorem Tryd.layS : Go.Proofs.Lays.n189 Tryd.prog Tryd.layS_ren := {
  mixed := by kernel_rfl
  f125 := Tryd.func46.trans (congrArg some (by kernel_rfl))
  f128 := Tryd.func62.trans (congrArg some (by kernel_rfl))
  f129 := Tryd.func63.trans (congrArg some (by kernel_rfl))
  f189 := Tryd.func21.trans (congrArg some (by kernel_rfl))
  f215 := Tryd.func72.trans (congrArg some (by kernel_rfl))
  f216 := Tryd.func59.trans (congrArg some (by kernel_rfl))
  f257 := Tryd.func45.trans (congrArg some (by kernel_rfl))
  f294 := Tryd.func53.trans (congrArg some (by kernel_rfl))
  f295 := Tryd.func54.trans (congrArg some (by kernel_rfl))
  f296 := Tryd.func55.trans (congrArg some (by kernel_rfl))
  f297 := Tryd.func56.trans (congrArg some (by kernel_rfl))
  f298 := Tryd.func57.trans (congrArg some (by kernel_rfl))
  f299 := Tryd.func58.trans (congrArg some (by kernel_rfl))
  f300 := Tryd.func60.trans (congrArg some (by kernel_rfl))
  f301 := Tryd.func61.trans (congrArg some (by kernel_rfl))
  f328 := Tryd.func67.trans (congrArg some (by kernel_rfl))
  f329 := Tryd.func68.trans (congrArg some (by kernel_rfl))
  f330 := Tryd.func69.trans (congrArg some (by kernel_rfl))
  f331 := Tryd.func70.trans (congrArg some (by kernel_rfl))
  f332 := Tryd.func71.trans (congrArg some (by kernel_rfl))
  f343 := Tryd.func75.trans (congrArg some (by kernel_rfl))
  t0 := Tryd.underlying0
  a0 := Tryd.isAgg0
  z0 := Tryd.sizeOf0
  v0 := Tryd.zeroValue0
  t3 := Tryd.underlying3
  a3 := Tryd.isAgg3
  z3 := Tryd.sizeOf3
  v3 := Tryd.zeroValue3
  t4 := Tryd.underlying4
  a4 := Tryd.isAgg4
  z4 := Tryd.sizeOf4
  v4 := Tryd.zeroValue4
  t5 := Tryd.underlying5
  a5 := Tryd.isAgg5
  z5 := Tryd.sizeOf5
  v5 := Tryd.zeroValue5
  t9 := Tryd.underlying9
  a9 := Tryd.isAgg9
  z9 := Tryd.sizeOf9
  v9 := Tryd.zeroValue9
  t28 := Tryd.underlying55
  a28 := Tryd.isAgg55
  z28 := Tryd.sizeOf55
  v28 := Tryd.zeroValue55
  t46 := Tryd.underlying74
  a46 := Tryd.isAgg74
  z46 := Tryd.sizeOf74
  v46 := Tryd.zeroValue74
  t51 := Tryd.underlying81
  a51 := Tryd.isAgg81
  z51 := Tryd.sizeOf81
  v51 := Tryd.zeroValue81
  t53 := Tryd.underlying124
  a53 := Tryd.isAgg124
  z53 := Tryd.sizeOf124
  v53 := Tryd.zeroValue124
  t131 := Tryd.underlying113
  a131 := Tryd.isAgg113
  z131 := Tryd.sizeOf113
  v131 := Tryd.zeroValue113
  t182 := Tryd.underlying116
  a182 := Tryd.isAgg116
  z182 := Tryd.sizeOf116
  v182 := Tryd.zeroValue116
  t183 := Tryd.underlying117
  a183 := Tryd.isAgg117
  z183 := Tryd.sizeOf117
  v183 := Tryd.zeroValue117
  t218 := Tryd.underlying126
  a218 := Tryd.isAgg126
  z218 := Tryd.sizeOf126
  v218 := Tryd.zeroValue126
  t222 := Tryd.underlying130
  a222 := Tryd.isAgg130
  z222 := Tryd.sizeOf130
  v222 := Tryd.zeroValue130
  t228 := Tryd.underlying132
  a228 := Tryd.isAgg132
  z228 := Tryd.sizeOf132
  v228 := Tryd.zeroValue132
  t229 := Tryd.underlying133
  a229 := Tryd.isAgg133
  z229 := Tryd.sizeOf133
  v229 := Tryd.zeroValue133
}
def Tryd.layB_ren : Go.Shelf.Ren := ⟨fun | 25 => 52 | 31 => 59 | 32 => 66 | 37 => 72 | n => n, fun | 22 => 55 | 3 => 3 | 4 => 4 | 40 => 74 | 0 => 0 | n => n, fun | n => n⟩
theorem Tryd.layB : Go.Proofs.Lays2.n25 Tryd.prog Tryd.layB_ren := {
  mixed := by kernel_rfl
  f25 := Tryd.func52.trans (congrArg some (by kernel_rfl))
  f31 := Tryd.func59.trans (congrArg some (by kernel_rfl))
  f32 := Tryd.func66.trans (congrArg some (by kernel_rfl))
  f37 := Tryd.func72.trans (congrArg some (by kernel_rfl))
  t0 := Tryd.underlying0
  a0 := Tryd.isAgg0
  z0 := Tryd.sizeOf0
  v0 := Tryd.zeroValue0
  t3 := Tryd.underlying3
  a3 := Tryd.isAgg3
  z3 := Tryd.sizeOf3
  v3 := Tryd.zeroValue3
  t4 := Tryd.underlying4
  a4 := Tryd.isAgg4
  z4 := Tryd.sizeOf4
  v4 := Tryd.zeroValue4
  t22 := Tryd.underlying55
  a22 := Tryd.isAgg55
  z22 := Tryd.sizeOf55
  v22 := Tryd.zeroValue55
  t40 := Tryd.underlying74
  a40 := Tryd.isAgg74
  z40 := Tryd.sizeOf74
  v40 := Tryd.zeroValue74
}
def Tryd.layI_ren : Go.Shelf.Ren := ⟨fun | 21 => 43 | 27 => 50 | 28 => 51 | 35 => 65 | 39 => 74 | n => n, fun | 22 => 55 | 3 => 3 | 4 => 4 | 0 => 0 | n => n, fun | n => n⟩
theorem Tryd.layI : Go.Proofs.Lays2.n21 Tryd.prog Tryd.layI_ren := {
  mixed := by kernel_rfl
  f21 := Tryd.func43.trans (congrArg some (by kernel_rfl))
  f27 := Tryd.func50.trans (congrArg some (by kernel_rfl))
  f28 := Tryd.func51.trans (congrArg some (by kernel_rfl))
  f35 := Tryd.func65.trans (congrArg some (by kernel_rfl))
  f39 := Tryd.func74.trans (congrArg some (by kernel_rfl))
  t0 := Tryd.underlying0
  a0 := Tryd.isAgg0
  z0 := Tryd.sizeOf0
  v0 := Tryd.zeroValue0
  t3 := Tryd.underlying3
  a3 := Tryd.isAgg3
  z3 := Tryd.sizeOf3
  v3 := Tryd.zeroValue3
  t4 := Tryd.underlying4
  a4 := Tryd.isAgg4
  z4 := Tryd.sizeOf4
  v4 := Tryd.zeroValue4
  t22 := Tryd.underlying55
  a22 := Tryd.isAgg55
  z22 := Tryd.sizeOf55
  v22 := Tryd.zeroValue55
  i3 := by kernel_rfl
}
end Go.Proofs

namespace Go.Proofs.YtkdafkdogmemcaaDoor
open Go.RowKit

/-- Do two overlap? -/
def ovl (n : Int) (a b : Spt) : Bool := if b.1 < a.1 then decide (a.1 - n < b.1) else decide (b.1 - n < a.1)
theorem ovl_lt {n : Int} {a b : Spt} (h : a.1 < b.1) : ovl n a b = decide (b.1 - n < a.1) := by
  unfold ovl
  rw [if_neg (by omega)]
theorem ovl_comm (n : Int) (a b : Spt) : ovl n a b = ovl n b a := by
  unfold ovl
  by_cases h : b.1 < a.1
  · rw [if_pos h, if_neg (by omega)]
  · by_cases k : a.1 < b.1
    · rw [if_neg h, if_pos k]
    · have e : a.1 = b.1 := by omega
      rw [if_neg h, if_neg k, e]
/-- The choice: a spot is kept that overlaps no kept one. -/
def apG (n : Int) : List Spt → List Spt → List Spt
  | out, [] => out
  | out, s :: l => if out.any (fun o => ovl n o s) then apG n out l else apG n (out ++ [s]) l
/-- The same of rising spots: t, from where on a spot is free. -/
def gr (n : Int) : Int → List Spt → List Spt
  | _, [] => []
  | t, s :: l => if t ≤ s.1 then s :: gr n (s.1 + n) l else gr n t l
def Ris : List Spt → Prop
  | [] => True
  | s :: l => (∀ r ∈ l, s.1 < r.1) ∧ Ris l
/-- Neighbours lie n apart, the first at t or behind. -/
def Gap (n : Int) : Int → List Spt → Prop
  | _, [] => True
  | t, s :: l => t ≤ s.1 ∧ Gap n (s.1 + n) l
theorem Gap.mono {n : Int} : ∀ {t u : Int} {l : List Spt}, Gap n t l → u ≤ t → Gap n u l
  | _, _, [], _, _ => trivial
  | _, _, _ :: _, h, hu => ⟨Int.le_trans hu h.1, h.2⟩
theorem apG_gr {n : Int} : ∀ (l out : List Spt) (t : Int), Ris l → (∀ o ∈ out, o.1 + n ≤ t ∧ ∀ s ∈ l, o.1 < s.1) → ((out = [] ∧ ∀ s ∈ l, t ≤ s.1) ∨ ∃ o ∈ out, o.1 + n = t) → apG n out l = out ++ gr n t l
  | [], out, t, _, _, _ => by simp [apG, gr]
  | s :: l, out, t, hr, ho, hx => by
    have hany : out.any (fun o => ovl n o s) = !decide (t ≤ s.1) := by
      by_cases ht : t ≤ s.1
      · rw [decide_eq_true ht]
        show _ = false
        rw [List.any_eq_false]
        intro o hm
        obtain ⟨h1, h2⟩ := ho o hm
        rw [ovl_lt (h2 s (List.mem_cons_self ..))]
        simp only [decide_eq_true_eq]
        omega
      · rw [decide_eq_false ht]
        show _ = true
        rw [List.any_eq_true]
        rcases hx with ⟨_, hx⟩ | ⟨o, hm, e⟩
        · exact absurd (hx s (List.mem_cons_self ..)) ht
        · refine ⟨o, hm, ?_⟩
          rw [ovl_lt ((ho o hm).2 s (List.mem_cons_self ..))]
          simp only [decide_eq_true_eq]
          omega
    unfold apG gr
    rw [hany]
    by_cases ht : t ≤ s.1
    · rw [decide_eq_true ht, if_pos ht]
      show apG n (out ++ [s]) l = _
      rw [apG_gr l (out ++ [s]) (s.1 + n) hr.2 ?_ (.inr ⟨s, by simp, rfl⟩), List.append_assoc]
      · rfl
      · intro o hm
        rcases List.mem_append.1 hm with hm | hm
        · obtain ⟨h1, h2⟩ := ho o hm
          have := h2 s (List.mem_cons_self ..)
          exact ⟨by omega, fun r hr' => h2 r (List.mem_cons_of_mem _ hr')⟩
        · obtain rfl : o = s := by simpa using hm
          exact ⟨Int.le_refl _, hr.1⟩
    · rw [decide_eq_false ht, if_neg ht]
      show apG n out l = _
      refine apG_gr l out t hr.2 (fun o hm => ⟨(ho o hm).1, fun r hr' => (ho o hm).2 r (List.mem_cons_of_mem _ hr')⟩) ?_
      rcases hx with ⟨e, hx⟩ | hx
      · exact absurd (hx s (List.mem_cons_self ..)) ht
      · exact .inr hx
theorem ap_gr {n t : Int} {l : List Spt} (hr : Ris l) (ht : ∀ s ∈ l, t ≤ s.1) : apG n [] l = gr n t l := by
  rw [apG_gr l [] t hr (fun o h => absurd h (List.not_mem_nil)) (.inl ⟨rfl, ht⟩), List.nil_append]
/-- What is kept lies n apart. -/
theorem gr_gap {n : Int} : ∀ (t : Int) (l : List Spt), Gap n t (gr n t l)
  | _, [] => trivial
  | t, s :: l => by
    unfold gr
    by_cases h : t ≤ s.1
    · rw [if_pos h]; exact ⟨h, gr_gap (s.1 + n) l⟩
    · rw [if_neg h]; exact gr_gap t l
/-- No choice keeps more. -/
theorem gr_most {n : Int} (hn : 0 ≤ n) : ∀ (l : List Spt) (t : Int) (c : List Spt), Ris l → c.Sublist l → Gap n t c → c.length ≤ (gr n t l).length
  | [], t, c, _, hs, _ => by
    obtain rfl := List.eq_nil_of_sublist_nil hs
    exact Nat.le_refl _
  | x :: l, t, c, hr, hs, hg => by
    unfold gr
    by_cases ht : t ≤ x.1
    · rw [if_pos ht, List.length_cons]
      cases hs with
      | cons _ hs =>
        cases c with
        | nil => exact Nat.zero_le _
        | cons y c =>
          have hy : x.1 < y.1 := hr.1 y (hs.subset (List.mem_cons_self ..))
          have := gr_most hn l (x.1 + n) c hr.2 (List.Sublist.trans (List.sublist_cons_self ..) hs) (hg.2.mono (by omega))
          rw [List.length_cons]; omega
      | cons_cons _ hs =>
        have := gr_most hn l (x.1 + n) _ hr.2 hs hg.2
        rw [List.length_cons]; omega
    · rw [if_neg ht]
      cases hs with
      | cons _ hs => exact gr_most hn l t c hr.2 hs hg
      | cons_cons _ hs => exact absurd hg.1 ht
theorem gap_go {n : Int} : ∀ {t : Int} {l : List Spt} (i : Nat) {a b : Spt}, Gap n t l → l[i]? = some a → l[i + 1]? = some b → a.1 + n ≤ b.1
  | _, [], _, _, _, _, h, _ => by simp at h
  | _, [_], i, _, _, _, _, h => by cases i <;> simp at h
  | _, x :: y :: l, 0, a, b, h, ha, hb => by
    simp at ha hb
    subst ha; subst hb
    exact h.2.1
  | _, x :: y :: l, i + 1, a, b, h, ha, hb => by
    rw [List.getElem?_cons_succ] at ha hb
    exact gap_go i h.2 ha hb
/-- From its neighbours: a list lies n apart. -/
theorem gap_of {n : Int} : ∀ {t : Int} {l : List Spt}, (∀ s ∈ l, t ≤ s.1) → (∀ (i : Nat) (a b : Spt), l[i]? = some a → l[i + 1]? = some b → a.1 + n ≤ b.1) → 0 ≤ n → Ris l → Gap n t l
  | _, [], _, _, _, _ => trivial
  | _, [x], h, _, _, _ => ⟨h x (List.mem_cons_self ..), trivial⟩
  | _, x :: y :: l, h, g, hn, hr => by
    refine ⟨h x (List.mem_cons_self ..), gap_of ?_ (fun i a b ha hb => g (i + 1) a b (by simpa using ha) (by simpa using hb)) hn hr.2⟩
    have h1 := g 0 x y rfl rfl
    intro s hs
    rcases List.mem_cons.1 hs with rfl | hs
    · exact h1
    · have := hr.2.1 s hs
      omega
theorem gap_ge {n : Int} (hn : 0 ≤ n) : ∀ {t : Int} {l : List Spt}, Gap n t l → ∀ s ∈ l, t ≤ s.1
  | _, [], _, _, h => absurd h (List.not_mem_nil)
  | _, x :: l, g, s, h => by
    rcases List.mem_cons.1 h with rfl | h
    · exact g.1
    · have := gap_ge hn g.2 s h
      have := g.1
      omega
/-- Of what is kept no two overlap. -/
theorem gap_pair {n : Int} (hn : 0 ≤ n) : ∀ {t : Int} {l : List Spt}, Gap n t l → l.Pairwise fun a b => a.1 + n ≤ b.1
  | _, [], _ => List.Pairwise.nil
  | _, _ :: _, g => List.Pairwise.cons (fun s hs => gap_ge hn g.2 s hs) (gap_pair hn g.2)
theorem ovl_apart {n : Int} (hn : 1 ≤ n) {a b : Spt} (h : a.1 + n ≤ b.1) : ovl n a b = false := by
  rw [ovl_lt (by omega)]
  exact decide_eq_false (by omega)
theorem gr_sub {n : Int} : ∀ (t : Int) (l : List Spt), (gr n t l).Sublist l
  | _, [] => .slnil
  | t, s :: l => by
    unfold gr
    by_cases h : t ≤ s.1
    · rw [if_pos h]; exact (gr_sub (s.1 + n) l).cons_cons s
    · rw [if_neg h]; exact (gr_sub t l).cons s

/-- Are the length and all places such as are looked at? -/
def okS1 (s : Spt) : Bool := decide (0 ≤ s.1) && decide (s.1 ≤ 16384)
def wiB (n : Int) (l : List Spt) : Bool := l.all okS1 && (decide (1 ≤ n) && decide (n ≤ 16384))
theorem wi_mem {n : Int} {l : List Spt} (h : wiB n l = true) : (∀ s ∈ l, 0 ≤ s.1 ∧ s.1 ≤ 16384) ∧ 1 ≤ n ∧ n ≤ 16384 := by
  unfold wiB okS1 at h
  simp only [Bool.and_eq_true, List.all_eq_true, decide_eq_true_eq] at h
  exact ⟨h.1, h.2.1, h.2.2⟩
theorem wi_not {n : Int} {l : List Spt} {s : Spt} (hs : s ∈ l) (h : okS1 s = false) : wiB n l = false := by
  unfold wiB
  rw [Bool.and_eq_false_iff]
  exact .inl (List.all_eq_false.2 ⟨s, hs, by rw [h]; simp⟩)
theorem all_take {l : List Spt} {k : Nat} (hk : k < l.length) (h : (l.take k).all okS1 = true) (e : okS1 (spt l k) = true) : (l.take (k + 1)).all okS1 = true := by
  rw [List.take_add_one, List.all_append, h, List.getElem?_eq_getElem hk]
  unfold spt at e
  rw [List.getD_eq_getElem?_getD, List.getElem?_eq_getElem hk] at e
  simpa using e
theorem wi_all {n : Int} {l : List Spt} (h : (l.take l.length).all okS1 = true) : wiB n l = (decide (1 ≤ n) && decide (n ≤ 16384)) := by
  rw [List.take_length] at h
  unfold wiB
  rw [h, Bool.true_and]
/-- What Apart answers. -/
def apR (n : Int) (l : List Spt) : List Spt := if wiB n l = true then apG n [] l else []
theorem spt_drop {l : List Spt} {k : Nat} (h : k < l.length) : l.drop k = spt l k :: l.drop (k + 1) := by
  rw [List.drop_eq_getElem_cons h]
  simp [spt, h]
theorem apG_yes {n : Int} {O l : List Spt} {k : Nat} (h : k < l.length) (e : O.any (fun o => ovl n o (spt l k)) = false) : apG n O (l.drop k) = apG n (O ++ [spt l k]) (l.drop (k + 1)) := by
  rw [spt_drop h]
  show (if O.any (fun o => ovl n o (spt l k)) = true then apG n O (l.drop (k + 1)) else apG n (O ++ [spt l k]) (l.drop (k + 1))) = _
  rw [e, if_neg (by simp)]
theorem apG_no {n : Int} {O l : List Spt} {k : Nat} (h : k < l.length) (e : O.any (fun o => ovl n o (spt l k)) = true) : apG n O (l.drop k) = apG n O (l.drop (k + 1)) := by
  rw [spt_drop h]
  show (if O.any (fun o => ovl n o (spt l k)) = true then apG n O (l.drop (k + 1)) else apG n (O ++ [spt l k]) (l.drop (k + 1))) = _
  rw [e, if_pos rfl]
theorem any_step {n : Int} {O : List Spt} {k : Nat} {s : Spt} (h : k < O.length) : (O.take (k + 1)).any (fun o => ovl n o s) = ((O.take k).any (fun o => ovl n o s) || ovl n (spt O k) s) := by
  rw [List.take_add_one, List.any_append, List.getElem?_eq_getElem h]
  simp [spt, h]
theorem apG_sub {n : Int} : ∀ (l O : List Spt) (s : Spt), s ∈ apG n O l → s ∈ O ∨ s ∈ l
  | [], O, s, h => .inl h
  | x :: l, O, s, h => by
    unfold apG at h
    by_cases c : O.any (fun o => ovl n o x) = true
    · rw [if_pos c] at h
      exact (apG_sub l O s h).imp id (List.mem_cons_of_mem _)
    · rw [if_neg c] at h
      rcases apG_sub l (O ++ [x]) s h with h | h
      · rcases List.mem_append.1 h with h | h
        · exact .inl h
        · exact .inr (by rw [List.mem_singleton.1 h]; exact List.mem_cons_self)
      · exact .inr (List.mem_cons_of_mem _ h)
/-- How many of the first k overlap the i'th; how many pairs there are below i. -/
def ovK (n : Int) (l : List Spt) (i k : Nat) : Nat := ((List.range k).filter fun j => ovl n (spt l j) (spt l i)).length
def ovP (n : Int) (l : List Spt) : Nat → Nat
  | 0 => 0
  | i + 1 => ovP n l i + ovK n l i i
def ovR (n : Int) (l : List Spt) : Nat := if wiB n l = true then ovP n l l.length else 0
theorem ovK_yes {n : Int} {l : List Spt} {i k : Nat} (h : ovl n (spt l k) (spt l i) = true) : ovK n l i (k + 1) = ovK n l i k + 1 := by
  unfold ovK
  rw [List.range_succ, List.filter_append, List.length_append]
  simp [h]
theorem ovK_no {n : Int} {l : List Spt} {i k : Nat} (h : ovl n (spt l k) (spt l i) = false) : ovK n l i (k + 1) = ovK n l i k := by
  unfold ovK
  rw [List.range_succ, List.filter_append, List.length_append]
  simp [h]
theorem ovK_le (n : Int) (l : List Spt) (i k : Nat) : ovK n l i k ≤ k := by
  unfold ovK
  refine Nat.le_trans (List.length_filter_le _ _) ?_
  rw [List.length_range]
  exact Nat.le_refl _
theorem ovP_le (n : Int) (l : List Spt) : ∀ {i b : Nat}, i ≤ b → ovP n l i ≤ i * b
  | 0, _, _ => Nat.zero_le _
  | i + 1, b, h => by
    have h1 := ovP_le n l (i := i) (b := b) (by omega)
    have h2 := ovK_le n l i i
    rw [ovP, Nat.add_mul]
    omega

end Go.Proofs.YtkdafkdogmemcaaDoor

namespace Go.Proofs.YtkdafkdogmemcaaDoor
open Go.RowKit

/-- Do two places overlap? -/
def ovD (n a b : Int) : Bool := decide (max a b - min a b < n)
theorem ovl_D (n : Int) (a b : Spt) : ovl n a b = ovD n a.1 b.1 := by
  unfold ovl ovD
  by_cases h : b.1 < a.1
  · rw [if_pos h]
    congr 1
    exact propext ⟨fun _ => by omega, fun _ => by omega⟩
  · rw [if_neg h]
    congr 1
    exact propext ⟨fun _ => by omega, fun _ => by omega⟩
theorem ovD_comm (n a b : Int) : ovD n a b = ovD n b a := by
  unfold ovD
  rw [Int.max_comm, Int.min_comm]
def Srt (l : List Int) : Prop := l.Pairwise (· ≤ ·)
/-- How many are below. -/
def frN (l : List Int) (x : Int) : Nat := l.countP (· < x)
theorem frN_le (l : List Int) (x : Int) : frN l x ≤ l.length := List.countP_le_length
theorem fr_low : ∀ {l : List Int} {x : Int} {j : Nat}, Srt l → j < frN l x → l.getD j 0 < x
  | [], _, _, _, h => by simp [frN] at h
  | q :: l, x, j, hs, h => by
    unfold Srt at hs
    rw [List.pairwise_cons] at hs
    by_cases hq : q < x
    · cases j with
      | zero => exact hq
      | succ j =>
        have : frN (q :: l) x = frN l x + 1 := by unfold frN; rw [List.countP_cons_of_pos (by simpa using hq)]
        rw [this] at h
        exact fr_low (l := l) hs.2 (by omega)
    · have : frN (q :: l) x = 0 := by
        unfold frN
        rw [List.countP_eq_zero]
        intro r hr
        rcases List.mem_cons.1 hr with rfl | hr
        · simpa using hq
        · have := hs.1 r hr
          simp only [decide_eq_true_eq]
          omega
      omega
theorem fr_high : ∀ {l : List Int} {x : Int} {j : Nat}, Srt l → frN l x ≤ j → j < l.length → x ≤ l.getD j 0
  | [], _, _, _, _, h => by simp at h
  | q :: l, x, j, hs, h, hj => by
    unfold Srt at hs
    rw [List.pairwise_cons] at hs
    by_cases hq : q < x
    · have : frN (q :: l) x = frN l x + 1 := by unfold frN; rw [List.countP_cons_of_pos (by simpa using hq)]
      rw [this] at h
      cases j with
      | zero => omega
      | succ j => exact fr_high (l := l) hs.2 (by omega) (by simp at hj; omega)
    · cases j with
      | zero => show x ≤ q; omega
      | succ j =>
        have hm : (q :: l).getD (j + 1) 0 ∈ l := by
          rw [List.getD_cons_succ]
          have hj2 : j < l.length := by simp at hj; omega
          rw [List.getD_eq_getElem?_getD, List.getElem?_eq_getElem hj2]
          exact List.getElem_mem _
        have := hs.1 _ hm
        omega
theorem srt_at {l : List Int} (h : Srt l) {i j : Nat} (hij : i ≤ j) (hj : j < l.length) : l.getD i 0 ≤ l.getD j 0 := by
  by_cases e : i = j
  · subst e; exact Int.le_refl _
  · have := List.pairwise_iff_getElem.1 h i j (by omega) hj (by omega)
    rw [List.getD_eq_getElem?_getD, List.getD_eq_getElem?_getD, List.getElem?_eq_getElem (by omega), List.getElem?_eq_getElem hj]
    exact this
/-- The two neighbours. -/
def besB (n : Int) (l : List Int) (x : Int) : Bool := (decide (0 < frN l x) && ovD n x (l.getD (frN l x - 1) 0)) || (decide (frN l x < l.length) && ovD n x (l.getD (frN l x) 0))
theorem getD_mem {l : List Int} {j : Nat} (h : j < l.length) : l.getD j 0 ∈ l := by
  rw [List.getD_eq_getElem?_getD, List.getElem?_eq_getElem h]
  exact List.getElem_mem _
theorem mem_getD {l : List Int} {p : Int} (h : p ∈ l) : ∃ j, j < l.length ∧ l.getD j 0 = p := by
  obtain ⟨j, hj, e⟩ := List.getElem_of_mem h
  exact ⟨j, hj, by rw [List.getD_eq_getElem?_getD, List.getElem?_eq_getElem hj]; exact e⟩
theorem bes_any {n : Int} {l : List Int} (x : Int) (h : Srt l) : besB n l x = l.any (fun p => ovD n x p) := by
  rw [Bool.eq_iff_iff, List.any_eq_true]
  unfold besB
  rw [Bool.or_eq_true, Bool.and_eq_true, Bool.and_eq_true, decide_eq_true_eq, decide_eq_true_eq]
  have hle := frN_le l x
  constructor
  · rintro (⟨h1, h2⟩ | ⟨h1, h2⟩)
    · exact ⟨_, getD_mem (by omega), h2⟩
    · exact ⟨_, getD_mem h1, h2⟩
  · rintro ⟨p, hp, ho⟩
    obtain ⟨j, hj, rfl⟩ := mem_getD hp
    unfold ovD at ho ⊢
    rw [decide_eq_true_eq] at ho
    by_cases hf : j < frN l x
    · have h1 := fr_low h hf
      have h2 : l.getD (frN l x - 1) 0 < x := fr_low h (by omega)
      have h3 := srt_at h (show j ≤ frN l x - 1 by omega) (by omega)
      exact .inl ⟨by omega, decide_eq_true (by omega)⟩
    · have h1 := fr_high h (Nat.le_of_not_lt hf) hj
      have h2 := fr_high h (Nat.le_refl _) (show frN l x < l.length by omega)
      have h3 := srt_at h (Nat.le_of_not_lt hf) hj
      exact .inr ⟨by omega, decide_eq_true (by omega)⟩
/-- One more place. -/
def insN (l : List Int) (x : Int) : List Int := l.take (frN l x) ++ x :: l.drop (frN l x)
theorem insN_len (l : List Int) (x : Int) : (insN l x).length = l.length + 1 := by
  have := frN_le l x
  simp [insN]; omega
theorem insN_mem {l : List Int} {x p : Int} : p ∈ insN l x ↔ p ∈ l ∨ p = x := by
  unfold insN
  rw [List.mem_append, List.mem_cons]
  have h : p ∈ l ↔ p ∈ l.take (frN l x) ∨ p ∈ l.drop (frN l x) := by
    conv => lhs; rw [← List.take_append_drop (frN l x) l, List.mem_append]
  rw [h]
  constructor
  · rintro (a | a | a)
    · exact .inl (.inl a)
    · exact .inr a
    · exact .inl (.inr a)
  · rintro ((a | a) | a)
    · exact .inl a
    · exact .inr (.inr a)
    · exact .inr (.inl a)
theorem insN_srt {l : List Int} {x : Int} (h : Srt l) : Srt (insN l x) := by
  have hle := frN_le l x
  have h1 : ∀ a ∈ l.take (frN l x), a < x := fun a ha => by
    obtain ⟨j, hj, rfl⟩ := List.getElem_of_mem ha
    rw [List.length_take] at hj
    rw [List.getElem_take]
    have := fr_low h (show j < frN l x by omega)
    rw [List.getD_eq_getElem?_getD, List.getElem?_eq_getElem (by omega)] at this
    exact this
  have h2 : ∀ a ∈ l.drop (frN l x), x ≤ a := fun a ha => by
    obtain ⟨j, hj, rfl⟩ := List.getElem_of_mem ha
    rw [List.length_drop] at hj
    rw [List.getElem_drop]
    have := fr_high h (show frN l x ≤ frN l x + j by omega) (by omega)
    rw [List.getD_eq_getElem?_getD, List.getElem?_eq_getElem (by omega)] at this
    exact this
  unfold Srt insN
  rw [List.pairwise_append]
  refine ⟨List.Pairwise.sublist (List.take_sublist _ _) h, List.pairwise_cons.2 ⟨h2, List.Pairwise.sublist (List.drop_sublist _ _) h⟩, fun a ha b hb => ?_⟩
  have ha := h1 a ha
  rcases List.mem_cons.1 hb with rfl | hb
  · omega
  · have := h2 b hb; omega
/-- The places of the spots that were kept. -/
structure KpP (O : List Spt) (Q : List Int) : Prop where
  srt : Srt Q
  mem : ∀ p, p ∈ Q ↔ ∃ s ∈ O, s.1 = p
  len : Q.length = O.length
theorem KpP.nil : KpP [] [] := ⟨List.Pairwise.nil, (fun _ => ⟨(fun h => absurd h List.not_mem_nil), (fun ⟨_, h, _⟩ => absurd h List.not_mem_nil)⟩), rfl⟩
theorem KpP.add {O : List Spt} {Q : List Int} (h : KpP O Q) (s : Spt) : KpP (O ++ [s]) (insN Q s.1) := by
  refine ⟨insN_srt h.srt, fun p => ?_, by rw [insN_len, List.length_append, h.len]; rfl⟩
  rw [insN_mem, h.mem]
  constructor
  · rintro (⟨r, h1, h2⟩ | rfl)
    · exact ⟨r, List.mem_append.2 (.inl h1), h2⟩
    · exact ⟨s, List.mem_append.2 (.inr (List.mem_singleton.2 rfl)), rfl⟩
  · rintro ⟨r, h1, h2⟩
    rcases List.mem_append.1 h1 with h1 | h1
    · exact .inl ⟨r, h1, h2⟩
    · rw [List.mem_singleton.1 h1] at h2; exact .inr h2.symm
theorem KpP.any {n : Int} {O : List Spt} {Q : List Int} (h : KpP O Q) (s : Spt) : besB n Q s.1 = O.any (fun o => ovl n o s) := by
  rw [bes_any s.1 h.srt, Bool.eq_iff_iff, List.any_eq_true, List.any_eq_true]
  constructor
  · rintro ⟨p, hp, ho⟩
    obtain ⟨o, h1, rfl⟩ := (h.mem p).1 hp
    exact ⟨o, h1, by rw [ovl_D, ovD_comm]; exact ho⟩
  · rintro ⟨o, h1, ho⟩
    rw [ovl_D, ovD_comm] at ho
    exact ⟨o.1, (h.mem _).2 ⟨o, h1, rfl⟩, ho⟩

/-- How many pairs overlap. -/
def pcN (n : Int) : List Int → Nat
  | [] => 0
  | a :: l => l.countP (ovD n a) + pcN n l
theorem pcN_perm {n : Int} {l m : List Int} (h : List.Perm l m) : pcN n l = pcN n m := by
  induction h with
  | nil => rfl
  | cons a h ih => show _ + _ = _ + _; rw [ih, h.countP_eq]
  | swap a b l =>
    show (a :: l).countP (ovD n b) + (l.countP (ovD n a) + pcN n l) = (b :: l).countP (ovD n a) + (l.countP (ovD n b) + pcN n l)
    rw [List.countP_cons, List.countP_cons, ovD_comm n b a]
    omega
  | trans _ _ h1 h2 => rw [h1, h2]
/-- .. one place after the other: those of the first i. -/
def pcP (n : Int) (S : List Int) : Nat → Nat
  | 0 => 0
  | i + 1 => pcP n S i + (S.take i).countP (ovD n (S.getD i 0))
theorem pcP_rev (n : Int) (S : List Int) : ∀ i, i ≤ S.length → pcP n S i = pcN n (S.take i).reverse
  | 0, _ => by rw [List.take_zero]; rfl
  | i + 1, h => by
    have hi : i < S.length := by omega
    rw [pcP, pcP_rev n S i (by omega), List.take_add_one, List.getElem?_eq_getElem hi, List.getD_eq_getElem?_getD, List.getElem?_eq_getElem hi]
    show _ = pcN n (S.take i ++ [S[i]]).reverse
    rw [List.reverse_append]
    show _ = (S.take i).reverse.countP _ + pcN n (S.take i).reverse
    rw [List.countP_reverse]
    show pcN n (S.take i).reverse + (S.take i).countP (ovD n S[i]) = _
    omega
theorem pcP_all (n : Int) (S : List Int) : pcP n S S.length = pcN n S := by
  rw [pcP_rev n S S.length (Nat.le_refl _), List.take_length]
  exact pcN_perm (List.reverse_perm S)
def plL (l : List Spt) : List Int := l.map (·.1)
theorem ovK_count (n : Int) (l : List Spt) (i : Nat) : ∀ k, k ≤ l.length → ovK n l i k = ((plL l).take k).countP (ovD n (spt l i).1)
  | 0, _ => by rw [List.take_zero]; rfl
  | k + 1, h => by
    have hk : k < l.length := by omega
    have hk2 : k < (plL l).length := by unfold plL; rw [List.length_map]; exact hk
    have e : (plL l)[k] = (spt l k).1 := by
      have h1 : (spt l k).1 = l[k].1 := by unfold spt; rw [List.getD_eq_getElem?_getD, List.getElem?_eq_getElem hk]; rfl
      rw [h1]
      exact List.getElem_map _
    rw [List.take_add_one, List.getElem?_eq_getElem hk2, List.countP_append, ← ovK_count n l i k (by omega)]
    show _ = _ + [(plL l)[k]].countP _
    rw [e]
    unfold ovK
    rw [List.range_succ, List.filter_append, List.length_append, List.countP_singleton]
    congr 1
    rw [ovD_comm, ← ovl_D]
    cases h : ovl n (spt l k) (spt l i) <;> simp [h]
theorem ovP_pc (n : Int) (l : List Spt) : ∀ i, i ≤ l.length → ovP n l i = pcP n (plL l) i
  | 0, _ => rfl
  | i + 1, h => by
    have hi : i < l.length := by omega
    rw [ovP, pcP, ovP_pc n l i (by omega), ovK_count n l i i (by omega)]
    congr 2
    unfold plL spt
    rw [List.getD_eq_getElem?_getD, List.getD_eq_getElem?_getD, List.getElem?_map, List.getElem?_eq_getElem hi]; rfl
/-- The places in their order. -/
def srtL (l : List Int) : List Int := l.mergeSort fun x y => decide (x ≤ y)
theorem srtL_perm (l : List Int) : List.Perm (srtL l) l := List.mergeSort_perm l _
theorem srtL_srt (l : List Int) : Srt (srtL l) := by
  have := List.pairwise_mergeSort (le := fun (x y : Int) => decide (x ≤ y)) (fun a b c h1 h2 => by simp only [decide_eq_true_eq] at *; omega) (fun a b => by simp only [Bool.or_eq_true, decide_eq_true_eq]; omega) l
  exact this.imp (fun h => by simpa using h)
theorem ovP_srt (n : Int) (l : List Spt) : ovP n l l.length = pcP n (srtL (plL l)) l.length := by
  have e : (srtL (plL l)).length = l.length := by rw [(srtL_perm _).length_eq]; unfold plL; rw [List.length_map]
  have e2 : (plL l).length = l.length := by unfold plL; rw [List.length_map]
  rw [ovP_pc n l _ (Nat.le_refl _)]
  have h1 := pcP_all n (plL l)
  have h2 := pcP_all n (srtL (plL l))
  rw [e2] at h1
  rw [e] at h2
  rw [h1, h2]
  exact pcN_perm (srtL_perm _).symm
/-- Those before the first that overlaps are left out. -/
theorem pcP_step {n : Int} {S : List Int} {k f : Nat} (hs : Srt S) (hk : k < S.length) (hf : f ≤ k) (hlow : ∀ j, j < f → ¬ S.getD k 0 - S.getD j 0 < n) (hhi : S.getD k 0 - S.getD f 0 < n) : pcP n S (k + 1) = pcP n S k + (k - f) := by
  rw [pcP]
  congr 1
  have h1 : (S.take k) = S.take f ++ (S.take k).drop f := by
    conv => lhs; rw [← List.take_append_drop f (S.take k)]
    rw [List.take_take, Nat.min_eq_left hf]
  rw [h1, List.countP_append]
  have h2 : (S.take f).countP (ovD n (S.getD k 0)) = 0 := by
    rw [List.countP_eq_zero]
    intro a ha
    obtain ⟨j, hj, rfl⟩ := List.getElem_of_mem ha
    rw [List.length_take] at hj
    have := hlow j (by omega)
    have h3 := srt_at hs (show j ≤ k by omega) hk
    rw [List.getD_eq_getElem?_getD (i := j), List.getElem?_eq_getElem (by omega)] at this h3
    rw [List.getElem_take]
    unfold ovD
    simp only [decide_eq_true_eq]
    show ¬ max (S.getD k 0) S[j] - min (S.getD k 0) S[j] < n
    have h3' : S[j] ≤ S.getD k 0 := h3
    have this' : ¬ S.getD k 0 - S[j] < n := this
    omega
  have h3 : ((S.take k).drop f).countP (ovD n (S.getD k 0)) = k - f := by
    rw [List.countP_eq_length.2]
    · rw [List.length_drop, List.length_take]; omega
    · intro a ha
      obtain ⟨j, hj, rfl⟩ := List.getElem_of_mem ha
      rw [List.length_drop, List.length_take] at hj
      rw [List.getElem_drop, List.getElem_take]
      have h4 := srt_at hs (show f + j ≤ k by omega) hk
      have h5 := srt_at hs (show f ≤ f + j by omega) (by omega)
      rw [List.getD_eq_getElem?_getD (i := f + j), List.getElem?_eq_getElem (by omega)] at h4 h5
      have h4' : S[f + j] ≤ S.getD k 0 := h4
      have h5' : S.getD f 0 ≤ S[f + j] := h5
      unfold ovD
      rw [decide_eq_true_eq]
      omega
  rw [h2, h3, Nat.zero_add]
theorem pcP_le (n : Int) (S : List Int) : ∀ {i b : Nat}, i ≤ b → pcP n S i ≤ i * b
  | 0, _, _ => Nat.zero_le _
  | i + 1, b, h => by
    have h1 := pcP_le n S (i := i) (b := b) (by omega)
    have h2 : (S.take i).countP (ovD n (S.getD i 0)) ≤ i := Nat.le_trans List.countP_le_length (by rw [List.length_take]; omega)
    rw [pcP, Nat.add_mul]
    omega

end Go.Proofs.YtkdafkdogmemcaaDoor
