/-
  What is written is read as it, and no single byte can be changed unnoticed, as plain mathematics; no Go in sight. A taker in memory, and worlds that part in its block alone; no Go in sight. An input in memory: its bytes, and where it stands; no Go in sight. The program takes a byte of an input. The program takes a number of four bytes, of eight, of an input. What a taker takes when all is well, and when not; no Go in sight. The program takes numbers of an input: up to a most, words, numbers of eight bytes. The program takes lists of numbers of an input. An output in memory: its box and its own row of bytes; no Go in sight. The program writes numbers and texts into an output; what is written is at most 2^20 bytes. The program writes symbols, relocations and lists into an output; what is written is at most 2^20 bytes. The program takes texts, symbols and relocations of an input. The program takes lists of symbols and relocations of an input. The small functions of package object; no condition. What is asked of an object, answer by answer, as plain mathematics; no Go in sight. The zero value of the array of marks; no condition.
-/
import Derived.Test.YthpkekpojhmaaaaGreatDoorProg
import Derived.Test.YthpkekpojhmaaaaGreatDoorP01
import Derived.WalkKit
import Derived.WalkSpells
import Derived.WalkLawsBesides
import Derived.RowKit3
import Derived.Below
import Derived.Deep.QuietTactic
import Derived.BigQuiet
import Derived.WalkSmall
import Derived.Laws.Rows
import Derived.Lib.AppendStr
import Derived.Laws.BytesArg
namespace Go.Proofs.YthpkekpojhmaaaaGreatDoor
open Go.RowKit

/-- What is left from where t stands. -/
def Rem (b : List Int) (t : Tk) (r : List Int) : Prop := t.bad = 0 ∧ t.pos ≤ b.length ∧ b.drop t.pos = r
theorem Rem.len {b : List Int} {t : Tk} {r : List Int} (h : Rem b t r) : b.length = t.pos + r.length := by
  have := congrArg List.length h.2.2
  rw [List.length_drop] at this
  have := h.2.1
  omega
theorem Rem.on {b : List Int} {t : Tk} {e r : List Int} (h : Rem b t (e ++ r)) (p : Int) : Rem b ⟨t.pos + e.length, 0, p⟩ r := by
  have hl := h.len
  rw [List.length_append] at hl
  refine ⟨rfl, by simp only; omega, ?_⟩
  simp only
  rw [← List.drop_drop, h.2.2]
  exact List.drop_left
theorem tHas_yes {N : Nat} {t : Tk} {n : Int} (h : n ≤ (N : Int) - t.pos) : tHas N t n = t := by
  unfold tHas
  rw [if_neg (by omega)]
theorem four_rem {b : List Int} {t : Tk} {r : List Int} {n : Int} (h0 : 0 ≤ n) (h1 : n < 4294967296) (h : Rem b t (be4 n ++ r)) : tFour b t = (n, ⟨t.pos + 4, 0, t.place⟩) ∧ Rem b (tFour b t).2 r := by
  have hl := h.len
  rw [List.length_append, be4_len] at hl
  have e : tFour b t = (n, ⟨t.pos + 4, 0, t.place⟩) := by
    unfold tFour
    rw [tHas_yes (by omega), if_pos h.1, h.2.2, v4_be4]
    rw [Int.emod_eq_of_lt h0 h1]
  refine ⟨e, ?_⟩
  rw [e]
  exact h.on t.place
theorem eight_rem {b : List Int} {t : Tk} {r : List Int} {n : Int} (h0 : -9223372036854775808 ≤ n) (h1 : n < 9223372036854775808) (h : Rem b t (be8 n ++ r)) : (tEight b t).1 = n ∧ Rem b (tEight b t).2 r := by
  have hl := h.len
  rw [List.length_append, be8_len] at hl
  have e : tEight b t = (n, ⟨t.pos + 8, 0, t.place⟩) := by
    unfold tEight
    rw [tHas_yes (by omega), if_pos h.1, h.2.2, v8_be8 n r h0 h1]
  rw [e]
  exact ⟨rfl, h.on t.place⟩
theorem count_rem {b : List Int} {t : Tk} {r : List Int} {n m : Int} (h0 : 0 ≤ n) (h1 : n ≤ m) (hm : m < 4294967296) (h : Rem b t (be4 n ++ r)) : (tCount b m t).1 = n ∧ Rem b (tCount b m t).2 r := by
  obtain ⟨e, k⟩ := four_rem h0 (by omega) h
  have c : tCount b m t = tFour b t := by
    unfold tCount
    rw [if_pos k.1, if_neg (by rw [e]; simp only; omega)]
  rw [c]
  exact ⟨by rw [e], k⟩
theorem strOf_back (s : ByteArray) : strOf (strB s) = s := by
  unfold strOf strB
  apply ByteArray.ext
  simp only [List.map_map]
  apply Array.ext'
  simp only []
  have : (s.data.toList.map ((fun x : Int => UInt8.ofNat x.toNat) ∘ fun c : UInt8 => (c.toNat : Int))) = s.data.toList.map id := by
    apply List.map_congr_left
    intro c _
    simp
  rw [this]; simp
theorem strB_len (s : ByteArray) : (strB s).length = s.size := by
  unfold strB
  rw [List.length_map, Array.length_toList]
  rfl
theorem name_rem {b : List Int} {t : Tk} {r : List Int} {s : ByteArray} (hs : s.size ≤ 24) (h : Rem b t (textB s ++ r)) : (tName b t).1 = s ∧ Rem b (tName b t).2 r := by
  unfold textB at h
  rw [List.append_assoc] at h
  obtain ⟨e, k⟩ := count_rem (m := 24) (by omega) (by omega) (by omega) h
  have hl := k.len
  rw [List.length_append, strB_len] at hl
  have hh : tHas b.length (tCount b 24 t).2 (tCount b 24 t).1 = (tCount b 24 t).2 := tHas_yes (by rw [e]; omega)
  have hn : (tCount b 24 t).1.toNat = s.size := by rw [e]; omega
  have q : tName b t = (s, ⟨(tCount b 24 t).2.pos + (strB s).length, 0, (tCount b 24 t).2.place⟩) := by
    unfold tName
    rw [hh, if_pos k.1, hn, k.2.2, List.take_left' (strB_len s), strOf_back, strB_len]
  rw [q]
  exact ⟨rfl, k.on _⟩
theorem list_rem {α : Type} {b : List Int} {f : Tk → α × Tk} {enc : α → List Int} {P : α → Prop} (hf : ∀ (t : Tk) (x : α) (r : List Int), P x → Rem b t (enc x ++ r) → (f t).1 = x ∧ Rem b (f t).2 r) :
    ∀ (l : List α) (t : Tk) (r : List Int), (∀ x ∈ l, P x) → Rem b t (l.flatMap enc ++ r) → (tList f l.length t).1 = l ∧ Rem b (tList f l.length t).2 r
  | [], t, r, _, h => ⟨rfl, h⟩
  | x :: l, t, r, hp, h => by
    rw [List.flatMap_cons, List.append_assoc] at h
    obtain ⟨e, k⟩ := hf t x _ (hp x (List.mem_cons_self ..)) h
    obtain ⟨e2, k2⟩ := list_rem hf l _ r (fun y hy => hp y (List.mem_cons_of_mem _ hy)) k
    rw [List.length_cons, tList, if_pos h.1]
    exact ⟨by rw [e, e2], k2⟩
theorem sym_rem {b : List Int} (t : Tk) (x : Sym) (r : List Int) (hx : SymFit x) (h : Rem b t (symB x ++ r)) : (tSym b t).1 = x ∧ Rem b (tSym b t).2 r := by
  obtain ⟨p1, p2, p3, p4, p5⟩ := hx
  unfold great at p5
  unfold symB at h
  rw [List.append_assoc, List.append_assoc] at h
  obtain ⟨e1, k1⟩ := name_rem p1 h
  obtain ⟨e2, k2⟩ := count_rem (m := 3) p2 p3 (by omega) k1
  obtain ⟨e3, k3⟩ := count_rem (m := great) p4 p5 (by unfold great; omega) k2
  unfold tSym
  exact ⟨by rw [e1, e2, e3], k3⟩
theorem rel_rem {b : List Int} (t : Tk) (x : Rel) (r : List Int) (hx : RelFit x) (h : Rem b t (relB x ++ r)) : (tRel b t).1 = x ∧ Rem b (tRel b t).2 r := by
  obtain ⟨p1, p2, p3, p4⟩ := hx
  unfold great at p2 p4
  unfold relB at h
  rw [List.append_assoc] at h
  obtain ⟨e1, k1⟩ := count_rem (m := great) p1 p2 (by unfold great; omega) h
  obtain ⟨e2, k2⟩ := count_rem (m := great) p3 p4 (by unfold great; omega) k1
  unfold tRel
  exact ⟨by rw [e1, e2], k2⟩
theorem begin_rem (r : List Int) : Rem ([80, 76, 79, 49] ++ r) (tBegin ([80, 76, 79, 49] ++ r) [80, 76, 79, 49]) r := by
  have h : tBegin ([80, 76, 79, 49] ++ r) [80, 76, 79, 49] = ⟨4, 0, 0⟩ := by
    unfold tBegin
    have : (List.range ([80, 76, 79, 49] : List Int).length).find? (fun i => decide (([80, 76, 79, 49] ++ r).length ≤ i) || nth ([80, 76, 79, 49] ++ r) i != nth [80, 76, 79, 49] i) = none := by
      rw [List.find?_eq_none]
      intro i hi
      have hi' : i < 4 := by simpa using hi
      have hq : i = 0 ∨ i = 1 ∨ i = 2 ∨ i = 3 := by omega
      rcases hq with rfl | rfl | rfl | rfl <;> simp [nth]
    rw [this]; rfl
  rw [h]
  exact ⟨rfl, by simp, rfl⟩
theorem sum_range (l : List Int) : 0 ≤ sumB l ∧ sumB l < 4294967296 := by
  unfold sumB
  rcases List.eq_nil_or_concat l with rfl | ⟨q, x, rfl⟩
  · simp
  · simp only [List.concat_eq_append, List.foldl_append, List.foldl_cons, List.foldl_nil]
    omega
/-- What is written is read as it. -/
theorem took_read {nm : ByteArray} {code : List Int} {dA : Int} {data : List Int} {ss : List Sym} {rs : List Rel} (h1 : nm.size ≤ 24) (h2 : code.length ≤ 16384) (h3 : ∀ x ∈ code, 0 ≤ x ∧ x < 4294967296) (h4 : 0 ≤ dA ∧ dA ≤ great)
    (h5 : data.length ≤ 4096) (h6 : ∀ x ∈ data, -9223372036854775808 ≤ x ∧ x < 9223372036854775808) (h7 : ss.length ≤ 256) (h8 : ∀ x ∈ ss, SymFit x) (h9 : rs.length ≤ code.length) (h10 : ∀ x ∈ rs, RelFit x) :
    (took (bytesB nm code dA data ss rs)).nm = nm ∧ (took (bytesB nm code dA data ss rs)).code = code ∧ (took (bytesB nm code dA data ss rs)).dA = dA ∧ (took (bytesB nm code dA data ss rs)).data = data ∧ (took (bytesB nm code dA data ss rs)).ss = ss ∧ (took (bytesB nm code dA data ss rs)).rs = rs ∧ (took (bytesB nm code dA data ss rs)).t.bad = 0 := by
  have h4' := h4.2
  unfold great at h4'
  have hb : bytesB nm code dA data ss rs = [80, 76, 79, 49] ++ (textB nm ++ (be4 code.length ++ (code.flatMap be4 ++ (be4 dA ++ (be4 data.length ++ (data.flatMap be8 ++ (be4 ss.length ++ (ss.flatMap symB ++ (be4 rs.length ++ (rs.flatMap relB ++ (be4 (sumB (bodyB nm code dA data ss rs)) ++ []))))))))))) := by
    unfold bytesB
    rw [List.append_nil]
    conv => lhs; lhs; unfold bodyB
    simp only [List.append_assoc]
  have hs := sum_range (bodyB nm code dA data ss rs)
  have hlen : (bytesB nm code dA data ss rs).length = (bodyB nm code dA data ss rs).length + 4 := by unfold bytesB; rw [List.length_append, be4_len]
  have htk : (bytesB nm code dA data ss rs).take (bodyB nm code dA data ss rs).length = bodyB nm code dA data ss rs := by unfold bytesB; exact List.take_left
  generalize bytesB nm code dA data ss rs = b at hb hlen htk ⊢
  generalize bodyB nm code dA data ss rs = q at hb hlen htk hs
  have k0 := begin_rem (textB nm ++ (be4 code.length ++ (code.flatMap be4 ++ (be4 dA ++ (be4 data.length ++ (data.flatMap be8 ++ (be4 ss.length ++ (ss.flatMap symB ++ (be4 rs.length ++ (rs.flatMap relB ++ (be4 (sumB q) ++ [])))))))))))
  rw [← hb] at k0
  obtain ⟨e1, k1⟩ := name_rem h1 k0
  obtain ⟨e2, k2⟩ := count_rem (m := 16384) (by omega) (by omega) (by omega) k1
  obtain ⟨e3, k3⟩ := list_rem (P := fun x => 0 ≤ x ∧ x < 4294967296) (fun t x r hx h => ⟨by rw [(four_rem hx.1 hx.2 h).1], (four_rem hx.1 hx.2 h).2⟩) code _ _ h3 k2
  have c3 : tCode b = tList (tFour b) code.length (tCount b 16384 (tName b (tBegin b [80, 76, 79, 49])).2).2 := by unfold tCode; rw [e2]; rfl
  rw [← c3] at e3 k3
  obtain ⟨e4, k4⟩ := count_rem (m := great) h4.1 h4.2 (by unfold great; omega) k3
  obtain ⟨e5, k5⟩ := count_rem (m := 4096) (by omega) (by omega) (by omega) k4
  obtain ⟨e6, k6⟩ := list_rem (P := fun x => -9223372036854775808 ≤ x ∧ x < 9223372036854775808) (fun t x r hx h => eight_rem hx.1 hx.2 h) data _ _ h6 k5
  have c6 : tData b = tList (tEight b) data.length (tCount b 4096 (tDat b).2).2 := by unfold tData; rw [show tDat b = tCount b great (tCode b).2 from rfl, e5]; rfl
  rw [show tCount b great (tCode b).2 = tDat b from rfl, ← c6] at e6 k6
  obtain ⟨e7, k7⟩ := count_rem (m := 256) (by omega) (by omega) (by omega) k6
  obtain ⟨e8, k8⟩ := list_rem (P := SymFit) sym_rem ss _ _ h8 k7
  have c8 : tSyms b = tList (tSym b) ss.length (tCount b 256 (tData b).2).2 := by unfold tSyms; rw [e7]; rfl
  rw [← c8] at e8 k8
  obtain ⟨e9, k9⟩ := count_rem (m := (tCode b).1.length) (by omega) (by rw [e3]; omega) (by rw [e3]; omega) k8
  obtain ⟨e10, k10⟩ := list_rem (P := RelFit) rel_rem rs _ _ h10 k9
  have c10 : tRels b = tList (tRel b) rs.length (tCount b (tCode b).1.length (tSyms b).2).2 := by unfold tRels; rw [e9]; rfl
  rw [← c10] at e10 k10
  obtain ⟨e11, k11⟩ := four_rem hs.1 hs.2 k10
  refine ⟨e1, e3, e4, e6, e8, e10, ?_⟩
  show (tEnd b (tRels b).2).bad = 0
  have hl := k10.len
  rw [List.length_append, be4_len, List.length_nil] at hl
  have hp : (tRels b).2.pos = q.length := by omega
  unfold tEnd
  rw [if_pos k11.1, if_neg (by omega), if_pos (by rw [e11, hp, htk])]
  exact k11.1
/-- A sum tells its last state: two states that part stay apart. -/
theorem step_apart {s s' : Int} (h0 : 0 ≤ s ∧ s < 4294967296) (h1 : 0 ≤ s' ∧ s' < 4294967296) (hn : ¬ s = s') : ∀ (l : List Int), ¬ l.foldl (fun s b => (31 * s + b) % 4294967296) s = l.foldl (fun s b => (31 * s + b) % 4294967296) s'
  | [] => hn
  | x :: l => by
    simp only [List.foldl_cons]
    exact step_apart (by omega) (by omega) (by omega) l
theorem sum_apart {p q : List Int} {x y : Int} (hx : 0 ≤ x ∧ x < 256) (hy : 0 ≤ y ∧ y < 256) (hn : ¬ x = y) : ¬ sumB (p ++ x :: q) = sumB (p ++ y :: q) := by
  unfold sumB
  simp only [List.foldl_append, List.foldl_cons]
  exact step_apart (by omega) (by omega) (by omega) q
theorem set_parts {l : List Int} {i : Nat} (h : i < l.length) (y : Int) : l = l.take i ++ l.getD i 0 :: l.drop (i + 1) ∧ l.set i y = l.take i ++ y :: l.drop (i + 1) := by
  constructor
  · have e : l.drop i = l.getD i 0 :: l.drop (i + 1) := by rw [List.drop_eq_getElem_cons h]; simp [List.getD, h]
    rw [← e, List.take_append_drop]
  · rw [List.set_eq_take_append_cons_drop, if_pos h]
/-- Bytes that end with their sum do not with one byte otherwise. -/
theorem one_byte {b c p q : List Int} {i : Nat} {y : Int} (hb : b = p ++ be4 (sumB p)) (hc : c = q ++ be4 (sumB q)) (hB : AreB b) (hi : i < b.length) (hy : 0 ≤ y ∧ y < 256) (hn : ¬ b.getD i 0 = y) (hs : c = b.set i y) : False := by
  have hl : p.length = q.length := by
    have h1 := congrArg List.length hb
    have h2 := congrArg List.length hc
    rw [hs, List.length_set] at h2
    rw [List.length_append, be4_len] at h1 h2
    omega
  have hbl : b.length = p.length + 4 := by rw [hb, List.length_append, be4_len]
  have hx : 0 ≤ b.getD i 0 ∧ b.getD i 0 < 256 := hB _ (by simp [List.getD, hi])
  obtain ⟨e1, e2⟩ := set_parts hi y
  have tp : b.take p.length = p := by rw [hb]; exact List.take_left
  have tq : c.take p.length = q := by rw [hc, hl]; exact List.take_left
  have dp : b.drop p.length = be4 (sumB p) := by rw [hb]; exact List.drop_left
  have dq : c.drop p.length = be4 (sumB q) := by rw [hc, hl]; exact List.drop_left
  by_cases hip : i < p.length
  · have hd : c.drop p.length = b.drop p.length := by rw [hs, List.drop_set_of_lt hip]
    rw [dp, dq] at hd
    have hv := congrArg (fun l => v4 (l ++ [])) hd
    simp only [v4_be4] at hv
    have r1 := sum_range p
    have r2 := sum_range q
    rw [Int.emod_eq_of_lt r2.1 r2.2, Int.emod_eq_of_lt r1.1 r1.2] at hv
    have gp : p.getD i 0 = b.getD i 0 := by rw [hb, List.getD, List.getD, List.getElem?_append_left hip]
    have qs : q = p.set i y := by
      have h9 : q = (b.set i y).take p.length := by rw [← hs, tq]
      rw [h9, List.take_set, tp]
    obtain ⟨f1, f2⟩ := set_parts hip y
    rw [gp] at f1
    rw [qs, f2] at hv
    have hv' : sumB (p.take i ++ y :: p.drop (i + 1)) = sumB (p.take i ++ b.getD i 0 :: p.drop (i + 1)) := by rw [hv, ← f1]
    exact sum_apart hy hx (fun h => hn h.symm) hv'
  · have ht : c.take p.length = b.take p.length := by rw [hs, List.take_set_of_le (by omega)]
    rw [tp, tq] at ht
    have : c = b := by rw [hc, hb, ht]
    rw [hs] at this
    have g := congrArg (fun l => l.getD i 0) this
    simp [List.getD, hi] at g
    exact hn (by simp [List.getD, hi, g])


end Go.Proofs.YthpkekpojhmaaaaGreatDoor

namespace Go.Proofs.YthpkekpojhmaaaaGreatDoor
open Go.RowKit

theorem But.setAt {g : Nat} {a b : World} (h : But g a b) (i : Nat) (v : Value) : But g a (b.setCell ⟨g, i, none⟩ v) := h.set i v
/-- A taker: its bytes, where it stands, what is wrong. -/
def TkAt (w : World) (g : Nat) (A : Option Addr) (n c : Nat) (t : Tk) : Prop :=
  (w.cell? ⟨g, 0, none⟩ = some (.slice A n c) ∧ w.cell? ⟨g, 1, none⟩ = some (.int .i64 t.pos) ∧ w.cell? ⟨g, 2, none⟩ = some (.int .i64 t.bad) ∧ w.cell? ⟨g, 3, none⟩ = some (.int .i64 t.place)) ∧ ∀ i, w.frozen? ⟨g, i, none⟩ = false
theorem TkAt.keep {w w' : World} {g : Nat} {A : Option Addr} {n c : Nat} {t : Tk} (h : TkAt w g A n c t) (hb : Below w.heap.size w w') : TkAt w' g A n c t :=
  ⟨⟨lkeep hb h.1.1, lkeep hb h.1.2.1, lkeep hb h.1.2.2.1, lkeep hb h.1.2.2.2⟩, fun i => by
    have hl : g < w.heap.size := World.block_lt_of_cell? w ⟨g, 0, none⟩ h.1.1
    rw [hb.frozen (p := ⟨g, i, none⟩) hl]; exact h.2 i⟩
theorem TkAt.drewN {w : World} {g : Nat} {A : Option Addr} {n c : Nat} {t : Tk} (h : TkAt w g A n c t) (k : Nat) : TkAt (w.drewN k) g A n c t := h
theorem TkAt.posTo {w : World} {g : Nat} {A : Option Addr} {n c : Nat} {t : Tk} (h : TkAt w g A n c t) (p : Nat) : TkAt (w.setCell ⟨g, 1, none⟩ (.int .i64 p)) g A n c ⟨p, t.bad, t.place⟩ := by
  refine ⟨⟨?_, ?_, ?_, ?_⟩, fun i => ?_⟩
  · rw [← h.1.1]; simp [go_sem]
  · simp [go_sem, h.1.2.1]
  · rw [← h.1.2.2.1]; simp [go_sem]
  · rw [← h.1.2.2.2]; simp [go_sem]
  · rw [← h.2 i]; simp [go_sem]
theorem TkAt.wrongTo {w : World} {g : Nat} {A : Option Addr} {n c : Nat} {t : Tk} (h : TkAt w g A n c t) (e p : Int) : TkAt ((w.setCell ⟨g, 2, none⟩ (.int .i64 e)).setCell ⟨g, 3, none⟩ (.int .i64 p)) g A n c ⟨t.pos, e, p⟩ := by
  refine ⟨⟨?_, ?_, ?_, ?_⟩, fun i => ?_⟩
  · rw [← h.1.1]; simp [go_sem]
  · rw [← h.1.2.1]; simp [go_sem]
  · simp [go_sem, h.1.2.2.1]
  · simp [go_sem, h.1.2.2.2]
  · rw [← h.2 i]; simp [go_sem]


end Go.Proofs.YthpkekpojhmaaaaGreatDoor

namespace Go.Proofs.YthpkekpojhmaaaaGreatDoor
open Go.RowKit


/-- An input's box at g: the bytes b, which lie at A, and the place p. -/
structure InBy (w0 : World) (g : Nat) (A : Option Addr) (c : Nat) (b : List Int) (p : Nat) (w : World) : Prop where
  box : w.heap[g]? = some (.cells #[.slice A b.length c, .int .i64 p] 158 (0, 0))
  ints : IntsAt w0 A .u8 b
  below : Below w0.heap.size w0 w
  le : w0.heap.size ≤ g
  areB : AreB b
  len : b.length ≤ 1048576
  cap : b.length ≤ c
  pos : p ≤ b.length
theorem InBy.lt {w0 w : World} {g c p : Nat} {A : Option Addr} {b : List Int} (h : InBy w0 g A c b p w) : g < w.heap.size := (Array.getElem?_eq_some_iff.1 h.box).1
theorem InBy.cells {w0 w : World} {g c p : Nat} {A : Option Addr} {b : List Int} (h : InBy w0 g A c b p w) : w.cell? ⟨g, 0, none⟩ = some (.slice A b.length c) ∧ w.cell? ⟨g, 1, none⟩ = some (.int .i64 p) ∧ w.frozen? ⟨g, 1, none⟩ = false := by
  have e := h.box
  refine ⟨?_, ?_, ?_⟩
  · simp [World.cell?, e]
  · simp [World.cell?, e]
  · simp [World.frozen?, e]
theorem InBy.keep {w0 w w1 : World} {g c p : Nat} {A : Option Addr} {b : List Int} (h : InBy w0 g A c b p w) (hb : Below w.heap.size w w1) : InBy w0 g A c b p w1 :=
  ⟨by rw [hb.block g h.lt]; exact h.box, h.ints, h.below.trans (hb.mono h.below.size), h.le, h.areB, h.len, h.cap, h.pos⟩
theorem InBy.to {w0 w : World} {g c p : Nat} {A : Option Addr} {b : List Int} (h : InBy w0 g A c b p w) (q : Nat) (hq : q ≤ b.length) : InBy w0 g A c b q (w.setCell ⟨g, 1, none⟩ (.int .i64 q)) := by
  refine ⟨?_, h.ints, (((But.refl g w).set 1 _).below h.below h.le), h.le, h.areB, h.len, h.cap, hq⟩
  simp [World.setCell, Array.getElem?_modify, h.box]
theorem InBy.byte {w0 w : World} {g c p : Nat} {A : Option Addr} {b : List Int} (h : InBy w0 g A c b p w) (hp : p < b.length) : ∃ a : Addr, A = some a ∧ w.cell? (a.add p) = some (.int .u8 (nth b p)) ∧ 0 ≤ nth b p ∧ nth b p < 256 := by
  obtain ⟨a, e, q⟩ := (h.ints.keep h.below) p hp
  exact ⟨a, e, q, h.areB _ (by simp [nth, List.getD, hp])⟩
theorem InBy.drewN {w0 w : World} {g c p : Nat} {A : Option Addr} {b : List Int} (h : InBy w0 g A c b p w) (n : Nat) : InBy w0 g A c b p (w.drewN n) :=
  ⟨h.box, h.ints, ⟨h.below.os, h.below.tape, h.below.output, h.below.size, h.below.block⟩, h.le, h.areB, h.len, h.cap, h.pos⟩
/-- An error that tells why and where. -/
def errV (e p : Int) : Value := .iface 161 (.agg #[.int .i64 e, .int .i64 p])
/-- What a taker answers. -/
def Takes {α : Type} (w0 : World) (g : Nat) (A : Option Addr) (c : Nat) (b : List Int) (res : α × Tk) (val : α → Value) (bad : Value → Prop) (w : World) (r : Ending) (w' : World) : Prop :=
  But g w w' ∧ ((res.2.bad = 0 ∧ r = .returned (.tuple #[val res.1, .nilIface]) ∧ InBy w0 g A c b res.2.pos w') ∨ (¬ res.2.bad = 0 ∧ ∃ u, bad u ∧ r = .returned (.tuple #[u, errV res.2.bad res.2.place]) ∧ ∃ p, InBy w0 g A c b p w'))
/-- A byte taken. -/
def tByte (b : List Int) (t : Tk) : Int × Tk := if t.pos < b.length then (nth b t.pos, ⟨t.pos + 1, 0, t.place⟩) else (0, ⟨t.pos, 27, b.length⟩)
/-- The value of bytes. -/
def valB (l : List Int) : Int := l.foldl (fun a x => a * 256 + x) 0
theorem valB_snoc (l : List Int) (k : Nat) (h : k < l.length) : valB (l.take (k + 1)) = valB (l.take k) * 256 + nth l k := by
  rw [List.take_succ_eq_append_getElem h]
  unfold valB
  rw [List.foldl_append]
  simp [nth, List.getD, h]
theorem valB_range (l : List Int) (hb : AreB l) : 0 ≤ valB l ∧ valB l < 256 ^ l.length := by
  have h : ∀ (l : List Int) (a : Int), AreB l → 0 ≤ a → 0 ≤ l.foldl (fun a x => a * 256 + x) a ∧ l.foldl (fun a x => a * 256 + x) a < (a + 1) * 256 ^ l.length := by
    intro l
    induction l with
    | nil => intro a _ h0; simp; omega
    | cons x l ih =>
      intro a hb h0
      have hx := hb x (by simp)
      obtain ⟨i1, i2⟩ := ih (a * 256 + x) (fun y hy => hb y (by simp [hy])) (by omega)
      refine ⟨by simpa using i1, ?_⟩
      simp only [List.foldl_cons, List.length_cons]
      refine Int.lt_of_lt_of_le i2 ?_
      have hp : (0 : Int) ≤ 256 ^ l.length := Int.le_of_lt (Int.pow_pos (by omega))
      rw [Int.pow_succ]
      have := Int.mul_le_mul_of_nonneg_right (show a * 256 + x + 1 ≤ (a + 1) * 256 by omega) hp
      calc (a * 256 + x + 1) * 256 ^ l.length ≤ (a + 1) * 256 * 256 ^ l.length := this
        _ = (a + 1) * (256 ^ l.length * 256) := by rw [Int.mul_assoc, Int.mul_comm 256]
  have := h l 0 hb (by omega)
  unfold valB
  simpa using this
theorem nth_drop (b : List Int) (p k : Nat) : nth (b.drop p) k = nth b (p + k) := by simp [nth, List.getD]
theorem val4 {l : List Int} (h : 4 ≤ l.length) : valB (l.take 4) = v4 l := by
  obtain ⟨a, b, c, d, r, rfl⟩ := four_parts h
  simp [valB, v4]
theorem val8 {l : List Int} (h : 8 ≤ l.length) : valB (l.take 8) = v4 l * 4294967296 + v4 (l.drop 4) := by
  obtain ⟨a, b, c, d, r, rfl⟩ := four_parts (l := l) (by omega)
  obtain ⟨a2, b2, c2, d2, r2, rfl⟩ := four_parts (l := r) (by simp at h; omega)
  simp [valB, v4]
  omega
/-- What is left of a number's room. -/
def lft (n : Nat) : Int := 256 ^ n - 1
theorem lft_succ (n : Nat) : lft (n + 1) / 256 = lft n ∧ 0 < lft (n + 1) := by
  unfold lft
  have hp : (0 : Int) < 256 ^ n := Int.pow_pos (by omega)
  rw [Int.pow_succ]
  omega


end Go.Proofs.YthpkekpojhmaaaaGreatDoor

namespace Go.Proofs.YthpkekpojhmaaaaGreatDoor
open Go.RowKit


theorem next_ok (w0 : World) (g : Nat) (A : Option Addr) (c : Nat) (b : List Int) (p : Nat) (w : World) (h : InBy w0 g A c b p w) (hp : p < b.length) :
    Calls Tryz.prog 164 #[.pointer (some ⟨g, 0, none⟩)] w fun r w' => r = .returned (.tuple #[.int .u8 (nth b p), .nilIface]) ∧ InBy w0 g A c b (p + 1) w' ∧ But g w w' := by
  obtain ⟨c0, c1, f1⟩ := h.cells
  obtain ⟨a, rfl, q, hx0, hx1⟩ := h.byte hp
  have hl := h.len
  have hcap := h.cap
  have HI : Hid _ := h
  have he : ((p : Int) == (b.length : Int)) = false := by simp; omega
  clear h
  go_enter Tryz.func164, Tryz.ntmps164
  go_wp2_with fail
  go_quiet (fail)
  go_wp2_with fail
  go_quiet (fail)
  go_wp2_with fail
  go_ret2
  refine ⟨rfl, ?_, ?_⟩
  · have := (HI.out.drewN ?_).to (p + 1) (by omega)
    exact this
  · exact ((But.refl _ _).drewN _).set _ _
theorem next_end (w0 : World) (g : Nat) (A : Option Addr) (c : Nat) (b : List Int) (p : Nat) (w : World) (h : InBy w0 g A c b p w) (hp : p = b.length) :
    Calls Tryz.prog 164 #[.pointer (some ⟨g, 0, none⟩)] w fun r w' => r = .returned (.tuple #[.int .u8 0, errV 27 b.length]) ∧ InBy w0 g A c b p w' ∧ But g w w' := by
  obtain ⟨c0, c1, f1⟩ := h.cells
  have hl := h.len
  have HI : Hid _ := h
  have he : ((p : Int) == (b.length : Int)) = true := by simp; omega
  clear h
  go_enter Tryz.func164, Tryz.ntmps164
  go_wp2_with fail
  go_quiet (fail)
  go_wp2_with fail
  go_quiet (fail)
  go_wp2_with fail
  go_ret2
  subst hp
  exact ⟨rfl, (HI.out.drewN _).drewN _, ((But.refl _ _).drewN _).drewN _⟩


end Go.Proofs.YthpkekpojhmaaaaGreatDoor

namespace Go.Proofs.YthpkekpojhmaaaaGreatDoor
open Go.RowKit


/-- What taking a number of n bytes answers. -/
def TakeP (n : Nat) (kd : IntKind) (w0 : World) (g : Nat) (A : Option Addr) (c : Nat) (b : List Int) (p : Nat) (w : World) (r : Ending) (w' : World) : Prop :=
  But g w w' ∧ if p + n ≤ b.length then r = .returned (.tuple #[.int kd (valB ((b.drop p).take n)), .nilIface]) ∧ InBy w0 g A c b (p + n) w' else r = .returned (.tuple #[.int kd 0, errV 27 b.length]) ∧ InBy w0 g A c b b.length w'
theorem take_yes {n : Nat} {kd : IntKind} {w0 : World} {g : Nat} {A : Option Addr} {c : Nat} {b : List Int} {p : Nat} {w w' : World} (h : p + n ≤ b.length) (hb : But g w w') (hi : InBy w0 g A c b (p + n) w') : TakeP n kd w0 g A c b p w (.returned (.tuple #[.int kd (valB ((b.drop p).take n)), .nilIface])) w' :=
  ⟨hb, by rw [if_pos h]; exact ⟨rfl, hi⟩⟩
theorem take_no {n : Nat} {kd : IntKind} {w0 : World} {g : Nat} {A : Option Addr} {c : Nat} {b : List Int} {p : Nat} {w w' : World} (h : ¬ p + n ≤ b.length) (hb : But g w w') (hi : InBy w0 g A c b b.length w') : TakeP n kd w0 g A c b p w (.returned (.tuple #[.int kd 0, errV 27 b.length])) w' :=
  ⟨hb, by rw [if_neg h]; exact ⟨rfl, hi⟩⟩
theorem pow256 {a b : Nat} (h : a ≤ b) : (256 : Int) ^ a ≤ 256 ^ b := by
  have := Nat.pow_le_pow_right (n := 256) (by omega) h
  have e : ∀ k : Nat, (256 : Int) ^ k = ((256 ^ k : Nat) : Int) := fun k => by rw [Int.natCast_pow]; rfl
  rw [e a, e b]
  exact Int.ofNat_le.2 this
theorem or_add64 (X y q : Int) (k : Nat) (hX : X = (2 : Int) ^ k * q) (h0 : 0 ≤ q) (h1 : 0 ≤ y) (h2 : y < (2 : Int) ^ k) (h3 : X + y < 18446744073709551616) : bits .or .u64 X y = X + y := by
  have hp : (0 : Int) < (2 : Int) ^ k := Int.pow_pos (by omega)
  have hX0 : 0 ≤ X := by rw [hX]; exact Int.mul_nonneg (Int.le_of_lt hp) h0
  obtain ⟨Q, rfl⟩ := Int.eq_ofNat_of_zero_le h0
  obtain ⟨Y, rfl⟩ := Int.eq_ofNat_of_zero_le h1
  rw [u64_or X Y hX0 (by omega) (by omega) (by omega)]
  have e : X.toNat = 2 ^ k * Q := by
    rw [hX]
    have : ((2 : Int) ^ k * (Q : Int)) = ((2 ^ k * Q : Nat) : Int) := by simp
    rw [this]; exact Int.toNat_natCast _
  have hy : Y < 2 ^ k := by
    have : ((2 ^ k : Nat) : Int) = (2 : Int) ^ k := by simp
    omega
  rw [Int.toNat_natCast, e, ← Nat.two_pow_add_eq_or_of_lt hy]
  rw [hX]; simp
theorem or8 (n x : Int) (h0 : 0 ≤ n) (h1 : n < 72057594037927936) (hx0 : 0 ≤ x) (hx1 : x < 256) : bits .or .u64 (n * 256) x = n * 256 + x := or_add64 _ _ n 8 (by omega) h0 hx0 (by omega) (by omega)
theorem or4 (n x : Int) (h0 : 0 ≤ n) (h1 : n < 16777216) (hx0 : 0 ≤ x) (hx1 : x < 256) : bits .or .u32 (n * 256) x = n * 256 + x := or_add _ _ n 8 (by omega) h0 hx0 (by omega) (by omega)

set_option maxRecDepth 100000 in
set_option maxHeartbeats 1000000 in
theorem take4_raw (w0 : World) (g : Nat) (A : Option Addr) (c : Nat) (b : List Int) (p : Nat) (w : World) (h : InBy w0 g A c b p w) :
    Calls Tryz.prog 166 #[.pointer (some ⟨g, 0, none⟩)] w (TakeP 4 .u32 w0 g A c b p w) := by
  have hl := h.len
  have hA := h.areB
  have hpos := h.pos
  have HI : Hid _ := h
  clear h
  go_enter Tryz.func166, Tryz.ntmps166
  go_wp2
  go_loopw [5, 4] (fun x n wr => ∃ k : Nat, k ≤ 4 ∧ p + k ≤ b.length ∧ x = .int .u32 (lft (4 - k)) ∧ n = .int .u32 (valB ((b.drop p).take k)) ∧ InBy w0 g A c b (p + k) wr ∧ But g w wr) (fun x _ _ => (intOf x).toNat)
  case atStart => exact ⟨0, by omega, by omega, rfl, rfl, HI.out, But.refl _ _⟩
  case round =>
    obtain ⟨k, hk, hpk, rfl, rfl, hin, hbut⟩ := hrel
    have HB : Hid (But g w wr) := hbut
    clear hbut
    by_cases hk4 : k = 4
    · subst hk4
      have e0 : lft (4 - 4) = 0 := rfl
      rw [e0]
      have HH : Hid _ := hin
      clear hin
      go_wp2
      go_ret2
      exact take_yes hpk HB.out HH.out
    · obtain ⟨m, hm⟩ : ∃ m, 4 - k = m + 1 := ⟨4 - k - 1, by omega⟩
      have hd := lft_succ m
      have hm2 : 4 - (k + 1) = m := by omega
      have hr1 : lft (m + 1) ≤ lft 4 := by unfold lft; have := pow256 (show m + 1 ≤ 4 by omega); omega
      have e8 : lft 4 = 4294967295 := rfl
      rw [e8] at hr1
      rw [hm]
      have hne : (lft (m + 1) != 0) = true := by simp; omega
      have HD : Hid (lft (m + 1) / 256 = lft m) := hd.1
      have hd0 := hd.2
      clear hd e8
      generalize lft (m + 1) = L at *
      by_cases hlt : p + k < b.length
      · have hvr := valB_range ((b.drop p).take k) ((hA.drop p).take k)
        have hvl : ((b.drop p).take k).length = k := by simp; omega
        rw [hvl] at hvr
        have HV : Hid (valB ((b.drop p).take (k + 1)) = valB ((b.drop p).take k) * 256 + nth b (p + k)) := by
          show _ = _
          rw [valB_snoc _ _ (by simp; omega), nth_drop]
        obtain ⟨a, e, _, hx0, hx1⟩ := hin.byte hlt
        have hvk : valB ((b.drop p).take k) < 16777216 := Int.lt_of_lt_of_le hvr.2 (show (256 : Int) ^ k ≤ 256 ^ (4 - 1) from pow256 (by omega))
        have hv0 := hvr.1
        have C := next_ok w0 g A c b (p + k) _ hin hlt
        clear hvr hvl e
        generalize nth b (p + k) = x at *
        generalize valB ((b.drop p).take k) = n at *
        have hor := or4 n x hv0 hvk hx0 hx1
        go_wp2_with (go_at_call 164; refine C.mono ?_; rintro e w1 ⟨rfl, hin1, hb1⟩)
        exact ⟨⟨k + 1, by omega, by omega, by rw [HD.out, hm2], by rw [HV.out], hin1, HB.out.trans hb1⟩, by simp [intOf]; omega⟩
      · have C := next_end w0 g A c b (p + k) _ hin (by omega)
        unfold errV at C
        go_wp2_with (go_at_call 164; refine C.mono ?_; rintro e w1 ⟨rfl, hin1, hb1⟩)
        have hpe : p + k = b.length := by omega
        rw [hpe] at hin1
        go_ret2
        exact take_no (by omega) (HB.out.trans hb1) hin1

set_option maxRecDepth 100000 in
set_option maxHeartbeats 1000000 in
theorem take8_raw (w0 : World) (g : Nat) (A : Option Addr) (c : Nat) (b : List Int) (p : Nat) (w : World) (h : InBy w0 g A c b p w) :
    Calls Tryz.prog 167 #[.pointer (some ⟨g, 0, none⟩)] w (TakeP 8 .u64 w0 g A c b p w) := by
  have hl := h.len
  have hA := h.areB
  have hpos := h.pos
  have HI : Hid _ := h
  clear h
  go_enter Tryz.func167, Tryz.ntmps167
  go_wp2
  go_loopw [5, 4] (fun x n wr => ∃ k : Nat, k ≤ 8 ∧ p + k ≤ b.length ∧ x = .int .u64 (lft (8 - k)) ∧ n = .int .u64 (valB ((b.drop p).take k)) ∧ InBy w0 g A c b (p + k) wr ∧ But g w wr) (fun x _ _ => (intOf x).toNat)
  case atStart => exact ⟨0, by omega, by omega, rfl, rfl, HI.out, But.refl _ _⟩
  case round =>
    obtain ⟨k, hk, hpk, rfl, rfl, hin, hbut⟩ := hrel
    have HB : Hid (But g w wr) := hbut
    clear hbut
    by_cases hk4 : k = 8
    · subst hk4
      have e0 : lft (8 - 8) = 0 := rfl
      rw [e0]
      have HH : Hid _ := hin
      clear hin
      go_wp2
      go_ret2
      exact take_yes hpk HB.out HH.out
    · obtain ⟨m, hm⟩ : ∃ m, 8 - k = m + 1 := ⟨8 - k - 1, by omega⟩
      have hd := lft_succ m
      have hm2 : 8 - (k + 1) = m := by omega
      have hr1 : lft (m + 1) ≤ lft 8 := by unfold lft; have := pow256 (show m + 1 ≤ 8 by omega); omega
      have e8 : lft 8 = 18446744073709551615 := rfl
      rw [e8] at hr1
      rw [hm]
      have hne : (lft (m + 1) != 0) = true := by simp; omega
      have HD : Hid (lft (m + 1) / 256 = lft m) := hd.1
      have hd0 := hd.2
      clear hd e8
      generalize lft (m + 1) = L at *
      by_cases hlt : p + k < b.length
      · have hvr := valB_range ((b.drop p).take k) ((hA.drop p).take k)
        have hvl : ((b.drop p).take k).length = k := by simp; omega
        rw [hvl] at hvr
        have HV : Hid (valB ((b.drop p).take (k + 1)) = valB ((b.drop p).take k) * 256 + nth b (p + k)) := by
          show _ = _
          rw [valB_snoc _ _ (by simp; omega), nth_drop]
        obtain ⟨a, e, _, hx0, hx1⟩ := hin.byte hlt
        have hvk : valB ((b.drop p).take k) < 72057594037927936 := Int.lt_of_lt_of_le hvr.2 (show (256 : Int) ^ k ≤ 256 ^ (8 - 1) from pow256 (by omega))
        have hv0 := hvr.1
        have C := next_ok w0 g A c b (p + k) _ hin hlt
        clear hvr hvl e
        generalize nth b (p + k) = x at *
        generalize valB ((b.drop p).take k) = n at *
        have hor := or8 n x hv0 hvk hx0 hx1
        go_wp2_with (go_at_call 164; refine C.mono ?_; rintro e w1 ⟨rfl, hin1, hb1⟩)
        exact ⟨⟨k + 1, by omega, by omega, by rw [HD.out, hm2], by rw [HV.out], hin1, HB.out.trans hb1⟩, by simp [intOf]; omega⟩
      · have C := next_end w0 g A c b (p + k) _ hin (by omega)
        unfold errV at C
        go_wp2_with (go_at_call 164; refine C.mono ?_; rintro e w1 ⟨rfl, hin1, hb1⟩)
        have hpe : p + k = b.length := by omega
        rw [hpe] at hin1
        go_ret2
        exact take_no (by omega) (HB.out.trans hb1) hin1


end Go.Proofs.YthpkekpojhmaaaaGreatDoor

namespace Go.Proofs.YthpkekpojhmaaaaGreatDoor
open Go.RowKit


theorem four_yes {b : List Int} {p : Nat} (h : p + 4 ≤ b.length) : tFour b ⟨p, 0, 0⟩ = (v4 (b.drop p), ⟨p + 4, 0, 0⟩) := by
  unfold tFour
  rw [tHas_yes (by simp; omega)]
  rfl
theorem four_no {b : List Int} {p : Nat} (h : ¬ p + 4 ≤ b.length) : tFour b ⟨p, 0, 0⟩ = (0, ⟨p, 27, b.length⟩) := by
  unfold tFour
  have e : tHas b.length ⟨p, 0, 0⟩ 4 = ⟨p, 27, b.length⟩ := by unfold tHas; rw [if_pos ⟨rfl, by simp; omega⟩]
  rw [e]
  rfl
theorem eight_yes {b : List Int} {p : Nat} (h : p + 8 ≤ b.length) : tEight b ⟨p, 0, 0⟩ = (v8 (b.drop p), ⟨p + 8, 0, 0⟩) := by
  unfold tEight
  rw [tHas_yes (by simp; omega)]
  rfl
theorem eight_no {b : List Int} {p : Nat} (h : ¬ p + 8 ≤ b.length) : tEight b ⟨p, 0, 0⟩ = (0, ⟨p, 27, b.length⟩) := by
  unfold tEight
  have e : tHas b.length ⟨p, 0, 0⟩ 8 = ⟨p, 27, b.length⟩ := by unfold tHas; rw [if_pos ⟨rfl, by simp; omega⟩]
  rw [e]
  rfl
theorem count_no {b : List Int} {p : Nat} {m : Int} (h : ¬ p + 4 ≤ b.length) : tCount b m ⟨p, 0, 0⟩ = (0, ⟨p, 27, b.length⟩) := by
  unfold tCount
  rw [four_no h]
  rfl
theorem count_much {b : List Int} {p : Nat} {m : Int} (h : p + 4 ≤ b.length) (hm : m < v4 (b.drop p)) : tCount b m ⟨p, 0, 0⟩ = (0, ⟨p + 4, 27, p⟩) := by
  unfold tCount
  rw [four_yes h, if_pos rfl, if_pos hm]
theorem count_yes {b : List Int} {p : Nat} {m : Int} (h : p + 4 ≤ b.length) (hm : ¬ m < v4 (b.drop p)) : tCount b m ⟨p, 0, 0⟩ = (v4 (b.drop p), ⟨p + 4, 0, 0⟩) := by
  unfold tCount
  rw [four_yes h, if_pos rfl, if_neg hm]
/-- A taker that, all well, tells no place. -/
def Plain {α : Type} (f : Tk → α × Tk) : Prop := ∀ p, (f ⟨p, 0, 0⟩).2.bad = 0 → (f ⟨p, 0, 0⟩).2.place = 0
theorem plain_tk {α : Type} {f : Tk → α × Tk} (hf : Plain f) {p : Nat} (h : (f ⟨p, 0, 0⟩).2.bad = 0) : (f ⟨p, 0, 0⟩).2 = ⟨(f ⟨p, 0, 0⟩).2.pos, 0, 0⟩ := by
  have h2 := hf p h
  cases e : (f ⟨p, 0, 0⟩).2
  rw [e] at h h2
  simp only at h h2
  subst h h2
  rfl
theorem plain_four (b : List Int) : Plain (tFour b) := fun p h => by
  by_cases hp : p + 4 ≤ b.length
  · rw [four_yes hp]
  · rw [four_no hp] at h; cases h
theorem plain_eight (b : List Int) : Plain (tEight b) := fun p h => by
  by_cases hp : p + 8 ≤ b.length
  · rw [eight_yes hp]
  · rw [eight_no hp] at h; cases h
theorem plain_count (b : List Int) (m : Int) : Plain (tCount b m) := fun p h => by
  by_cases hp : p + 4 ≤ b.length
  · by_cases hm : m < v4 (b.drop p)
    · rw [count_much hp hm] at h; cases h
    · rw [count_yes hp hm]
  · rw [count_no hp] at h; cases h
theorem plain_byte (b : List Int) : Plain (tByte b) := fun p h => by
  unfold tByte at h ⊢
  split at h
  · next hp => rw [if_pos hp]
  · cases h
theorem list_bad {α : Type} (f : Tk → α × Tk) (n : Nat) (t : Tk) (h : ¬ t.bad = 0) : tList f n t = ([], t) := by
  cases n with
  | zero => rfl
  | succ n => rw [tList, if_neg h]
theorem list_step {α : Type} (f : Tk → α × Tk) (n : Nat) (t : Tk) (h : t.bad = 0) : tList f (n + 1) t = ((f t).1 :: (tList f n (f t).2).1, (tList f n (f t).2).2) := by rw [tList, if_pos h]
/-- How far a list has been taken: k items, and what is left. -/
def Far {α : Type} (f : Tk → α × Tk) (n : Nat) (t : Tk) (k : Nat) (done : List α) (q : Nat) : Prop :=
  done.length = k ∧ k ≤ n ∧ tList f n t = (done ++ (tList f (n - k) ⟨q, 0, 0⟩).1, (tList f (n - k) ⟨q, 0, 0⟩).2)
theorem far_start {α : Type} (f : Tk → α × Tk) (n p : Nat) : Far f n ⟨p, 0, 0⟩ 0 [] p := ⟨rfl, Nat.zero_le _, rfl⟩
theorem far_next {α : Type} {f : Tk → α × Tk} (hf : Plain f) {n k q : Nat} {t : Tk} {done : List α} (h : Far f n t k done q) (hk : k < n) (hg : (f ⟨q, 0, 0⟩).2.bad = 0) : Far f n t (k + 1) (done ++ [(f ⟨q, 0, 0⟩).1]) (f ⟨q, 0, 0⟩).2.pos := by
  obtain ⟨h1, h2, h3⟩ := h
  refine ⟨by simp [h1], hk, ?_⟩
  rw [h3, show n - k = (n - (k + 1)) + 1 by omega, list_step _ _ _ rfl, ← plain_tk hf hg, List.append_assoc]
  rfl
theorem far_bad {α : Type} {f : Tk → α × Tk} {n k q : Nat} {t : Tk} {done : List α} (h : Far f n t k done q) (hk : k < n) (hg : ¬ (f ⟨q, 0, 0⟩).2.bad = 0) : (tList f n t).2 = (f ⟨q, 0, 0⟩).2 := by
  obtain ⟨h1, h2, h3⟩ := h
  rw [h3, show n - k = (n - (k + 1)) + 1 by omega, list_step _ _ _ rfl, list_bad _ _ _ hg]
theorem far_end {α : Type} {f : Tk → α × Tk} {n q : Nat} {t : Tk} {done : List α} (h : Far f n t n done q) : tList f n t = (done, ⟨q, 0, 0⟩) := by
  obtain ⟨h1, h2, h3⟩ := h
  rw [h3, Nat.sub_self]
  simp [tList]
/-- How many there are, and each of them. -/
def tAll {α : Type} (b : List Int) (m : Int) (f : Tk → α × Tk) (t : Tk) : List α × Tk := tList f (tCount b m t).1.toNat (tCount b m t).2
theorem all_bad {α : Type} {b : List Int} {m : Int} {f : Tk → α × Tk} {t : Tk} (h : ¬ (tCount b m t).2.bad = 0) : (tAll b m f t).2 = (tCount b m t).2 := by
  unfold tAll
  rw [list_bad _ _ _ h]
theorem plain_list {α : Type} {f : Tk → α × Tk} (hf : Plain f) (n : Nat) : Plain (tList f n) := fun p => by
  induction n generalizing p with
  | zero => intro _; rfl
  | succ n ih =>
    intro h
    rw [list_step _ _ _ rfl] at h ⊢
    by_cases hg : (f ⟨p, 0, 0⟩).2.bad = 0
    · rw [plain_tk hf hg] at h ⊢
      exact ih _ h
    · rw [list_bad _ _ _ hg] at h
      exact absurd h hg
theorem plain_all {α : Type} {f : Tk → α × Tk} (hf : Plain f) (b : List Int) (m : Int) : Plain (tAll b m f) := fun p h => by
  unfold tAll at h ⊢
  by_cases hg : (tCount b m ⟨p, 0, 0⟩).2.bad = 0
  · have e := plain_tk (plain_count b m) hg
    rw [e] at h ⊢
    exact plain_list hf _ _ h
  · rw [list_bad _ _ _ hg] at h
    exact absurd h hg
theorem count_range {b : List Int} {m : Int} {p : Nat} (hb : AreB b) (h : (tCount b m ⟨p, 0, 0⟩).2.bad = 0) : 0 ≤ (tCount b m ⟨p, 0, 0⟩).1 ∧ (tCount b m ⟨p, 0, 0⟩).1 ≤ m := (tCount_ok hb h).2
/-- Bytes, one by one. -/
theorem bytes_all (b : List Int) : ∀ (n q : Nat), q ≤ b.length → (q + n ≤ b.length → tList (tByte b) n ⟨q, 0, 0⟩ = ((b.drop q).take n, ⟨q + n, 0, 0⟩)) ∧ (¬ q + n ≤ b.length → (tList (tByte b) n ⟨q, 0, 0⟩).2 = ⟨b.length, 27, b.length⟩) := by
  intro n
  induction n with
  | zero => intro q hq; exact ⟨fun _ => by simp [tList], fun h => absurd hq h⟩
  | succ n ih =>
    intro q hq
    rw [list_step _ _ _ rfl]
    by_cases hlt : q < b.length
    · have e : tByte b ⟨q, 0, 0⟩ = (nth b q, ⟨q + 1, 0, 0⟩) := by unfold tByte; rw [if_pos hlt]
      rw [e]
      obtain ⟨i1, i2⟩ := ih (q + 1) hlt
      refine ⟨fun h => ?_, fun h => ?_⟩
      · rw [i1 (by omega)]
        have ed : b.drop q = nth b q :: b.drop (q + 1) := by rw [List.drop_eq_getElem_cons hlt]; simp [nth, List.getD, hlt]
        rw [ed, List.take_succ_cons, show q + 1 + n = q + (n + 1) by omega]
      · exact i2 (by omega)
    · have e : tByte b ⟨q, 0, 0⟩ = (0, ⟨q, 27, b.length⟩) := by unfold tByte; rw [if_neg hlt]
      rw [e]
      refine ⟨fun h => by omega, fun h => ?_⟩
      rw [list_bad _ _ _ (by simp)]
      rw [show q = b.length by omega]
theorem has_stick {N : Nat} {t : Tk} {n : Int} (h : ¬ t.bad = 0) : tHas N t n = t := by unfold tHas; rw [if_neg (fun k => h k.1)]
theorem four_stick {b : List Int} {t : Tk} (h : ¬ t.bad = 0) : tFour b t = (0, t) := by unfold tFour; rw [has_stick h, if_neg h]
theorem count_stick {b : List Int} {m : Int} {t : Tk} (h : ¬ t.bad = 0) : tCount b m t = (0, t) := by unfold tCount; rw [four_stick h, if_neg h]
theorem name_stick {b : List Int} {t : Tk} (h : ¬ t.bad = 0) : (tName b t).2 = t := by
  unfold tName
  rw [count_stick h, has_stick h, if_neg h]
/-- A text is taken as its bytes are. -/
theorem name_all (b : List Int) (hb : AreB b) (p : Nat) : (tName b ⟨p, 0, 0⟩).2.bad = (tAll b 24 (tByte b) ⟨p, 0, 0⟩).2.bad ∧ (tName b ⟨p, 0, 0⟩).2.place = (tAll b 24 (tByte b) ⟨p, 0, 0⟩).2.place ∧
    ((tAll b 24 (tByte b) ⟨p, 0, 0⟩).2.bad = 0 → (tName b ⟨p, 0, 0⟩).1 = strOf (tAll b 24 (tByte b) ⟨p, 0, 0⟩).1 ∧ (tName b ⟨p, 0, 0⟩).2 = (tAll b 24 (tByte b) ⟨p, 0, 0⟩).2) := by
  by_cases hg : (tCount b 24 ⟨p, 0, 0⟩).2.bad = 0
  · obtain ⟨r0, r1⟩ := count_range hb hg
    have hp : p + 4 ≤ b.length := by
      by_cases hp : p + 4 ≤ b.length
      · exact hp
      · rw [count_no hp] at hg; cases hg
    have e := plain_tk (plain_count b 24) hg
    have e4 : (tCount b 24 ⟨p, 0, 0⟩).2.pos = p + 4 := by
      by_cases hm : 24 < v4 (b.drop p)
      · rw [count_much hp hm] at hg; cases hg
      · rw [count_yes hp hm]
    obtain ⟨i1, i2⟩ := bytes_all b (tCount b 24 ⟨p, 0, 0⟩).1.toNat (p + 4) hp
    unfold tName tAll
    rw [e, e4]
    by_cases hn : p + 4 + (tCount b 24 ⟨p, 0, 0⟩).1.toNat ≤ b.length
    · rw [i1 hn, tHas_yes (by simp; omega)]
      exact ⟨rfl, rfl, fun _ => ⟨rfl, rfl⟩⟩
    · have eh : tHas b.length ⟨p + 4, 0, 0⟩ (tCount b 24 ⟨p, 0, 0⟩).1 = ⟨p + 4, 27, b.length⟩ := by unfold tHas; rw [if_pos ⟨rfl, by simp; omega⟩]
      rw [eh, i2 hn]
      exact ⟨rfl, rfl, fun h => by cases h⟩
  · unfold tName tAll
    rw [has_stick hg, list_bad _ _ _ hg, if_neg hg]
    exact ⟨rfl, rfl, fun h => absurd h hg⟩
theorem plain_name (b : List Int) (hb : AreB b) : Plain (tName b) := fun p h => by
  obtain ⟨h1, h2, h3⟩ := name_all b hb p
  rw [h2]
  exact plain_all (plain_byte b) b 24 p (h1 ▸ h)


end Go.Proofs.YthpkekpojhmaaaaGreatDoor

namespace Go.Proofs.YthpkekpojhmaaaaGreatDoor
open Go.RowKit


theorem takes_yes {α : Type} {w0 : World} {g : Nat} {A : Option Addr} {c : Nat} {b : List Int} {res : α × Tk} {val : α → Value} {bad : Value → Prop} {w w' : World} {v : Value} (hb : But g w w') (h : res.2.bad = 0) (hv : v = val res.1) (hi : InBy w0 g A c b res.2.pos w') : Takes w0 g A c b res val bad w (.returned (.tuple #[v, .nilIface])) w' :=
  ⟨hb, Or.inl ⟨h, by rw [hv], hi⟩⟩
theorem takes_no {α : Type} {w0 : World} {g : Nat} {A : Option Addr} {c : Nat} {b : List Int} {res : α × Tk} {val : α → Value} {bad : Value → Prop} {w w' : World} {u : Value} {x y : Int} {p : Nat} (hb : But g w w') (h : ¬ res.2.bad = 0) (hu : bad u) (hx : res.2.bad = x) (hy : res.2.place = y) (hi : InBy w0 g A c b p w') : Takes w0 g A c b res val bad w (.returned (.tuple #[u, .iface 161 (.agg #[.int .i64 x, .int .i64 y])])) w' :=
  ⟨hb, Or.inr ⟨h, u, hu, by rw [hx, hy]; rfl, p, hi⟩⟩
theorem Takes.ok {α : Type} {w0 : World} {g : Nat} {A : Option Addr} {c : Nat} {b : List Int} {res : α × Tk} {val : α → Value} {bad : Value → Prop} {w w' : World} {r : Ending} (h : Takes w0 g A c b res val bad w r w') (e : res.2.bad = 0) : r = .returned (.tuple #[val res.1, .nilIface]) ∧ InBy w0 g A c b res.2.pos w' ∧ But g w w' := by
  obtain ⟨hb, ⟨_, h1, h2⟩ | ⟨h0, _⟩⟩ := h
  · exact ⟨h1, h2, hb⟩
  · exact absurd e h0
theorem Takes.err {α : Type} {w0 : World} {g : Nat} {A : Option Addr} {c : Nat} {b : List Int} {res : α × Tk} {val : α → Value} {bad : Value → Prop} {w w' : World} {r : Ending} (h : Takes w0 g A c b res val bad w r w') (e : ¬ res.2.bad = 0) : ∃ u p, bad u ∧ r = .returned (.tuple #[u, .iface 161 (.agg #[.int .i64 res.2.bad, .int .i64 res.2.place])]) ∧ InBy w0 g A c b p w' ∧ But g w w' := by
  obtain ⟨hb, ⟨h0, _⟩ | ⟨_, u, hu, h1, p, h2⟩⟩ := h
  · exact absurd h0 e
  · exact ⟨u, p, hu, h1, h2, hb⟩
/-- A zero. -/
def IsZ (k : IntKind) (u : Value) : Prop := u = .int k 0
theorem take4_any (w0 : World) (g : Nat) (A : Option Addr) (c : Nat) (b : List Int) (p : Nat) (w : World) (h : InBy w0 g A c b p w) :
    Calls Tryz.prog 166 #[.pointer (some ⟨g, 0, none⟩)] w (Takes w0 g A c b (tFour b ⟨p, 0, 0⟩) (.int .u32) (IsZ .u32) w) := by
  refine (take4_raw w0 g A c b p w h).mono ?_
  rintro r w1 ⟨hb, h1⟩
  by_cases hp : p + 4 ≤ b.length
  · rw [if_pos hp] at h1
    obtain ⟨rfl, hi⟩ := h1
    rw [four_yes hp]
    exact takes_yes hb rfl (by rw [val4 (by simp; omega)]) hi
  · rw [if_neg hp] at h1
    obtain ⟨rfl, hi⟩ := h1
    rw [four_no hp]
    exact takes_no hb (by simp) rfl rfl rfl hi
theorem take8_any (w0 : World) (g : Nat) (A : Option Addr) (c : Nat) (b : List Int) (p : Nat) (w : World) (h : InBy w0 g A c b p w) :
    Calls Tryz.prog 167 #[.pointer (some ⟨g, 0, none⟩)] w (Takes w0 g A c b (tEight b ⟨p, 0, 0⟩) (fun n => .int .u64 (n % 18446744073709551616)) (IsZ .u64) w) := by
  refine (take8_raw w0 g A c b p w h).mono ?_
  rintro r w1 ⟨hb, h1⟩
  by_cases hp : p + 8 ≤ b.length
  · rw [if_pos hp] at h1
    obtain ⟨rfl, hi⟩ := h1
    rw [eight_yes hp]
    refine takes_yes hb rfl ?_ hi
    have hA := h.areB.drop p
    have hl : 8 ≤ (b.drop p).length := by simp; omega
    have r1 := (be4_v4 (l := b.drop p) (by omega) hA).2
    have r2 := (be4_v4 (l := (b.drop p).drop 4) (by simp; omega) (hA.drop 4)).2
    rw [val8 hl]
    show Value.int .u64 _ = Value.int .u64 (v8 (b.drop p) % 18446744073709551616)
    congr 1
    unfold v8 s64
    split <;> omega
  · rw [if_neg hp] at h1
    obtain ⟨rfl, hi⟩ := h1
    rw [eight_no hp]
    exact takes_no hb (by simp) rfl rfl rfl hi
theorem word_any (w0 : World) (g : Nat) (A : Option Addr) (c : Nat) (b : List Int) (p : Nat) (w : World) (h : InBy w0 g A c b p w) :
    Calls Tryz.prog 129 #[.pointer (some ⟨g, 0, none⟩)] w (Takes w0 g A c b (tFour b ⟨p, 0, 0⟩) (.int .u32) (IsZ .u32) w) := by
  by_cases hg : (tFour b ⟨p, 0, 0⟩).2.bad = 0
  · go_enter Tryz.func129, Tryz.ntmps129
    go_wp2_with fail
    refine (take4_any w0 g A c b p _ h).mono ?_
    intro r w1 hr
    obtain ⟨rfl, hi, hb⟩ := hr.ok hg
    have HG : Hid _ := hg
    clear hr hg
    go_wp2
    go_ret2
    exact takes_yes hb HG.out rfl hi
  · go_enter Tryz.func129, Tryz.ntmps129
    go_wp2_with fail
    refine (take4_any w0 g A c b p _ h).mono ?_
    intro r w1 hr
    obtain ⟨_, q, rfl, rfl, hi, hb⟩ := hr.err hg
    have HG : Hid _ := hg
    clear hr hg
    go_wp2
    go_ret2
    exact takes_no hb HG.out rfl rfl rfl hi
theorem data_any (w0 : World) (g : Nat) (A : Option Addr) (c : Nat) (b : List Int) (p : Nat) (w : World) (h : InBy w0 g A c b p w) :
    Calls Tryz.prog 132 #[.pointer (some ⟨g, 0, none⟩)] w (Takes w0 g A c b (tEight b ⟨p, 0, 0⟩) (.int .i64) (IsZ .i64) w) := by
  by_cases hg : (tEight b ⟨p, 0, 0⟩).2.bad = 0
  · obtain ⟨_, r1, r2⟩ := tEight_ok h.areB hg
    go_enter Tryz.func132, Tryz.ntmps132
    go_wp2_with fail
    refine (take8_any w0 g A c b p _ h).mono ?_
    intro r w1 hr
    obtain ⟨rfl, hi, hb⟩ := hr.ok hg
    have HG : Hid _ := hg
    clear hr hg
    have HV : Hid (wrap64 ((tEight b ⟨p, 0, 0⟩).1 % 18446744073709551616) = (tEight b ⟨p, 0, 0⟩).1) := by
      show _ = _
      unfold wrap64
      omega
    go_wp2
    go_ret2
    exact takes_yes hb HG.out (by show Value.int .i64 (wrap64 _) = _; rw [HV.out]) hi
  · go_enter Tryz.func132, Tryz.ntmps132
    go_wp2_with fail
    refine (take8_any w0 g A c b p _ h).mono ?_
    intro r w1 hr
    obtain ⟨_, q, rfl, rfl, hi, hb⟩ := hr.err hg
    have HG : Hid _ := hg
    clear hr hg
    go_wp2
    go_ret2
    exact takes_no hb HG.out rfl rfl rfl hi
theorem upto_any (m : Int) (hm0 : 0 ≤ m) (hm1 : m ≤ 9223372036854775807) (w0 : World) (g : Nat) (A : Option Addr) (c : Nat) (b : List Int) (p : Nat) (w : World) (h : InBy w0 g A c b p w) :
    Calls Tryz.prog 130 #[.pointer (some ⟨g, 0, none⟩), .int .i64 m] w (Takes w0 g A c b (tCount b m ⟨p, 0, 0⟩) (.int .i64) (IsZ .i64) w) := by
  obtain ⟨c0, c1, f1⟩ := h.cells
  have C := take4_any w0 g A c b p w h
  by_cases hp : p + 4 ≤ b.length
  · have r1 := (be4_v4 (l := b.drop p) (by simp; omega) (h.areB.drop p)).2
    rw [four_yes hp] at C
    by_cases hm : m < v4 (b.drop p)
    · have HM : Hid _ := count_much (m := m) hp hm
      generalize v4 (b.drop p) = x at *
      go_enter Tryz.func130, Tryz.ntmps130
      go_wp2_with fail
      refine C.mono ?_
      intro r w1 hr
      obtain ⟨rfl, hi, hb⟩ := hr.ok rfl
      clear hr
      go_wp2
      go_ret2
      rw [HM.out]
      exact takes_no hb (by simp) rfl rfl rfl hi
    · have HM : Hid _ := count_yes (m := m) hp hm
      generalize v4 (b.drop p) = x at *
      go_enter Tryz.func130, Tryz.ntmps130
      go_wp2_with fail
      refine C.mono ?_
      intro r w1 hr
      obtain ⟨rfl, hi, hb⟩ := hr.ok rfl
      clear hr
      go_wp2
      go_ret2
      rw [HM.out]
      exact takes_yes hb rfl rfl hi
  · rw [four_no hp] at C
    have HM : Hid _ := count_no (m := m) hp
    go_enter Tryz.func130, Tryz.ntmps130
    go_wp2_with fail
    refine C.mono ?_
    intro r w1 hr
    obtain ⟨_, q, rfl, rfl, hi, hb⟩ := hr.err (by simp)
    clear hr
    go_wp2
    go_ret2
    rw [HM.out]
    exact takes_no hb (by simp) rfl rfl rfl hi


end Go.Proofs.YthpkekpojhmaaaaGreatDoor

namespace Go.Proofs.YthpkekpojhmaaaaGreatDoor
open Go.RowKit


/-- What taking a list answers. -/
def TakesL {α : Type} (T : TypeId) (sz : Nat) (news : List α → List Value) (w0 : World) (g : Nat) (A : Option Addr) (c : Nat) (b : List Int) (res : List α × Tk) (w : World) (r : Ending) (w' : World) : Prop :=
  But g w w' ∧ ((res.2.bad = 0 ∧ ∃ v, r = .returned (.tuple #[v, .nilIface]) ∧ w'.ownsRow w.heap.size T sz v res.1.length (news res.1) ∧ InBy w0 g A c b res.2.pos w') ∨ (¬ res.2.bad = 0 ∧ r = .returned (.tuple #[.slice none 0 0, errV res.2.bad res.2.place]) ∧ ∃ p, InBy w0 g A c b p w'))
theorem takesL_yes {α : Type} {T : TypeId} {sz : Nat} {news : List α → List Value} {w0 : World} {g : Nat} {A : Option Addr} {c : Nat} {b : List Int} {res : List α × Tk} {w w' : World} {v : Value} {l : List α} {q : Nat} (hb : But g w w') (h : res = (l, ⟨q, 0, 0⟩)) (ho : w'.ownsRow w.heap.size T sz v l.length (news l)) (hi : InBy w0 g A c b q w') : TakesL T sz news w0 g A c b res w (.returned (.tuple #[v, .nilIface])) w' := by
  subst h
  exact ⟨hb, Or.inl ⟨rfl, v, rfl, ho, hi⟩⟩
theorem takesL_no {α : Type} {T : TypeId} {sz : Nat} {news : List α → List Value} {w0 : World} {g : Nat} {A : Option Addr} {c : Nat} {b : List Int} {res : List α × Tk} {w w' : World} {t : Tk} {p : Nat} (hb : But g w w') (e : res.2 = t) (h : ¬ t.bad = 0) (hi : InBy w0 g A c b p w') : TakesL T sz news w0 g A c b res w (.returned (.tuple #[.slice none 0 0, .iface 161 (.agg #[.int .i64 t.bad, .int .i64 t.place])])) w' := by
  subst e
  exact ⟨hb, Or.inr ⟨h, rfl, p, hi⟩⟩
theorem TakesL.ok {α : Type} {T : TypeId} {sz : Nat} {news : List α → List Value} {w0 : World} {g : Nat} {A : Option Addr} {c : Nat} {b : List Int} {res : List α × Tk} {w w' : World} {r : Ending} (h : TakesL T sz news w0 g A c b res w r w') (e : res.2.bad = 0) : ∃ v, r = .returned (.tuple #[v, .nilIface]) ∧ w'.ownsRow w.heap.size T sz v res.1.length (news res.1) ∧ InBy w0 g A c b res.2.pos w' ∧ But g w w' := by
  obtain ⟨hb, ⟨_, v, h1, h2, h3⟩ | ⟨h0, _⟩⟩ := h
  · exact ⟨v, h1, h2, h3, hb⟩
  · exact absurd e h0
theorem TakesL.err {α : Type} {T : TypeId} {sz : Nat} {news : List α → List Value} {w0 : World} {g : Nat} {A : Option Addr} {c : Nat} {b : List Int} {res : List α × Tk} {w w' : World} {r : Ending} (h : TakesL T sz news w0 g A c b res w r w') (e : ¬ res.2.bad = 0) : ∃ p, r = .returned (.tuple #[.slice none 0 0, .iface 161 (.agg #[.int .i64 res.2.bad, .int .i64 res.2.place])]) ∧ InBy w0 g A c b p w' ∧ But g w w' := by
  obtain ⟨hb, ⟨h0, _⟩ | ⟨_, h1, p, h2⟩⟩ := h
  · exact absurd h0 e
  · exact ⟨p, h1, h2, hb⟩
theorem row_but {w w1 : World} {base g n : Nat} {e : TypeId} {sz : Nat} {v : Value} {xs : List Value} (ho : w.ownsRow base e sz v n xs) (hg : g < base) (hb : But g w w1) : w1.ownsRow base e sz v n xs := by
  refine ho.kept (row := some g) ⟨hb.1, hb.2.1, hb.2.2.1, hb.2.2.2.1, fun k hk hn => hb.2.2.2.2 k hk (fun e => hn (by rw [e]))⟩ ?_
  cases hv : v.ownBlock with
  | none => exact Or.inl rfl
  | some k => exact Or.inr fun e => by cases e; have := ho.lt g hv; omega
theorem in_grown {w0 w w1 : World} {g c p base : Nat} {A : Option Addr} {b : List Int} {row : Option Nat} (h : InBy w0 g A c b p w) (hs : w.grownBy w1 row) (hr : ∀ k, row = some k → base ≤ k) (hg : g < base) : InBy w0 g A c b p w1 := by
  have hle := h.le
  refine ⟨by rw [hs.block g h.lt (fun e => by have := hr g e.symm; omega)]; exact h.box, h.ints, ?_, h.le, h.areB, h.len, h.cap, h.pos⟩
  exact Below.grown h.below hs h.below.size (fun k hk => by have := hr k hk; omega)
theorem but_grown {w w1 w2 : World} {g : Nat} {row : Option Nat} (h : But g w w1) (hs : w1.grownBy w2 row) (hr : ∀ k, row = some k → w.heap.size ≤ k) : But g w w2 :=
  ⟨hs.os.trans h.1, hs.tape.trans h.2.1, hs.output.trans h.2.2.1, Nat.le_trans h.2.2.2.1 hs.size, fun k hk hn => (hs.block k (Nat.lt_of_lt_of_le hk h.2.2.2.1) (fun e => by have := hr k e.symm; omega)).trans (h.2.2.2.2 k hk hn)⟩
theorem any_form {w : World} {b n : Nat} {e : TypeId} {sz : Nat} {v : Value} {xs : List Value} (h : w.ownsRow b e sz v n xs) : ∃ A n c, v = .slice A n c := by
  rcases h.2 with ⟨rfl, _⟩ | ⟨g, cap, cur, rfl, _⟩
  · exact ⟨_, _, _, rfl⟩
  · exact ⟨_, _, _, rfl⟩

/-- A new block reads as it was made. -/
theorem new_cells (w : World) (l : List Value) (T : TypeId) (h : l.length ≤ 1048576) : ∀ j u, l[j]? = some u → (w.alloc (.cells l.toArray T)).cell? ((⟨w.heap.size, 0, none⟩ : Addr).add j) = some u := by
  have hr : (w.alloc (.cells l.toArray T)).ownsRow w.heap.size T 1 (.slice (some ⟨w.heap.size, 0, none⟩) l.length l.length) l.length l := by
    refine ⟨by omega, Or.inr ⟨w.heap.size, l.length, l.toArray, rfl, Nat.le_refl _, heap_alloc_new _ _, Nat.le_refl _, by unfold maxLen; omega, by simp, ?_⟩⟩
    simp only [Nat.mul_one]
    exact List.take_length
  exact hr.cells rfl
/-- Items as cells. -/
def iVals (K : IntKind) (zs : List Int) : List Value := zs.map (Value.int K)
theorem iVals_snoc (K : IntKind) (zs : List Int) (x : Int) : iVals K (zs ++ [x]) = iVals K zs ++ [.int K x] := by simp [iVals]
theorem nextb_any (w0 : World) (g : Nat) (A : Option Addr) (c : Nat) (b : List Int) (p : Nat) (w : World) (h : InBy w0 g A c b p w) :
    Calls Tryz.prog 164 #[.pointer (some ⟨g, 0, none⟩)] w (Takes w0 g A c b (tByte b ⟨p, 0, 0⟩) (.int .u8) (IsZ .u8) w) := by
  by_cases hp : p < b.length
  · refine (next_ok w0 g A c b p w h hp).mono ?_
    rintro r w1 ⟨rfl, hi, hb⟩
    have e : tByte b ⟨p, 0, 0⟩ = (nth b p, ⟨p + 1, 0, 0⟩) := by unfold tByte; rw [if_pos hp]
    rw [e]
    exact takes_yes hb rfl rfl hi
  · refine (next_end w0 g A c b p w h (by have := h.pos; omega)).mono ?_
    rintro r w1 ⟨rfl, hi, hb⟩
    have e : tByte b ⟨p, 0, 0⟩ = (0, ⟨p, 27, b.length⟩) := by unfold tByte; rw [if_neg hp]
    rw [e]
    exact takes_no hb (by simp) rfl rfl rfl hi

theorem info_takeWords : ∃ i, Tryz.prog.info? 78 = some i ∧ i.zero = some (.int .u32 0) ∧ i.size = 1 ∧ i.bytes = 4 :=
  ⟨(Tryz.prog.info? 78).get (by kernel_rfl), by kernel_rfl, by kernel_rfl, by kernel_rfl, by kernel_rfl⟩
set_option maxRecDepth 100000 in
set_option maxHeartbeats 2000000 in
theorem takeWords (m : Int) (hm0 : 0 ≤ m) (hm1 : m ≤ 1048576) (w0 : World) (g : Nat) (A : Option Addr) (c : Nat) (b : List Int) (p : Nat) (w : World) (h : InBy w0 g A c b p w) :
    Calls Tryz.prog 128 #[.pointer (some ⟨g, 0, none⟩), .int .i64 m, .func (.func 129) #[.pointer (some ⟨g, 0, none⟩)] #[]] w (TakesL 78 1 (iVals .u32) w0 g A c b (tAll b m (tFour b) ⟨p, 0, 0⟩) w) := by
  obtain ⟨i0, hi, hz0, hz1, hz2⟩ := info_takeWords
  have C := upto_any m hm0 (by omega) w0 g A c b p w h
  have hgw := h.lt
  have hab := h.areB
  by_cases hg : (tCount b m ⟨p, 0, 0⟩).2.bad = 0
  · obtain ⟨r0, r1⟩ := count_range hab hg
    have HA : Hid (tAll b m (tFour b) ⟨p, 0, 0⟩ = tList (tFour b) (tCount b m ⟨p, 0, 0⟩).1.toNat ⟨(tCount b m ⟨p, 0, 0⟩).2.pos, 0, 0⟩) := by
      show _ = _
      unfold tAll
      rw [← plain_tk (plain_count b m) hg]
    have HG : Hid _ := hg
    obtain ⟨n, hn⟩ := Int.eq_ofNat_of_zero_le r0
    go_enter Tryz.func128, Tryz.ntmps128
    go_wp2_with fail
    refine C.mono ?_
    intro r w1 hr
    obtain ⟨rfl, hi1, hb1⟩ := hr.ok hg
    rw [hn]
    rw [hn] at r1
    have hn2 : (tCount b m ⟨p, 0, 0⟩).1.toNat = n := by rw [hn]; rfl
    have HA2 : Hid _ := HA.out
    rw [hn2] at HA2
    have H1 : Hid _ := hi1
    have B1 : Hid (But g w w1) := hb1
    generalize (tCount b m ⟨p, 0, 0⟩).2.pos = q0 at *
    clear hr hi1 hb1 hg HG HA hn hn2 C r0 h
    go_wp2
    go_loopw [23, 10] (fun i s wr => ∃ (k q : Nat) (done : List Int), i = .int .i64 k ∧ Far (tFour b) n ⟨q0, 0, 0⟩ k done q ∧ wr.ownsRow w.heap.size 78 1 s k ((iVals .u32) done) ∧ InBy w0 g A c b q wr ∧ But g w wr) (fun i _ _ => n - (intOf i).toNat)
    case atStart => exact ⟨0, q0, [], rfl, far_start _ _ _, World.ownsRow_nil _ _ _ _, H1.out, B1.out⟩
    case round =>
      obtain ⟨k, q, done, rfl, hfar, hown, hin, hbut⟩ := hrel
      have hdl := hfar.1
      have hkn := hfar.2.1
      have HF : Hid (Far (tFour b) n ⟨q0, 0, 0⟩ k done q) := hfar
      have B2 : Hid (But g w wr) := hbut
      have hsz := hbut.2.2.2.1
      obtain ⟨As, ns, cs, rfl⟩ := any_form hown
      clear hfar hbut
      by_cases hlt : k < n
      · have C := word_any w0 g A c b q wr hin
        by_cases hg : (tFour b ⟨q, 0, 0⟩).2.bad = 0
        · go_wp2_with fail
          refine C.mono ?_
          intro r w2 hr
          obtain ⟨rfl, hin2, hb2⟩ := hr.ok hg
          have HX : Hid _ := far_next (plain_four b) HF.out hlt hg
          have hown2 := row_but hown hgw hb2
          have hsz2 := hb2.2.2.2.1
          clear hr C hown hin
          have HB2 : Hid (But g w w2) := B2.out.trans hb2
          clear hb2 hg
          generalize tFour b ⟨q, 0, 0⟩ = F at *
          obtain ⟨x, t⟩ := F
          simp only at hin2 HX ⊢
          have hin3 := hin2.keep (lb_alloc (Below.refl _ _) (.cells #[.int .u32 x] 78))
          have hown3 := hown2.alloc (.cells #[.int .u32 x] 78)
          have HB3 : Hid (But g w (w2.alloc (.cells #[.int .u32 x] 78))) := HB2.out.on (lb_alloc (Below.refl _ _) _)
          have hc : ∀ j u, ([.int .u32 x] : List Value)[j]? = some u → (w2.alloc (.cells #[.int .u32 x] 78)).cell? ((⟨w2.heap.size, 0, none⟩ : Addr).add j) = some u := new_cells _ _ _ (by simp)
          have hone : ∀ u ∈ ([.int .u32 x] : List Value), u.oneCell' = true := by simp [Value.oneCell']
          go_wp2_with (at_builtin; refine wpList_append_own _ rfl (.tmp 33) (.tmp 35) 26 rfl w.heap.size 78 i0 (.int .u32 0) 1 4 Tryz.underlying26 hi hz0 hz1 hz2 rfl (by decide) (.slice As ns cs) k ((iVals .u32) done) rfl hown3 ⟨w2.heap.size, 0, none⟩ 1 1 [.int .u32 x] rfl rfl hc hone (by unfold maxLen; omega) (by omega) (by simp; omega) ?_; intro v' w' hown' hgrow hnil)
          have hr4 : ∀ j, (Value.slice As ns cs).ownBlock = some j → w.heap.size ≤ j := fun j hj => (hown3.lt j hj).1
          have hin4 := in_grown hin3 hgrow hr4 hgw
          have hb4 := but_grown HB3.out hgrow hr4
          go_roundw
          case rel => exact ⟨k + 1, _, _, by go_num, HX.out, by rw [show (iVals .u32) (done ++ [_]) = (iVals .u32) done ++ [.int .u32 x] from iVals_snoc _ _ _]; exact hown', hin4, hb4⟩
          case measure => simp [intOf]; omega
        · go_wp2_with fail
          refine C.mono ?_
          intro r w2 hr
          obtain ⟨_, p2, rfl, rfl, hin2, hb2⟩ := hr.err hg
          have HX : Hid _ := far_bad HF.out hlt hg
          have HG : Hid _ := hg
          clear hr hg C
          generalize tFour b ⟨q, 0, 0⟩ = F at *
          go_wp2
          go_ret2
          exact takesL_no (B2.out.trans hb2) (by rw [HA2.out]; exact HX.out) HG.out hin2
      · obtain rfl : k = n := by omega
        go_wp2
        go_ret2
        exact takesL_yes B2.out (by rw [HA2.out]; exact far_end HF.out) (by rw [hdl]; exact hown) hin
  · have HA : Hid _ := all_bad (f := tFour b) hg
    have HG : Hid _ := hg
    go_enter Tryz.func128, Tryz.ntmps128
    go_wp2_with fail
    refine C.mono ?_
    intro r w1 hr
    obtain ⟨_, p2, rfl, rfl, hi1, hb1⟩ := hr.err hg
    clear hr hg
    generalize (tCount b m ⟨p, 0, 0⟩).2 = T at *
    go_wp2
    go_ret2
    exact takesL_no hb1 HA.out HG.out hi1

theorem info_takeLongs : ∃ i, Tryz.prog.info? 2 = some i ∧ i.zero = some (.int .i64 0) ∧ i.size = 1 ∧ i.bytes = 8 :=
  ⟨(Tryz.prog.info? 2).get (by kernel_rfl), by kernel_rfl, by kernel_rfl, by kernel_rfl, by kernel_rfl⟩
set_option maxRecDepth 100000 in
set_option maxHeartbeats 2000000 in
theorem takeLongs (m : Int) (hm0 : 0 ≤ m) (hm1 : m ≤ 1048576) (w0 : World) (g : Nat) (A : Option Addr) (c : Nat) (b : List Int) (p : Nat) (w : World) (h : InBy w0 g A c b p w) :
    Calls Tryz.prog 131 #[.pointer (some ⟨g, 0, none⟩), .int .i64 m, .func (.func 132) #[.pointer (some ⟨g, 0, none⟩)] #[]] w (TakesL 2 1 (iVals .i64) w0 g A c b (tAll b m (tEight b) ⟨p, 0, 0⟩) w) := by
  obtain ⟨i0, hi, hz0, hz1, hz2⟩ := info_takeLongs
  have C := upto_any m hm0 (by omega) w0 g A c b p w h
  have hgw := h.lt
  have hab := h.areB
  by_cases hg : (tCount b m ⟨p, 0, 0⟩).2.bad = 0
  · obtain ⟨r0, r1⟩ := count_range hab hg
    have HA : Hid (tAll b m (tEight b) ⟨p, 0, 0⟩ = tList (tEight b) (tCount b m ⟨p, 0, 0⟩).1.toNat ⟨(tCount b m ⟨p, 0, 0⟩).2.pos, 0, 0⟩) := by
      show _ = _
      unfold tAll
      rw [← plain_tk (plain_count b m) hg]
    have HG : Hid _ := hg
    obtain ⟨n, hn⟩ := Int.eq_ofNat_of_zero_le r0
    go_enter Tryz.func131, Tryz.ntmps131
    go_wp2_with fail
    refine C.mono ?_
    intro r w1 hr
    obtain ⟨rfl, hi1, hb1⟩ := hr.ok hg
    rw [hn]
    rw [hn] at r1
    have hn2 : (tCount b m ⟨p, 0, 0⟩).1.toNat = n := by rw [hn]; rfl
    have HA2 : Hid _ := HA.out
    rw [hn2] at HA2
    have H1 : Hid _ := hi1
    have B1 : Hid (But g w w1) := hb1
    generalize (tCount b m ⟨p, 0, 0⟩).2.pos = q0 at *
    clear hr hi1 hb1 hg HG HA hn hn2 C r0 h
    go_wp2
    go_loopw [23, 10] (fun i s wr => ∃ (k q : Nat) (done : List Int), i = .int .i64 k ∧ Far (tEight b) n ⟨q0, 0, 0⟩ k done q ∧ wr.ownsRow w.heap.size 2 1 s k ((iVals .i64) done) ∧ InBy w0 g A c b q wr ∧ But g w wr) (fun i _ _ => n - (intOf i).toNat)
    case atStart => exact ⟨0, q0, [], rfl, far_start _ _ _, World.ownsRow_nil _ _ _ _, H1.out, B1.out⟩
    case round =>
      obtain ⟨k, q, done, rfl, hfar, hown, hin, hbut⟩ := hrel
      have hdl := hfar.1
      have hkn := hfar.2.1
      have HF : Hid (Far (tEight b) n ⟨q0, 0, 0⟩ k done q) := hfar
      have B2 : Hid (But g w wr) := hbut
      have hsz := hbut.2.2.2.1
      obtain ⟨As, ns, cs, rfl⟩ := any_form hown
      clear hfar hbut
      by_cases hlt : k < n
      · have C := data_any w0 g A c b q wr hin
        by_cases hg : (tEight b ⟨q, 0, 0⟩).2.bad = 0
        · go_wp2_with fail
          refine C.mono ?_
          intro r w2 hr
          obtain ⟨rfl, hin2, hb2⟩ := hr.ok hg
          have HX : Hid _ := far_next (plain_eight b) HF.out hlt hg
          have hown2 := row_but hown hgw hb2
          have hsz2 := hb2.2.2.2.1
          clear hr C hown hin
          have HB2 : Hid (But g w w2) := B2.out.trans hb2
          clear hb2 hg
          generalize tEight b ⟨q, 0, 0⟩ = F at *
          obtain ⟨x, t⟩ := F
          simp only at hin2 HX ⊢
          have hin3 := hin2.keep (lb_alloc (Below.refl _ _) (.cells #[.int .i64 x] 2))
          have hown3 := hown2.alloc (.cells #[.int .i64 x] 2)
          have HB3 : Hid (But g w (w2.alloc (.cells #[.int .i64 x] 2))) := HB2.out.on (lb_alloc (Below.refl _ _) _)
          have hc : ∀ j u, ([.int .i64 x] : List Value)[j]? = some u → (w2.alloc (.cells #[.int .i64 x] 2)).cell? ((⟨w2.heap.size, 0, none⟩ : Addr).add j) = some u := new_cells _ _ _ (by simp)
          have hone : ∀ u ∈ ([.int .i64 x] : List Value), u.oneCell' = true := by simp [Value.oneCell']
          go_wp2_with (at_builtin; refine wpList_append_own _ rfl (.tmp 33) (.tmp 35) 27 rfl w.heap.size 2 i0 (.int .i64 0) 1 8 Tryz.underlying27 hi hz0 hz1 hz2 rfl (by decide) (.slice As ns cs) k ((iVals .i64) done) rfl hown3 ⟨w2.heap.size, 0, none⟩ 1 1 [.int .i64 x] rfl rfl hc hone (by unfold maxLen; omega) (by omega) (by simp; omega) ?_; intro v' w' hown' hgrow hnil)
          have hr4 : ∀ j, (Value.slice As ns cs).ownBlock = some j → w.heap.size ≤ j := fun j hj => (hown3.lt j hj).1
          have hin4 := in_grown hin3 hgrow hr4 hgw
          have hb4 := but_grown HB3.out hgrow hr4
          go_roundw
          case rel => exact ⟨k + 1, _, _, by go_num, HX.out, by rw [show (iVals .i64) (done ++ [_]) = (iVals .i64) done ++ [.int .i64 x] from iVals_snoc _ _ _]; exact hown', hin4, hb4⟩
          case measure => simp [intOf]; omega
        · go_wp2_with fail
          refine C.mono ?_
          intro r w2 hr
          obtain ⟨_, p2, rfl, rfl, hin2, hb2⟩ := hr.err hg
          have HX : Hid _ := far_bad HF.out hlt hg
          have HG : Hid _ := hg
          clear hr hg C
          generalize tEight b ⟨q, 0, 0⟩ = F at *
          go_wp2
          go_ret2
          exact takesL_no (B2.out.trans hb2) (by rw [HA2.out]; exact HX.out) HG.out hin2
      · obtain rfl : k = n := by omega
        go_wp2
        go_ret2
        exact takesL_yes B2.out (by rw [HA2.out]; exact far_end HF.out) (by rw [hdl]; exact hown) hin
  · have HA : Hid _ := all_bad (f := tEight b) hg
    have HG : Hid _ := hg
    go_enter Tryz.func131, Tryz.ntmps131
    go_wp2_with fail
    refine C.mono ?_
    intro r w1 hr
    obtain ⟨_, p2, rfl, rfl, hi1, hb1⟩ := hr.err hg
    clear hr hg
    generalize (tCount b m ⟨p, 0, 0⟩).2 = T at *
    go_wp2
    go_ret2
    exact takesL_no hb1 HA.out HG.out hi1

theorem info_takeBytes : ∃ i, Tryz.prog.info? 5 = some i ∧ i.zero = some (.int .u8 0) ∧ i.size = 1 ∧ i.bytes = 1 :=
  ⟨(Tryz.prog.info? 5).get (by kernel_rfl), by kernel_rfl, by kernel_rfl, by kernel_rfl, by kernel_rfl⟩
set_option maxRecDepth 100000 in
set_option maxHeartbeats 2000000 in
theorem takeBytes (m : Int) (hm0 : 0 ≤ m) (hm1 : m ≤ 1048576) (w0 : World) (g : Nat) (A : Option Addr) (c : Nat) (b : List Int) (p : Nat) (w : World) (h : InBy w0 g A c b p w) :
    Calls Tryz.prog 165 #[.pointer (some ⟨g, 0, none⟩), .int .i64 m, .func (.func 164) #[.pointer (some ⟨g, 0, none⟩)] #[]] w (TakesL 5 1 (iVals .u8) w0 g A c b (tAll b m (tByte b) ⟨p, 0, 0⟩) w) := by
  obtain ⟨i0, hi, hz0, hz1, hz2⟩ := info_takeBytes
  have C := upto_any m hm0 (by omega) w0 g A c b p w h
  have hgw := h.lt
  have hab := h.areB
  by_cases hg : (tCount b m ⟨p, 0, 0⟩).2.bad = 0
  · obtain ⟨r0, r1⟩ := count_range hab hg
    have HA : Hid (tAll b m (tByte b) ⟨p, 0, 0⟩ = tList (tByte b) (tCount b m ⟨p, 0, 0⟩).1.toNat ⟨(tCount b m ⟨p, 0, 0⟩).2.pos, 0, 0⟩) := by
      show _ = _
      unfold tAll
      rw [← plain_tk (plain_count b m) hg]
    have HG : Hid _ := hg
    obtain ⟨n, hn⟩ := Int.eq_ofNat_of_zero_le r0
    go_enter Tryz.func165, Tryz.ntmps165
    go_wp2_with fail
    refine C.mono ?_
    intro r w1 hr
    obtain ⟨rfl, hi1, hb1⟩ := hr.ok hg
    rw [hn]
    rw [hn] at r1
    have hn2 : (tCount b m ⟨p, 0, 0⟩).1.toNat = n := by rw [hn]; rfl
    have HA2 : Hid _ := HA.out
    rw [hn2] at HA2
    have H1 : Hid _ := hi1
    have B1 : Hid (But g w w1) := hb1
    generalize (tCount b m ⟨p, 0, 0⟩).2.pos = q0 at *
    clear hr hi1 hb1 hg HG HA hn hn2 C r0 h
    go_wp2
    go_loopw [23, 10] (fun i s wr => ∃ (k q : Nat) (done : List Int), i = .int .i64 k ∧ Far (tByte b) n ⟨q0, 0, 0⟩ k done q ∧ wr.ownsRow w.heap.size 5 1 s k ((iVals .u8) done) ∧ InBy w0 g A c b q wr ∧ But g w wr) (fun i _ _ => n - (intOf i).toNat)
    case atStart => exact ⟨0, q0, [], rfl, far_start _ _ _, World.ownsRow_nil _ _ _ _, H1.out, B1.out⟩
    case round =>
      obtain ⟨k, q, done, rfl, hfar, hown, hin, hbut⟩ := hrel
      have hdl := hfar.1
      have hkn := hfar.2.1
      have HF : Hid (Far (tByte b) n ⟨q0, 0, 0⟩ k done q) := hfar
      have B2 : Hid (But g w wr) := hbut
      have hsz := hbut.2.2.2.1
      obtain ⟨As, ns, cs, rfl⟩ := any_form hown
      clear hfar hbut
      by_cases hlt : k < n
      · have C := nextb_any w0 g A c b q wr hin
        by_cases hg : (tByte b ⟨q, 0, 0⟩).2.bad = 0
        · go_wp2_with fail
          refine C.mono ?_
          intro r w2 hr
          obtain ⟨rfl, hin2, hb2⟩ := hr.ok hg
          have HX : Hid _ := far_next (plain_byte b) HF.out hlt hg
          have hown2 := row_but hown hgw hb2
          have hsz2 := hb2.2.2.2.1
          clear hr C hown hin
          have HB2 : Hid (But g w w2) := B2.out.trans hb2
          clear hb2 hg
          generalize tByte b ⟨q, 0, 0⟩ = F at *
          obtain ⟨x, t⟩ := F
          simp only at hin2 HX ⊢
          have hin3 := hin2.keep (lb_alloc (Below.refl _ _) (.cells #[.int .u8 x] 5))
          have hown3 := hown2.alloc (.cells #[.int .u8 x] 5)
          have HB3 : Hid (But g w (w2.alloc (.cells #[.int .u8 x] 5))) := HB2.out.on (lb_alloc (Below.refl _ _) _)
          have hc : ∀ j u, ([.int .u8 x] : List Value)[j]? = some u → (w2.alloc (.cells #[.int .u8 x] 5)).cell? ((⟨w2.heap.size, 0, none⟩ : Addr).add j) = some u := new_cells _ _ _ (by simp)
          have hone : ∀ u ∈ ([.int .u8 x] : List Value), u.oneCell' = true := by simp [Value.oneCell']
          go_wp2_with (at_builtin; refine wpList_append_own _ rfl (.tmp 33) (.tmp 35) 86 rfl w.heap.size 5 i0 (.int .u8 0) 1 1 Tryz.underlying86 hi hz0 hz1 hz2 rfl (by decide) (.slice As ns cs) k ((iVals .u8) done) rfl hown3 ⟨w2.heap.size, 0, none⟩ 1 1 [.int .u8 x] rfl rfl hc hone (by unfold maxLen; omega) (by omega) (by simp; omega) ?_; intro v' w' hown' hgrow hnil)
          have hr4 : ∀ j, (Value.slice As ns cs).ownBlock = some j → w.heap.size ≤ j := fun j hj => (hown3.lt j hj).1
          have hin4 := in_grown hin3 hgrow hr4 hgw
          have hb4 := but_grown HB3.out hgrow hr4
          go_roundw
          case rel => exact ⟨k + 1, _, _, by go_num, HX.out, by rw [show (iVals .u8) (done ++ [_]) = (iVals .u8) done ++ [.int .u8 x] from iVals_snoc _ _ _]; exact hown', hin4, hb4⟩
          case measure => simp [intOf]; omega
        · go_wp2_with fail
          refine C.mono ?_
          intro r w2 hr
          obtain ⟨_, p2, rfl, rfl, hin2, hb2⟩ := hr.err hg
          have HX : Hid _ := far_bad HF.out hlt hg
          have HG : Hid _ := hg
          clear hr hg C
          generalize tByte b ⟨q, 0, 0⟩ = F at *
          go_wp2
          go_ret2
          exact takesL_no (B2.out.trans hb2) (by rw [HA2.out]; exact HX.out) HG.out hin2
      · obtain rfl : k = n := by omega
        go_wp2
        go_ret2
        exact takesL_yes B2.out (by rw [HA2.out]; exact far_end HF.out) (by rw [hdl]; exact hown) hin
  · have HA : Hid _ := all_bad (f := tByte b) hg
    have HG : Hid _ := hg
    go_enter Tryz.func165, Tryz.ntmps165
    go_wp2_with fail
    refine C.mono ?_
    intro r w1 hr
    obtain ⟨_, p2, rfl, rfl, hi1, hb1⟩ := hr.err hg
    clear hr hg
    generalize (tCount b m ⟨p, 0, 0⟩).2 = T at *
    go_wp2
    go_ret2
    exact takesL_no hb1 HA.out HG.out hi1


end Go.Proofs.YthpkekpojhmaaaaGreatDoor

namespace Go.Proofs.YthpkekpojhmaaaaGreatDoor
open Go.RowKit


/-- Bytes as cells. -/
def bNews (l : List Int) : List Value := l.map (Value.int .u8)
theorem bNews_len (l : List Int) : (bNews l).length = l.length := by simp [bNews]
theorem bNews_one (l : List Int) : ∀ u ∈ bNews l, u.oneCell' = true := fun u hu => by
  unfold bNews at hu
  obtain ⟨x, _, rfl⟩ := List.mem_map.1 hu
  rfl
theorem bNews_app (l r : List Int) : bNews l ++ bNews r = bNews (l ++ r) := by simp [bNews]
theorem be4_mod (x : Int) : be4 (x % 4294967296) = be4 x := by
  simp only [be4, List.cons.injEq, and_true]
  omega
/-- An output's box at g holds a row of its own that reads l. -/
def OutAt (w : World) (g : Nat) (l : List Int) : Prop :=
  ∃ v, w.heap[g]? = some (.cells #[v] 149 (0, 0)) ∧ w.ownsRow (g + 1) 5 1 v l.length (bNews l)
/-- No row of bytes. -/
def NoB (w : World) (k : Nat) : Prop := ∀ cur, w.heap[k]? ≠ some (.cells cur 5 (0, 0))
/-- Nothing is other but the box g and rows of bytes behind it. -/
structure OutTo (g : Nat) (w w' : World) : Prop where
  os : w'.os = w.os
  tape : w'.tape = w.tape
  output : w'.output = w.output
  size : w.heap.size ≤ w'.heap.size
  block : ∀ k, k < w.heap.size → k ≠ g → (k < g ∨ NoB w k) → w'.heap[k]? = w.heap[k]?
theorem OutTo.refl (g : Nat) (w : World) : OutTo g w w := ⟨rfl, rfl, rfl, Nat.le_refl _, fun _ _ _ _ => rfl⟩
theorem OutTo.trans {g : Nat} {w w1 w2 : World} (h : OutTo g w w1) (k : OutTo g w1 w2) : OutTo g w w2 := by
  refine ⟨k.os.trans h.os, k.tape.trans h.tape, k.output.trans h.output, Nat.le_trans h.size k.size, fun i hi hg hr => ?_⟩
  have e := h.block i hi hg hr
  refine (k.block i (Nat.lt_of_lt_of_le hi h.size) hg ?_).trans e
  rcases hr with hr | hr
  · exact Or.inl hr
  · exact Or.inr fun cur => by rw [e]; exact hr cur
theorem OutTo.of {g : Nat} {w w1 : World} (hb : Below w.heap.size w w1) : OutTo g w w1 := ⟨hb.os, hb.tape, hb.output, hb.size, fun i hi _ _ => hb.block i hi⟩
theorem OutAt.lt {w : World} {g : Nat} {l : List Int} (h : OutAt w g l) : g < w.heap.size := by
  obtain ⟨v, hv, _⟩ := h
  exact (Array.getElem?_eq_some_iff.1 hv).1
theorem OutAt.keep {w w1 : World} {g : Nat} {l : List Int} (h : OutAt w g l) (hb : Below w.heap.size w w1) : OutAt w1 g l := by
  have hg := h.lt
  obtain ⟨v, hv, ho⟩ := h
  refine ⟨v, by rw [hb.block g hg]; exact hv, ho.kept (row := none) ⟨hb.os, hb.tape, hb.output, hb.size, fun k hk _ => hb.block k hk⟩ ?_⟩
  cases hv : v.ownBlock <;> simp
theorem OutTo.below {g : Nat} {w w1 : World} (hg : g < w.heap.size) (k : OutTo g w w1) : Below g w w1 :=
  ⟨k.os, k.tape, k.output, k.size, fun i hi => k.block i (by omega) (by omega) (Or.inl hi)⟩
/-- A block that is no row of bytes and not the box stays. -/
theorem OutTo.box {g : Nat} {w w1 : World} (k : OutTo g w w1) {B : Nat} {cur : Array Value} {t : TypeId} (hb : w.heap[B]? = some (.cells cur t (0, 0))) (ht : t ≠ 5) (hg : B ≠ g) : w1.heap[B]? = some (.cells cur t (0, 0)) := by
  rw [k.block B (Array.getElem?_eq_some_iff.1 hb).1 hg (Or.inr fun c => by rw [hb]; intro e; cases e; exact ht rfl)]; exact hb
theorem OutTo.cell {g : Nat} {w w1 : World} (k : OutTo g w w1) (hgw : g < w.heap.size) {p : Addr} {v : Value} (hc : w.cell? p = some v) (hg : p.block < g) : w1.cell? p = some v := by
  rw [World.cell?_of_block (w := w) ((k.below hgw).block p.block hg)]; exact hc
theorem own_noB {w : World} {g n k : Nat} {v : Value} {xs : List Value} (h : w.ownsRow (g + 1) 5 1 v n xs) (hk : k < g ∨ NoB w k) : some k ≠ v.ownBlock := fun e => by
  have hl := h.lt k e.symm
  rcases hk with hk | hk
  · omega
  · rcases h.2 with ⟨rfl, _⟩ | ⟨j, cap, cur, rfl, _, hj, _⟩
    · cases e
    · cases e
      exact hk cur hj
/-- A row grown, and put into the box. -/
theorem out_grown {g : Nat} {w w1 : World} {v v' A : Value} {n m : Nat} {xs : List Value} {l : List Int} (hbox : w.heap[g]? = some (.cells #[A] 149 (0, 0))) (ho : w.ownsRow (g + 1) 5 1 v n xs) (hs : w.grownBy w1 v.ownBlock) (ho' : w1.ownsRow (g + 1) 5 1 v' m (bNews l)) (hm : m = l.length) :
    OutAt (w1.setCell ⟨g, 0, none⟩ v') g l ∧ OutTo g w (w1.setCell ⟨g, 0, none⟩ v') := by
  have hg := (Array.getElem?_eq_some_iff.1 hbox).1
  have h1 : w1.heap[g]? = some (.cells #[A] 149 (0, 0)) := by
    rw [hs.block g hg (fun e => by have := ho.lt g e.symm; omega)]; exact hbox
  subst hm
  refine ⟨⟨v', ?_, ?_⟩, ⟨hs.os, hs.tape, hs.output, by simpa [go_sem] using hs.size, fun k hk hg hr => (Below.heap_setCell _ _ _ _ hg).trans (hs.block k hk (own_noB ho hr))⟩⟩
  · simp [World.setCell, Array.getElem?_modify, h1]
  · exact ownsRow_setCell_below ho' (by show g < g + 1; omega) v'
theorem box_cell {w : World} {g : Nat} {A : Value} (h : w.heap[g]? = some (.cells #[A] 149 (0, 0))) : w.cell? ⟨g, 0, none⟩ = some A ∧ w.frozen? ⟨g, 0, none⟩ = false := by
  constructor
  · simp [World.cell?, h]
  · simp [World.frozen?, h]


end Go.Proofs.YthpkekpojhmaaaaGreatDoor

namespace Go.Proofs.YthpkekpojhmaaaaGreatDoor
open Go.RowKit


theorem info5 : ∃ i, Tryz.prog.info? 5 = some i ∧ i.zero = some (.int .u8 0) ∧ i.size = 1 ∧ i.bytes = 1 :=
  ⟨(Tryz.prog.info? 5).get (by kernel_rfl), by kernel_rfl, by kernel_rfl, by kernel_rfl, by kernel_rfl⟩
/-- What a writer of bytes e does. -/
def Puts (g : Nat) (l e : List Int) (w : World) (r : Ending) (w' : World) : Prop := r = .returned (.tuple #[]) ∧ OutAt w' g (l ++ e) ∧ OutTo g w w'
theorem new_lit (w : World) (l : List Int) (h : l.length ≤ 1048576) : (w.alloc (.cells (bNews l).toArray 5)).ownsRow w.heap.size 5 1 (.slice (some ⟨w.heap.size, 0, none⟩) l.length l.length) l.length (bNews l) := by
  refine ⟨by rw [bNews_len]; omega, Or.inr ⟨w.heap.size, l.length, (bNews l).toArray, rfl, Nat.le_refl _, heap_alloc_new _ _, Nat.le_refl _, by unfold maxLen; omega, by simp [bNews], ?_⟩⟩
  simp only [Nat.mul_one]
  rw [← bNews_len l]
  exact List.take_length
theorem lit_cells (w : World) (l : List Int) (h : l.length ≤ 1048576) : ∀ j u, (bNews l)[j]? = some u → (w.alloc (.cells (bNews l).toArray 5)).cell? ((⟨w.heap.size, 0, none⟩ : Addr).add j) = some u := (new_lit w l h).cells rfl
/-- The box behind a growth. -/
theorem box_grown {w w1 : World} {g n : Nat} {v A : Value} {xs : List Value} (hv : w.heap[g]? = some (.cells #[A] 149 (0, 0))) (ho : w.ownsRow (g + 1) 5 1 v n xs) (hs : w.grownBy w1 v.ownBlock) : w1.cell? ⟨g, 0, none⟩ = some A ∧ w1.frozen? ⟨g, 0, none⟩ = false :=
  box_cell (by rw [hs.block g (Array.getElem?_eq_some_iff.1 hv).1 (fun e => by have := ho.lt g e.symm; omega)]; exact hv)
theorem slice_form {w : World} {b n : Nat} {v : Value} {xs : List Value} (h : w.ownsRow b 5 1 v n xs) : ∃ A n c, v = .slice A n c := by
  rcases h.2 with ⟨rfl, _⟩ | ⟨g, cap, cur, rfl, _⟩
  · exact ⟨_, _, _, rfl⟩
  · exact ⟨_, _, _, rfl⟩
set_option maxRecDepth 100000 in
set_option maxHeartbeats 1000000 in
theorem wNumber (g : Nat) (l : List Int) (n : Int) (h0 : 0 ≤ n) (h1 : n < 4294967296) (hl : l.length + 4 ≤ 1048576) (w : World) (ho : OutAt w g l) : Calls Tryz.prog 84 #[.pointer (some ⟨g, 0, none⟩), .int .u32 n] w (Puts g l (be4 n) w) := by
  obtain ⟨i0, hi, hz0, hz1, hz2⟩ := info5
  have hg := ho.lt
  obtain ⟨v, hv, hr⟩ := ho
  have hcell := (box_cell hv).1
  have hfro := (box_cell hv).2
  have e1 : n / 16777216 < 256 := by omega
  have HE : Hid (be4 n = [n / 16777216, n / 65536 % 256, n / 256 % 256, n % 256]) := by
    unfold Hid be4
    congr 1
    omega
  have hc := lit_cells w [n / 16777216, n / 65536 % 256, n / 256 % 256, n % 256] (by simp)
  have hr1 := hr.alloc (.cells (bNews [n / 16777216, n / 65536 % 256, n / 256 % 256, n % 256]).toArray 5)
  have hv1 : Hid ((w.alloc (.cells (bNews [n / 16777216, n / 65536 % 256, n / 256 % 256, n % 256]).toArray 5)).heap[g]? = some (.cells #[v] 149 (0, 0))) := by
    show _ = _
    rw [(lb_alloc (Below.refl _ w) _).block g hg]; exact hv
  have HV : Hid _ := hv
  clear hv
  go_enter Tryz.func84, Tryz.ntmps84
  go_wp2_with (at_builtin; refine wpList_append_own _ rfl (.tmp 8) (.tmp 20) 86 rfl (g + 1) 5 i0 (.int .u8 0) 1 1 Tryz.underlying86 hi hz0 hz1 hz2 rfl (by decide) v l.length (bNews l) rfl hr1 ⟨w.heap.size, 0, none⟩ 4 4 (bNews [n / 16777216, n / 65536 % 256, n / 256 % 256, n % 256]) rfl rfl hc (bNews_one _) (by unfold maxLen; omega) (by omega) (by simp; omega) ?_; intro v' w' hown hgrow hnil; obtain ⟨hcell', hfro'⟩ := box_grown hv1.out hr1 hgrow; have HO : Hid _ := hown; have HG : Hid _ := hgrow; obtain ⟨A', n', c', rfl⟩ := slice_form hown; clear hown hgrow hnil)
  go_end0
  have hq : w'.ownsRow (g + 1) 5 1 (.slice A' n' c') (l.length + 4) (bNews (l ++ be4 n)) := by rw [HE.out, ← bNews_app]; exact HO.out
  obtain ⟨p1, p2⟩ := out_grown hv1.out hr1 HG.out hq (by simp [be4_len])
  exact ⟨rfl, p1, (OutTo.of (lb_alloc (Below.refl _ _) _)).trans p2⟩
theorem wCount (g : Nat) (l : List Int) (n : Int) (hl : l.length + 4 ≤ 1048576) (w : World) (ho : OutAt w g l) : Calls Tryz.prog 119 #[.pointer (some ⟨g, 0, none⟩), .int .i64 n] w (Puts g l (be4 n) w) := by
  have C := wNumber g l (n % 4294967296) (by omega) (by omega) hl w ho
  rw [be4_mod] at C
  go_enter Tryz.func119, Tryz.ntmps119
  go_wp2_with fail
  refine C.mono ?_
  rintro r w1 ⟨rfl, h1, h2⟩
  go_wp2
  go_end0
  exact ⟨rfl, h1, h2⟩
theorem len_app4 (l : List Int) (n : Int) : (l ++ be4 n).length = l.length + 4 := by simp [be4_len]
theorem wLong (g : Nat) (l : List Int) (n : Int) (hl : l.length + 8 ≤ 1048576) (w : World) (ho : OutAt w g l) : Calls Tryz.prog 121 #[.pointer (some ⟨g, 0, none⟩), .int .i64 n] w (Puts g l (be8 n) w) := by
  have hwv : IntKind.u64.wrap n = n % 18446744073709551616 := by simp [IntKind.wrap, IntKind.signed, IntKind.bits]
  have E1 : Hid (be4 (IntKind.u64.wrap n / 4294967296 % 4294967296) = be4 (n / 4294967296)) := by
    show _ = _
    rw [hwv, be4_mod, ← be4_mod (n % 18446744073709551616 / 4294967296), ← be4_mod (n / 4294967296)]
    congr 1
    omega
  have hlen := len_app4 l (n / 4294967296)
  clear hwv
  go_enter Tryz.func121, Tryz.ntmps121
  go_wp2_with fail
  refine (wNumber g l _ ?a1 ?a2 (by omega) _ ho).mono ?_
  case a1 => omega
  case a2 => omega
  rintro r w1 ⟨rfl, h1, h2⟩
  rw [E1.out] at h1
  go_wp2_with fail
  refine (wNumber g _ (n % 4294967296) (by omega) (by omega) (by omega) _ h1).mono ?_
  rintro r w2 ⟨rfl, h3, h4⟩
  rw [be4_mod, List.append_assoc] at h3
  go_wp2
  go_end0
  exact ⟨rfl, h3, h2.trans h4⟩
theorem str_news (s : ByteArray) : Lib.strCells s = bNews (strB s) := by
  unfold Lib.strCells bNews strB
  rw [List.map_map]; rfl
theorem strB_size (s : ByteArray) : (strB s).length = s.size := by
  unfold strB
  rw [List.length_map, Array.length_toList]
  rfl
set_option maxRecDepth 100000 in
set_option maxHeartbeats 1000000 in
theorem wText (g : Nat) (l : List Int) (s : ByteArray) (hl : l.length + 4 + s.size ≤ 1048576) (w : World) (ho : OutAt w g l) : Calls Tryz.prog 117 #[.pointer (some ⟨g, 0, none⟩), .string s] w (Puts g l (textB s) w) := by
  obtain ⟨i0, hi, hz0, hz1, hz2⟩ := info5
  have hlen := len_app4 l s.size
  have HL : Hid (bNews (l ++ be4 s.size) ++ Lib.strCells s = bNews (l ++ textB s) ∧ (l ++ be4 s.size).length + s.size = (l ++ textB s).length) := by
    refine ⟨?_, ?_⟩
    · rw [str_news, bNews_app]; unfold textB; rw [List.append_assoc]
    · unfold textB; simp [be4_len, strB_size]; omega
  go_enter Tryz.func117, Tryz.ntmps117
  go_wp2_with fail
  refine (wCount g l (s.size : Int) (by omega) _ ho).mono ?_
  rintro r w1 ⟨rfl, h1, h2⟩
  have hg := h1.lt
  obtain ⟨v, hv, hr⟩ := h1
  have hcell := (box_cell hv).1
  have hfro := (box_cell hv).2
  have HV : Hid _ := hv
  have H2 : Hid _ := h2
  clear hv h2
  go_wp2_with (at_builtin; refine Lib.wpList_append_own_string _ rfl (.tmp 12) (.tmp 13) 86 9 rfl (g + 1) 5 i0 Tryz.underlying86 Tryz.underlying9 hi hz0 hz1 hz2 v _ _ rfl hr s rfl (by unfold maxLen; omega) (by omega) (by omega) ?_; intro v' w' hown hgrow hnil; obtain ⟨hcell', hfro'⟩ := box_grown HV.out hr hgrow; have HO : Hid _ := hown; have HG : Hid _ := hgrow; obtain ⟨A', n', c', rfl⟩ := slice_form hown; clear hown hgrow hnil)
  go_end0
  have hq : w'.ownsRow (g + 1) 5 1 (.slice A' n' c') ((l ++ be4 s.size).length + s.size) (bNews (l ++ textB s)) := by rw [← HL.out.1]; exact HO.out
  obtain ⟨p1, p2⟩ := out_grown HV.out hr HG.out hq HL.out.2
  exact ⟨rfl, p1, H2.out.trans p2⟩


end Go.Proofs.YthpkekpojhmaaaaGreatDoor

namespace Go.Proofs.YthpkekpojhmaaaaGreatDoor
open Go.RowKit


theorem box3_cell {w : World} {B : Nat} {x y z : Value} {t : TypeId} (h : w.heap[B]? = some (.cells #[x, y, z] t (0, 0))) : w.cell? ⟨B, 0, none⟩ = some x ∧ w.cell? ⟨B, 1, none⟩ = some y ∧ w.cell? ⟨B, 2, none⟩ = some z := by
  refine ⟨?_, ?_, ?_⟩ <;> simp [World.cell?, h]
theorem box2_cell {w : World} {B : Nat} {x y : Value} {t : TypeId} (h : w.heap[B]? = some (.cells #[x, y] t (0, 0))) : w.cell? ⟨B, 0, none⟩ = some x ∧ w.cell? ⟨B, 1, none⟩ = some y := by
  refine ⟨?_, ?_⟩ <;> simp [World.cell?, h]
theorem wSymbol (g : Nat) (l : List Int) (nm : ByteArray) (kd at_ : Int) (hl : l.length + nm.size + 12 ≤ 1048576) (hk : 0 ≤ kd ∧ kd < 128) (w : World) (ho : OutAt w g l) : Calls Tryz.prog 123 #[.pointer (some ⟨g, 0, none⟩), .agg #[.string nm, .int .i8 kd, .int .i64 at_]] w (Puts g l (symB (nm, kd, at_)) w) := by
  have hg := ho.lt
  have ho1 := ho.keep (lb_alloc (Below.refl _ _) (.cells #[.string nm, .int .i8 kd, .int .i64 at_] 131))
  have hb0 : Hid ((w.alloc (.cells #[.string nm, .int .i8 kd, .int .i64 at_] 131)).heap[w.heap.size]? = some (.cells #[.string nm, .int .i8 kd, .int .i64 at_] 131 (0, 0))) := heap_alloc_new _ _
  have HL : Hid ((l ++ textB nm).length = l.length + 4 + nm.size ∧ (l ++ textB nm ++ be4 kd).length = l.length + 8 + nm.size ∧ l ++ textB nm ++ be4 kd ++ be4 at_ = l ++ symB (nm, kd, at_)) := by
    refine ⟨?_, ?_, ?_⟩
    · unfold textB; simp [be4_len, strB_size]; omega
    · unfold textB; simp [be4_len, strB_size]; omega
    · unfold symB; simp
  go_enter Tryz.func123, Tryz.ntmps123
  go_wp2_with fail
  refine (wText g l nm (by omega) _ ho1).mono ?_
  rintro r w1 ⟨rfl, h1, h2⟩
  have hb1 := h2.box hb0.out (by decide) (by omega)
  obtain ⟨a0, a1, a2⟩ := box3_cell hb1
  have HB1 : Hid _ := hb1
  have H2 : Hid _ := h2
  have hL := HL.out.1
  clear hb1 h2
  go_wp2_with fail
  refine (wCount g _ kd (by omega) _ h1).mono ?_
  rintro r w2 ⟨rfl, h3, h4⟩
  have hb2 := h4.box HB1.out (by decide) (by omega)
  obtain ⟨b0, b1, b2⟩ := box3_cell hb2
  have H4 : Hid _ := h4
  have hL2 := HL.out.2.1
  clear hb2 h4
  go_wp2_with fail
  refine (wCount g _ at_ (by omega) _ h3).mono ?_
  rintro r w3 ⟨rfl, h5, h6⟩
  go_wp2
  go_end0
  rw [HL.out.2.2] at h5
  exact ⟨rfl, h5, (OutTo.of (lb_alloc (Below.refl _ _) _)).trans (H2.out.trans (H4.out.trans h6))⟩
theorem wReloc (g : Nat) (l : List Int) (at_ sym : Int) (hl : l.length + 8 ≤ 1048576) (w : World) (ho : OutAt w g l) : Calls Tryz.prog 125 #[.pointer (some ⟨g, 0, none⟩), .agg #[.int .i64 at_, .int .i64 sym]] w (Puts g l (relB (at_, sym)) w) := by
  have hg := ho.lt
  have ho1 := ho.keep (lb_alloc (Below.refl _ _) (.cells #[.int .i64 at_, .int .i64 sym] 83))
  have hb0 : Hid ((w.alloc (.cells #[.int .i64 at_, .int .i64 sym] 83)).heap[w.heap.size]? = some (.cells #[.int .i64 at_, .int .i64 sym] 83 (0, 0))) := heap_alloc_new _ _
  have hL := len_app4 l at_
  have HL : Hid (l ++ be4 at_ ++ be4 sym = l ++ relB (at_, sym)) := by
    show _ = _
    unfold relB; simp
  go_enter Tryz.func125, Tryz.ntmps125
  go_wp2_with fail
  refine (wCount g l at_ (by omega) _ ho1).mono ?_
  rintro r w1 ⟨rfl, h1, h2⟩
  have hb1 := h2.box hb0.out (by decide) (by omega)
  obtain ⟨a0, a1⟩ := box2_cell hb1
  have H2 : Hid _ := h2
  clear hb1 h2
  go_wp2_with fail
  refine (wCount g _ sym (by omega) _ h1).mono ?_
  rintro r w2 ⟨rfl, h3, h4⟩
  go_wp2
  go_end0
  rw [HL.out] at h3
  exact ⟨rfl, h3, (OutTo.of (lb_alloc (Below.refl _ _) _)).trans (H2.out.trans h4)⟩


end Go.Proofs.YthpkekpojhmaaaaGreatDoor

namespace Go.Proofs.YthpkekpojhmaaaaGreatDoor
open Go.RowKit


theorem add0 (j i : Nat) : (⟨j, 0, none⟩ : Addr).add i = ⟨j, i, none⟩ := by
  unfold Addr.add
  split <;> simp_all
theorem conv_own {w : World} {base n : Nat} {v : Value} {l : List Int} (h : w.ownsRow base 5 1 v n (iVals .u8 l)) : (convert 86 9 v).run Tryz.prog w = .ok (.string (strOf l)) w := by
  have hn : l.length = n := by have := h.1; simp [iVals] at this; omega
  rcases h.2 with ⟨rfl, h0⟩ | ⟨j, cap, cur, rfl, hb, hg, hc, _⟩
  · have : l = [] := List.eq_nil_of_length_eq_zero (by omega)
    subst this
    exact run_convert_bytes_nil (w := w) 86 5 Tryz.underlying86 Tryz.underlying5 0 0 9 Tryz.underlying9
  · refine run_convert_bytes_arg (w := w) 86 5 Tryz.underlying86 Tryz.underlying5 j 0 n cap l hn (fun i hi => ?_) 9 Tryz.underlying9
    have := h.cells rfl i (.int .u8 (l.getD i 0)) (by simp [iVals, List.getD, show i < l.length by omega])
    rw [add0] at this
    rw [Nat.zero_add]
    exact this
theorem conv_nil (w : World) : (convert 86 9 (.slice none 0 0)).run Tryz.prog w = .ok (.string ⟨#[]⟩) w := run_convert_bytes_nil (w := w) 86 5 Tryz.underlying86 Tryz.underlying5 0 0 9 Tryz.underlying9
def IsE (u : Value) : Prop := u = .string ⟨#[]⟩
theorem rtext_any (w0 : World) (g : Nat) (A : Option Addr) (c : Nat) (b : List Int) (p : Nat) (w : World) (h : InBy w0 g A c b p w) :
    Calls Tryz.prog 127 #[.pointer (some ⟨g, 0, none⟩)] w (Takes w0 g A c b (tName b ⟨p, 0, 0⟩) (.string) IsE w) := by
  have C := takeBytes 24 (by omega) (by omega) w0 g A c b p w h
  obtain ⟨n1, n2, n3⟩ := name_all b h.areB p
  by_cases hg : (tAll b 24 (tByte b) ⟨p, 0, 0⟩).2.bad = 0
  · obtain ⟨n3, n4⟩ := n3 hg
    have HN : Hid _ := n3
    have HN4 : Hid _ := n4
    have HN1 : Hid _ := n1
    have HG : Hid _ := hg
    clear n1 n2 n3 n4
    go_enter Tryz.func127, Tryz.ntmps127
    go_wp2_with fail
    refine C.mono ?_
    intro r w1 hr
    obtain ⟨v, rfl, ho, hi, hb⟩ := hr.ok hg
    have hcv := conv_own ho
    clear hr hg C
    obtain ⟨As, ns, cs, rfl⟩ := any_form ho
    generalize strOf (tAll b 24 (tByte b) ⟨p, 0, 0⟩).1 = S at *
    go_wp2
    go_ret2
    exact takes_yes hb (HN1.out.trans HG.out) (by rw [HN.out]; rfl) (by rw [HN4.out]; exact hi)
  · have HN1 : Hid _ := n1
    have HN2 : Hid _ := n2
    have HG : Hid _ := hg
    clear n1 n2 n3
    have hcv := conv_nil
    go_enter Tryz.func127, Tryz.ntmps127
    go_wp2_with fail
    refine C.mono ?_
    intro r w1 hr
    obtain ⟨p2, rfl, hi, hb⟩ := hr.err hg
    clear hr hg C
    go_wp2
    go_ret2
    exact takes_no hb (fun e => HG.out (HN1.out.symm.trans e)) rfl HN1.out HN2.out hi
theorem sym_a {b : List Int} {t : Tk} (h : ¬ (tName b t).2.bad = 0) : (tSym b t).2 = (tName b t).2 := by
  unfold tSym
  rw [count_stick h]
  simp only
  rw [count_stick h]
theorem sym_b {b : List Int} {t : Tk} (h : ¬ (tCount b 3 (tName b t).2).2.bad = 0) : (tSym b t).2 = (tCount b 3 (tName b t).2).2 := by
  unfold tSym
  simp only
  rw [count_stick h]
theorem rel_a {b : List Int} {t : Tk} (h : ¬ (tCount b great t).2.bad = 0) : (tRel b t).2 = (tCount b great t).2 := by
  unfold tRel
  simp only
  rw [count_stick h]
theorem plain_sym (b : List Int) (hb : AreB b) : Plain (tSym b) := fun p h => by
  by_cases h1 : (tName b ⟨p, 0, 0⟩).2.bad = 0
  · by_cases h2 : (tCount b 3 (tName b ⟨p, 0, 0⟩).2).2.bad = 0
    · unfold tSym at h ⊢
      simp only at h ⊢
      rw [plain_tk (plain_name b hb) h1] at h2 h ⊢
      rw [plain_tk (plain_count b 3) h2] at h ⊢
      exact plain_count b great _ h
    · rw [sym_b h2] at h; exact absurd h h2
  · rw [sym_a h1] at h; exact absurd h h1
theorem plain_rel (b : List Int) : Plain (tRel b) := fun p h => by
  by_cases h1 : (tCount b great ⟨p, 0, 0⟩).2.bad = 0
  · unfold tRel at h ⊢
    simp only at h ⊢
    rw [plain_tk (plain_count b great) h1] at h ⊢
    exact plain_count b great _ h
  · rw [rel_a h1] at h; exact absurd h h1
theorem InBy.setB {w0 w : World} {g c p : Nat} {A : Option Addr} {b : List Int} (h : InBy w0 g A c b p w) {B : Nat} (hB : B ≠ g) (hB0 : w0.heap.size ≤ B) (i : Nat) (v : Value) : InBy w0 g A c b p (w.setCell ⟨B, i, none⟩ v) :=
  ⟨by rw [Below.heap_setCell _ _ _ _ (by simpa using Ne.symm hB)]; exact h.box, h.ints, h.below.setCell hB0 _, h.le, h.areB, h.len, h.cap, h.pos⟩
theorem but_setB {w w1 : World} {g : Nat} (h : But g w w1) {B : Nat} (hB : w.heap.size ≤ B) (i : Nat) (v : Value) : But g w (w1.setCell ⟨B, i, none⟩ v) :=
  ⟨h.1, h.2.1, h.2.2.1, by simpa [go_sem] using h.2.2.2.1, fun k hk hn => (Below.heap_setCell _ _ _ _ (by show k ≠ B; omega)).trans (h.2.2.2.2 k hk hn)⟩
theorem but_box {w w1 : World} {g : Nat} (h : But g w w1) {B : Nat} {cs : Array Value} {t : TypeId} (hb : w.heap[B]? = some (.cells cs t (0, 0))) (hB : B ≠ g) : w1.heap[B]? = some (.cells cs t (0, 0)) := by
  rw [h.2.2.2.2 B (Array.getElem?_eq_some_iff.1 hb).1 hB]; exact hb
theorem box_set {w : World} {B : Nat} {cs : Array Value} {t : TypeId} (h : w.heap[B]? = some (.cells cs t (0, 0))) (i : Nat) (v : Value) : (w.setCell ⟨B, i, none⟩ v).heap[B]? = some (.cells (cs.setIfInBounds i v) t (0, 0)) := by
  simp [World.setCell, Array.getElem?_modify, h]
theorem box_fro {w : World} {B : Nat} {cs : Array Value} {t : TypeId} (h : w.heap[B]? = some (.cells cs t (0, 0))) (i : Nat) : w.frozen? ⟨B, i, none⟩ = false := by
  simp [World.frozen?, h]
def IsRel (u : Value) : Prop := ∃ x y : Int, u = .agg #[.int .i64 x, .int .i64 y]
def relV (x : Rel) : Value := .agg #[.int .i64 x.1, .int .i64 x.2]
set_option maxRecDepth 100000 in
set_option maxHeartbeats 1000000 in
theorem rreloc_any (w0 : World) (g : Nat) (A : Option Addr) (c : Nat) (b : List Int) (p : Nat) (w : World) (h : InBy w0 g A c b p w) :
    Calls Tryz.prog 136 #[.pointer (some ⟨g, 0, none⟩)] w (Takes w0 g A c b (tRel b ⟨p, 0, 0⟩) relV IsRel w) := by
  have hgw := h.lt
  have hle := h.below.size
  have hin1 := h.keep (lb_alloc (Below.refl _ _) (.cells #[.int .i64 0, .int .i64 0] 83))
  have hbx1 : Hid ((w.alloc (.cells #[.int .i64 0, .int .i64 0] 83)).heap[w.heap.size]? = some (.cells #[.int .i64 0, .int .i64 0] 83 (0, 0))) := heap_alloc_new _ _
  have HB1 : Hid (But g w (w.alloc (.cells #[.int .i64 0, .int .i64 0] 83))) := But.of (lb_alloc (Below.refl _ _) _)
  have C : Calls Tryz.prog 130 #[.pointer (some ⟨g, 0, none⟩), .int .i64 2147483647] (w.alloc (.cells #[.int .i64 0, .int .i64 0] 83)) (Takes w0 g A c b (tCount b great ⟨p, 0, 0⟩) (.int .i64) (IsZ .i64) _) := upto_any 2147483647 (by omega) (by omega) w0 g A c b p _ hin1
  clear h hin1
  by_cases hg : (tCount b great ⟨p, 0, 0⟩).2.bad = 0
  · have HE : Hid (tRel b ⟨p, 0, 0⟩ = (((tCount b great ⟨p, 0, 0⟩).1, (tCount b great ⟨(tCount b great ⟨p, 0, 0⟩).2.pos, 0, 0⟩).1), (tCount b great ⟨(tCount b great ⟨p, 0, 0⟩).2.pos, 0, 0⟩).2)) := by
      show _ = _
      unfold tRel
      rw [← plain_tk (plain_count b great) hg]
    go_enter Tryz.func136, Tryz.ntmps136
    go_wp2_with fail
    refine C.mono ?_
    intro r w2 hr
    obtain ⟨rfl, hin2, hb2⟩ := hr.ok hg
    clear hr hg C
    have hbx2 := but_box hb2 hbx1.out (by omega)
    have HB2 : Hid (But g w w2) := HB1.out.trans hb2
    obtain ⟨d0, d1⟩ := box2_cell hbx2
    have f0 := box_fro hbx2 0
    have f1 := box_fro hbx2 1
    generalize (tCount b great ⟨p, 0, 0⟩).1 = x1 at *
    generalize (tCount b great ⟨p, 0, 0⟩).2.pos = q1 at *
    have HX2 : Hid _ := box_set hbx2 0 (.int .i64 x1)
    have HB3 : Hid _ := but_setB HB2.out (Nat.le_refl _) 0 (.int .i64 x1)
    have C : Calls Tryz.prog 130 #[.pointer (some ⟨g, 0, none⟩), .int .i64 2147483647] (w2.setCell ⟨w.heap.size, 0, none⟩ (.int .i64 x1)) (Takes w0 g A c b (tCount b great ⟨q1, 0, 0⟩) (.int .i64) (IsZ .i64) _) := upto_any 2147483647 (by omega) (by omega) w0 g A c b q1 _ (hin2.setB (by omega) hle 0 (.int .i64 x1))
    have hz2 : w.heap.size < w2.heap.size := by have := hb2.2.2.2.1; simp at this; omega
    clear hb2 hbx2
    by_cases hg : (tCount b great ⟨q1, 0, 0⟩).2.bad = 0
    · go_wp2_with fail
      refine C.mono ?_
      intro r w3 hr
      obtain ⟨rfl, hin3, hb3⟩ := hr.ok hg
      have HG : Hid _ := hg
      clear hr hg C
      have hbx3 := but_box hb3 HX2.out (by omega)
      have HB4 : Hid (But g w w3) := But.trans HB3.out hb3
      obtain ⟨e0, e1⟩ := box2_cell hbx3
      have f0 := box_fro hbx3 0
      have f1 := box_fro hbx3 1
      have hz3 : w.heap.size < w3.heap.size := (Array.getElem?_eq_some_iff.1 hbx3).1
      clear hbx3 hb3
      go_wp2
      exact bodyPost_ret (v := .tuple #[.agg #[.int .i64 x1, .int .i64 (tCount b great ⟨q1, 0, 0⟩).1], .nilIface]) (by simp [results, Tryz.results136, go_sem, e0, e1]) rfl (takes_yes (but_setB (but_setB (but_setB HB4.out (Nat.le_refl _) _ _) (Nat.le_refl _) _ _) (Nat.le_refl _) _ _) (by rw [HE.out]; exact HG.out) (by rw [HE.out]; rfl) (by rw [HE.out]; exact (((hin3.setB (by omega) hle _ _).setB (by omega) hle _ _).setB (by omega) hle _ _)))
    · go_wp2_with fail
      refine C.mono ?_
      intro r w3 hr
      obtain ⟨_, q3, rfl, rfl, hin3, hb3⟩ := hr.err hg
      have HG : Hid _ := hg
      clear hr hg C
      have hbx3 := but_box hb3 HX2.out (by omega)
      have HB4 : Hid (But g w w3) := But.trans HB3.out hb3
      obtain ⟨e0, e1⟩ := box2_cell hbx3
      have f0 := box_fro hbx3 0
      have f1 := box_fro hbx3 1
      have hz3 : w.heap.size < w3.heap.size := (Array.getElem?_eq_some_iff.1 hbx3).1
      clear hbx3 hb3
      generalize (tCount b great ⟨q1, 0, 0⟩).2 = T at *
      go_wp2
      exact bodyPost_ret (v := .tuple #[.agg #[.int .i64 x1, .int .i64 0], .iface 161 (.agg #[.int .i64 T.bad, .int .i64 T.place])]) (by simp [results, Tryz.results136, go_sem, e0, e1]) rfl (takes_no (but_setB (but_setB (but_setB HB4.out (Nat.le_refl _) _ _) (Nat.le_refl _) _ _) (Nat.le_refl _) _ _) (by rw [HE.out]; exact HG.out) ⟨_, _, rfl⟩ (by rw [HE.out]) (by rw [HE.out]) (((hin3.setB (by omega) hle _ _).setB (by omega) hle _ _).setB (by omega) hle _ _))
  · have HE : Hid _ := rel_a hg
    go_enter Tryz.func136, Tryz.ntmps136
    go_wp2_with fail
    refine C.mono ?_
    intro r w2 hr
    obtain ⟨_, q2, rfl, rfl, hin2, hb2⟩ := hr.err hg
    have HG : Hid _ := hg
    clear hr hg C
    have hbx2 := but_box hb2 hbx1.out (by omega)
    have HB2 : Hid (But g w w2) := HB1.out.trans hb2
    obtain ⟨d0, d1⟩ := box2_cell hbx2
    have f0 := box_fro hbx2 0
    have f1 := box_fro hbx2 1
    have hz2 : w.heap.size < w2.heap.size := (Array.getElem?_eq_some_iff.1 hbx2).1
    generalize (tCount b great ⟨p, 0, 0⟩).2 = T at *
    clear hbx2 hb2
    go_wp2
    exact bodyPost_ret (v := .tuple #[.agg #[.int .i64 0, .int .i64 0], .iface 161 (.agg #[.int .i64 T.bad, .int .i64 T.place])]) (by simp [results, Tryz.results136, go_sem, d0, d1]) rfl (takes_no (but_setB (but_setB (but_setB HB2.out (Nat.le_refl _) _ _) (Nat.le_refl _) _ _) (Nat.le_refl _) _ _) (by rw [HE.out]; exact HG.out) ⟨_, _, rfl⟩ (by rw [HE.out]) (by rw [HE.out]) (((hin2.setB (by omega) hle _ _).setB (by omega) hle _ _).setB (by omega) hle _ _))
def IsSym (u : Value) : Prop := ∃ (x : ByteArray) (y z : Int), u = .agg #[.string x, .int .i8 y, .int .i64 z]
def symV (x : Sym) : Value := .agg #[.string x.1, .int .i8 x.2.1, .int .i64 x.2.2]
set_option maxRecDepth 100000 in
set_option maxHeartbeats 1000000 in
theorem rsymbol_any (w0 : World) (g : Nat) (A : Option Addr) (c : Nat) (b : List Int) (p : Nat) (w : World) (h : InBy w0 g A c b p w) :
    Calls Tryz.prog 134 #[.pointer (some ⟨g, 0, none⟩)] w (Takes w0 g A c b (tSym b ⟨p, 0, 0⟩) symV IsSym w) := by
  have hgw := h.lt
  have hle := h.below.size
  have hab := h.areB
  have hin1 := h.keep (lb_alloc (Below.refl _ _) (.cells #[.string ⟨#[]⟩, .int .i8 0, .int .i64 0] 131))
  have hbx1 : Hid ((w.alloc (.cells #[.string ⟨#[]⟩, .int .i8 0, .int .i64 0] 131)).heap[w.heap.size]? = some (.cells #[.string ⟨#[]⟩, .int .i8 0, .int .i64 0] 131 (0, 0))) := heap_alloc_new _ _
  have HB1 : Hid (But g w (w.alloc (.cells #[.string ⟨#[]⟩, .int .i8 0, .int .i64 0] 131))) := But.of (lb_alloc (Below.refl _ _) _)
  have C := rtext_any w0 g A c b p _ hin1
  clear h hin1
  by_cases hg : (tName b ⟨p, 0, 0⟩).2.bad = 0
  · have e1 := plain_tk (plain_name b hab) hg
    have HA2 : Hid (¬ (tCount b 3 ⟨(tName b ⟨p, 0, 0⟩).2.pos, 0, 0⟩).2.bad = 0 → (tSym b ⟨p, 0, 0⟩).2 = (tCount b 3 ⟨(tName b ⟨p, 0, 0⟩).2.pos, 0, 0⟩).2) := fun h => by
      rw [← e1] at h ⊢
      exact sym_b h
    have HE : Hid ((tCount b 3 ⟨(tName b ⟨p, 0, 0⟩).2.pos, 0, 0⟩).2.bad = 0 → tSym b ⟨p, 0, 0⟩ = (((tName b ⟨p, 0, 0⟩).1, (tCount b 3 ⟨(tName b ⟨p, 0, 0⟩).2.pos, 0, 0⟩).1, (tCount b great ⟨(tCount b 3 ⟨(tName b ⟨p, 0, 0⟩).2.pos, 0, 0⟩).2.pos, 0, 0⟩).1), (tCount b great ⟨(tCount b 3 ⟨(tName b ⟨p, 0, 0⟩).2.pos, 0, 0⟩).2.pos, 0, 0⟩).2)) := fun h => by
      have e2 := plain_tk (plain_count b 3) h
      rw [← e2, ← e1]
      rfl
    clear e1
    go_enter Tryz.func134, Tryz.ntmps134
    go_wp2_with fail
    refine C.mono ?_
    intro r w2 hr
    obtain ⟨rfl, hin2, hb2⟩ := hr.ok hg
    clear hr hg C
    have hbx2 := but_box hb2 hbx1.out (by omega)
    have HB2 : Hid (But g w w2) := HB1.out.trans hb2
    obtain ⟨d0, d1, d2⟩ := box3_cell hbx2
    have f0 := box_fro hbx2 0
    have f1 := box_fro hbx2 1
    have f2 := box_fro hbx2 2
    generalize (tName b ⟨p, 0, 0⟩).1 = x1 at *
    generalize (tName b ⟨p, 0, 0⟩).2.pos = q1 at *
    have HX2 : Hid ((w2.setCell ⟨w.heap.size, 0, none⟩ (.string x1)).heap[w.heap.size]? = some (.cells #[.string x1, .int .i8 0, .int .i64 0] 131 (0, 0))) := box_set hbx2 0 (.string x1)
    have HB3 : Hid _ := but_setB HB2.out (Nat.le_refl _) 0 (.string x1)
    have C := upto_any 3 (by omega) (by omega) w0 g A c b q1 _ (hin2.setB (by omega) hle 0 (.string x1))
    have hz2 : w.heap.size < w2.heap.size := (Array.getElem?_eq_some_iff.1 hbx2).1
    clear hb2 hbx2
    by_cases hg : (tCount b 3 ⟨q1, 0, 0⟩).2.bad = 0
    · have HE2 : Hid _ := HE.out hg
      obtain ⟨r1, r2⟩ := count_range hab hg
      clear HE HA2
      go_wp2_with fail
      refine C.mono ?_
      intro r w3 hr
      obtain ⟨rfl, hin3, hb3⟩ := hr.ok hg
      clear hr hg C
      have hbx3 := but_box hb3 HX2.out (by omega)
      have HB4 : Hid (But g w w3) := But.trans HB3.out hb3
      obtain ⟨e0, e1, e2⟩ := box3_cell hbx3
      have f0 := box_fro hbx3 0
      have f1 := box_fro hbx3 1
      have f2 := box_fro hbx3 2
      have hz3 : w.heap.size < w3.heap.size := (Array.getElem?_eq_some_iff.1 hbx3).1
      generalize (tCount b 3 ⟨q1, 0, 0⟩).1 = x2 at *
      generalize (tCount b 3 ⟨q1, 0, 0⟩).2.pos = q2 at *
      have HX3 : Hid ((w3.setCell ⟨w.heap.size, 1, none⟩ (.int .i8 x2)).heap[w.heap.size]? = some (.cells #[.string x1, .int .i8 x2, .int .i64 0] 131 (0, 0))) := box_set hbx3 1 (.int .i8 x2)
      have HB5 : Hid _ := but_setB HB4.out (Nat.le_refl _) 1 (.int .i8 x2)
      have C : Calls Tryz.prog 130 #[.pointer (some ⟨g, 0, none⟩), .int .i64 2147483647] (w3.setCell ⟨w.heap.size, 1, none⟩ (.int .i8 x2)) (Takes w0 g A c b (tCount b great ⟨q2, 0, 0⟩) (.int .i64) (IsZ .i64) _) := upto_any 2147483647 (by omega) (by omega) w0 g A c b q2 _ (hin3.setB (by omega) hle 1 (.int .i8 x2))
      clear hb3 hbx3
      by_cases hg : (tCount b great ⟨q2, 0, 0⟩).2.bad = 0
      · go_wp2_with fail
        refine C.mono ?_
        intro r w4 hr
        obtain ⟨rfl, hin4, hb4⟩ := hr.ok hg
        have HG : Hid _ := hg
        clear hr hg C
        have hbx4 := but_box hb4 HX3.out (by omega)
        have HB6 : Hid (But g w w4) := But.trans HB5.out hb4
        obtain ⟨g0, g1, g2⟩ := box3_cell hbx4
        have f0 := box_fro hbx4 0
        have f1 := box_fro hbx4 1
        have f2 := box_fro hbx4 2
        have hz4 : w.heap.size < w4.heap.size := (Array.getElem?_eq_some_iff.1 hbx4).1
        clear hbx4 hb4
        go_wp2
        exact bodyPost_ret (v := .tuple #[.agg #[.string x1, .int .i8 x2, .int .i64 (tCount b great ⟨q2, 0, 0⟩).1], .nilIface]) (by simp [results, Tryz.results134, go_sem, g0, g1, g2]) rfl (takes_yes (but_setB (but_setB (but_setB (but_setB HB6.out (Nat.le_refl _) _ _) (Nat.le_refl _) _ _) (Nat.le_refl _) _ _) (Nat.le_refl _) _ _) (by rw [HE2.out]; exact HG.out) (by rw [HE2.out]; rfl) (by rw [HE2.out]; exact ((((hin4.setB (by omega) hle _ _).setB (by omega) hle _ _).setB (by omega) hle _ _).setB (by omega) hle _ _)))
      · go_wp2_with fail
        refine C.mono ?_
        intro r w4 hr
        obtain ⟨_, q4, rfl, rfl, hin4, hb4⟩ := hr.err hg
        have HG : Hid _ := hg
        clear hr hg C
        have hbx4 := but_box hb4 HX3.out (by omega)
        have HB6 : Hid (But g w w4) := But.trans HB5.out hb4
        obtain ⟨g0, g1, g2⟩ := box3_cell hbx4
        have f0 := box_fro hbx4 0
        have f1 := box_fro hbx4 1
        have f2 := box_fro hbx4 2
        have hz4 : w.heap.size < w4.heap.size := (Array.getElem?_eq_some_iff.1 hbx4).1
        clear hbx4 hb4
        generalize (tCount b great ⟨q2, 0, 0⟩).2 = T at *
        go_wp2
        exact bodyPost_ret (v := .tuple #[.agg #[.string x1, .int .i8 x2, .int .i64 0], .iface 161 (.agg #[.int .i64 T.bad, .int .i64 T.place])]) (by simp [results, Tryz.results134, go_sem, g0, g1, g2]) rfl (takes_no (but_setB (but_setB (but_setB (but_setB HB6.out (Nat.le_refl _) _ _) (Nat.le_refl _) _ _) (Nat.le_refl _) _ _) (Nat.le_refl _) _ _) (by rw [HE2.out]; exact HG.out) ⟨_, _, _, rfl⟩ (by rw [HE2.out]) (by rw [HE2.out]) ((((hin4.setB (by omega) hle _ _).setB (by omega) hle _ _).setB (by omega) hle _ _).setB (by omega) hle _ _))
    · have HE2 : Hid _ := HA2.out hg
      clear HE HA2
      go_wp2_with fail
      refine C.mono ?_
      intro r w3 hr
      obtain ⟨_, q3, rfl, rfl, hin3, hb3⟩ := hr.err hg
      have HG : Hid _ := hg
      clear hr hg C
      have hbx3 := but_box hb3 HX2.out (by omega)
      have HB4 : Hid (But g w w3) := But.trans HB3.out hb3
      obtain ⟨e0, e1, e2⟩ := box3_cell hbx3
      have f0 := box_fro hbx3 0
      have f1 := box_fro hbx3 1
      have f2 := box_fro hbx3 2
      have hz3 : w.heap.size < w3.heap.size := (Array.getElem?_eq_some_iff.1 hbx3).1
      clear hb3 hbx3
      generalize (tCount b 3 ⟨q1, 0, 0⟩).2 = T at *
      go_wp2
      exact bodyPost_ret (v := .tuple #[.agg #[.string x1, .int .i8 0, .int .i64 0], .iface 161 (.agg #[.int .i64 T.bad, .int .i64 T.place])]) (by simp [results, Tryz.results134, go_sem, e0, e1, e2]) rfl (takes_no (but_setB (but_setB (but_setB HB4.out (Nat.le_refl _) _ _) (Nat.le_refl _) _ _) (Nat.le_refl _) _ _) (by rw [HE2.out]; exact HG.out) ⟨_, _, _, rfl⟩ (by rw [HE2.out]) (by rw [HE2.out]) (((hin3.setB (by omega) hle _ _).setB (by omega) hle _ _).setB (by omega) hle _ _))
  · have HE : Hid _ := sym_a hg
    go_enter Tryz.func134, Tryz.ntmps134
    go_wp2_with fail
    refine C.mono ?_
    intro r w2 hr
    obtain ⟨_, q2, rfl, rfl, hin2, hb2⟩ := hr.err hg
    have HG : Hid _ := hg
    clear hr hg C
    have hbx2 := but_box hb2 hbx1.out (by omega)
    have HB2 : Hid (But g w w2) := HB1.out.trans hb2
    obtain ⟨d0, d1, d2⟩ := box3_cell hbx2
    have f0 := box_fro hbx2 0
    have f1 := box_fro hbx2 1
    have f2 := box_fro hbx2 2
    have hz2 : w.heap.size < w2.heap.size := (Array.getElem?_eq_some_iff.1 hbx2).1
    generalize (tName b ⟨p, 0, 0⟩).2 = T at *
    clear hbx2 hb2
    go_wp2
    exact bodyPost_ret (v := .tuple #[.agg #[.string ⟨#[]⟩, .int .i8 0, .int .i64 0], .iface 161 (.agg #[.int .i64 T.bad, .int .i64 T.place])]) (by simp [results, Tryz.results134, go_sem, d0, d1, d2]) rfl (takes_no (but_setB (but_setB (but_setB (but_setB HB2.out (Nat.le_refl _) _ _) (Nat.le_refl _) _ _) (Nat.le_refl _) _ _) (Nat.le_refl _) _ _) (by rw [HE.out]; exact HG.out) ⟨_, _, _, rfl⟩ (by rw [HE.out]) (by rw [HE.out]) ((((hin2.setB (by omega) hle _ _).setB (by omega) hle _ _).setB (by omega) hle _ _).setB (by omega) hle _ _))


end Go.Proofs.YthpkekpojhmaaaaGreatDoor

namespace Go.Proofs.YthpkekpojhmaaaaGreatDoor
open Go.RowKit


def sVals (zs : List Sym) : List Value := zs.flatMap fun x => [.string x.1, .int .i8 x.2.1, .int .i64 x.2.2]
theorem sVals_snoc (zs : List Sym) (x : ByteArray) (y z : Int) : sVals (zs ++ [(x, y, z)]) = sVals zs ++ [.string x, .int .i8 y, .int .i64 z] := by simp [sVals]
def rVals (zs : List Rel) : List Value := zs.flatMap fun x => [.int .i64 x.1, .int .i64 x.2]
theorem rVals_snoc (zs : List Rel) (x y : Int) : rVals (zs ++ [(x, y)]) = rVals zs ++ [.int .i64 x, .int .i64 y] := by simp [rVals]

theorem info_takeSyms : ∃ i, Tryz.prog.info? 131 = some i ∧ i.zero = some (.agg #[.string ⟨#[]⟩, .int .i8 0, .int .i64 0]) ∧ i.size = 3 ∧ i.bytes = 32 :=
  ⟨(Tryz.prog.info? 131).get (by kernel_rfl), by kernel_rfl, by kernel_rfl, by kernel_rfl, by kernel_rfl⟩
set_option maxRecDepth 100000 in
set_option maxHeartbeats 2000000 in
theorem takeSyms (m : Int) (hm0 : 0 ≤ m) (hm1 : m ≤ 1048576) (w0 : World) (g : Nat) (A : Option Addr) (c : Nat) (b : List Int) (p : Nat) (w : World) (h : InBy w0 g A c b p w) :
    Calls Tryz.prog 133 #[.pointer (some ⟨g, 0, none⟩), .int .i64 m, .func (.func 134) #[.pointer (some ⟨g, 0, none⟩)] #[]] w (TakesL 131 3 sVals w0 g A c b (tAll b m (tSym b) ⟨p, 0, 0⟩) w) := by
  obtain ⟨i0, hi, hz0, hz1, hz2⟩ := info_takeSyms
  have C := upto_any m hm0 (by omega) w0 g A c b p w h
  have hgw := h.lt
  have hab := h.areB
  by_cases hg : (tCount b m ⟨p, 0, 0⟩).2.bad = 0
  · obtain ⟨r0, r1⟩ := count_range hab hg
    have HA : Hid (tAll b m (tSym b) ⟨p, 0, 0⟩ = tList (tSym b) (tCount b m ⟨p, 0, 0⟩).1.toNat ⟨(tCount b m ⟨p, 0, 0⟩).2.pos, 0, 0⟩) := by
      show _ = _
      unfold tAll
      rw [← plain_tk (plain_count b m) hg]
    have HG : Hid _ := hg
    obtain ⟨n, hn⟩ := Int.eq_ofNat_of_zero_le r0
    go_enter Tryz.func133, Tryz.ntmps133
    go_wp2_with fail
    refine C.mono ?_
    intro r w1 hr
    obtain ⟨rfl, hi1, hb1⟩ := hr.ok hg
    rw [hn]
    rw [hn] at r1
    have hn2 : (tCount b m ⟨p, 0, 0⟩).1.toNat = n := by rw [hn]; rfl
    have HA2 : Hid _ := HA.out
    rw [hn2] at HA2
    have H1 : Hid _ := hi1
    have B1 : Hid (But g w w1) := hb1
    generalize (tCount b m ⟨p, 0, 0⟩).2.pos = q0 at *
    clear hr hi1 hb1 hg HG HA hn hn2 C r0 h
    go_wp2
    go_loopw [23, 10] (fun i s wr => ∃ (k q : Nat) (done : List Sym), i = .int .i64 k ∧ Far (tSym b) n ⟨q0, 0, 0⟩ k done q ∧ wr.ownsRow w.heap.size 131 3 s k (sVals done) ∧ InBy w0 g A c b q wr ∧ But g w wr) (fun i _ _ => n - (intOf i).toNat)
    case atStart => exact ⟨0, q0, [], rfl, far_start _ _ _, World.ownsRow_nil _ _ _ _, H1.out, B1.out⟩
    case round =>
      obtain ⟨k, q, done, rfl, hfar, hown, hin, hbut⟩ := hrel
      have hdl := hfar.1
      have hkn := hfar.2.1
      have HF : Hid (Far (tSym b) n ⟨q0, 0, 0⟩ k done q) := hfar
      have B2 : Hid (But g w wr) := hbut
      have hsz := hbut.2.2.2.1
      obtain ⟨As, ns, cs, rfl⟩ := any_form hown
      clear hfar hbut
      by_cases hlt : k < n
      · have C := rsymbol_any w0 g A c b q wr hin
        by_cases hg : (tSym b ⟨q, 0, 0⟩).2.bad = 0
        · go_wp2_with fail
          refine C.mono ?_
          intro r w2 hr
          obtain ⟨rfl, hin2, hb2⟩ := hr.ok hg
          have HX : Hid _ := far_next (plain_sym b hab) HF.out hlt hg
          have hown2 := row_but hown hgw hb2
          have hsz2 := hb2.2.2.2.1
          clear hr C hown hin
          have HB2 : Hid (But g w w2) := B2.out.trans hb2
          clear hb2 hg
          generalize tSym b ⟨q, 0, 0⟩ = F at *
          obtain ⟨⟨x1, x2, x3⟩, t⟩ := F
          simp only at hin2 HX ⊢
          unfold symV
          have hin3 := hin2.keep (lb_alloc (Below.refl _ _) (.cells #[.string x1, .int .i8 x2, .int .i64 x3] 131))
          have hown3 := hown2.alloc (.cells #[.string x1, .int .i8 x2, .int .i64 x3] 131)
          have HB3 : Hid (But g w (w2.alloc (.cells #[.string x1, .int .i8 x2, .int .i64 x3] 131))) := HB2.out.on (lb_alloc (Below.refl _ _) _)
          have hin4' := hin3.keep (lb_alloc (Below.refl _ _) (.cells #[.string x1, .int .i8 x2, .int .i64 x3] 131))
          have hown4' := hown3.alloc (.cells #[.string x1, .int .i8 x2, .int .i64 x3] 131)
          have HB4 : Hid (But g w ((w2.alloc (.cells #[.string x1, .int .i8 x2, .int .i64 x3] 131)).alloc (.cells #[.string x1, .int .i8 x2, .int .i64 x3] 131))) := HB3.out.on (lb_alloc (Below.refl _ _) _)
          have hc : ∀ j u, ([.string x1, .int .i8 x2, .int .i64 x3] : List Value)[j]? = some u → ((w2.alloc (.cells #[.string x1, .int .i8 x2, .int .i64 x3] 131)).alloc (.cells #[.string x1, .int .i8 x2, .int .i64 x3] 131)).cell? ((⟨w2.heap.size + 1, 0, none⟩ : Addr).add j) = some u := by
            have := new_cells (w2.alloc (.cells #[.string x1, .int .i8 x2, .int .i64 x3] 131)) [.string x1, .int .i8 x2, .int .i64 x3] 131 (by simp)
            rw [show (w2.alloc (.cells #[.string x1, .int .i8 x2, .int .i64 x3] 131)).heap.size = w2.heap.size + 1 by simp] at this
            exact this
          have hone : ∀ u ∈ ([.string x1, .int .i8 x2, .int .i64 x3] : List Value), u.oneCell' = true := by simp [Value.oneCell']
          go_wp2_with (at_builtin; refine wpList_append_own _ rfl (.tmp 33) (.tmp 35) 72 rfl w.heap.size 131 i0 (.agg #[.string ⟨#[]⟩, .int .i8 0, .int .i64 0]) 3 32 Tryz.underlying72 hi hz0 hz1 hz2 rfl (by decide) (.slice As ns cs) k (sVals done) rfl hown4' ⟨w2.heap.size + 1, 0, none⟩ 1 1 [.string x1, .int .i8 x2, .int .i64 x3] rfl rfl hc hone (by unfold maxLen; omega) (by omega) (by simp; omega) ?_; intro v' w' hown' hgrow hnil)
          have hr4 : ∀ j, (Value.slice As ns cs).ownBlock = some j → w.heap.size ≤ j := fun j hj => (hown4'.lt j hj).1
          have hin4 := in_grown hin4' hgrow hr4 hgw
          have hb4 := but_grown HB4.out hgrow hr4
          go_roundw
          case rel => exact ⟨k + 1, _, _, by go_num, HX.out, by rw [show sVals (done ++ [_]) = sVals done ++ [.string x1, .int .i8 x2, .int .i64 x3] from sVals_snoc _ _ _ _]; exact hown', hin4, hb4⟩
          case measure => simp [intOf]; omega
        · go_wp2_with fail
          refine C.mono ?_
          intro r w2 hr
          obtain ⟨_, p2, ⟨y1, y2, y3, rfl⟩, rfl, hin2, hb2⟩ := hr.err hg
          have HX : Hid _ := far_bad HF.out hlt hg
          have HG : Hid _ := hg
          clear hr hg C
          generalize tSym b ⟨q, 0, 0⟩ = F at *
          go_wp2
          go_ret2
          exact takesL_no ((B2.out.trans hb2).on (lb_alloc (Below.refl _ _) _)) (by rw [HA2.out]; exact HX.out) HG.out (hin2.keep (lb_alloc (Below.refl _ _) _))
      · obtain rfl : k = n := by omega
        go_wp2
        go_ret2
        exact takesL_yes B2.out (by rw [HA2.out]; exact far_end HF.out) (by rw [hdl]; exact hown) hin
  · have HA : Hid _ := all_bad (f := tSym b) hg
    have HG : Hid _ := hg
    go_enter Tryz.func133, Tryz.ntmps133
    go_wp2_with fail
    refine C.mono ?_
    intro r w1 hr
    obtain ⟨_, p2, rfl, rfl, hi1, hb1⟩ := hr.err hg
    clear hr hg
    generalize (tCount b m ⟨p, 0, 0⟩).2 = T at *
    go_wp2
    go_ret2
    exact takesL_no hb1 HA.out HG.out hi1

theorem info_takeRels : ∃ i, Tryz.prog.info? 83 = some i ∧ i.zero = some (.agg #[.int .i64 0, .int .i64 0]) ∧ i.size = 2 ∧ i.bytes = 16 :=
  ⟨(Tryz.prog.info? 83).get (by kernel_rfl), by kernel_rfl, by kernel_rfl, by kernel_rfl, by kernel_rfl⟩
set_option maxRecDepth 100000 in
set_option maxHeartbeats 2000000 in
theorem takeRels (m : Int) (hm0 : 0 ≤ m) (hm1 : m ≤ 1048576) (w0 : World) (g : Nat) (A : Option Addr) (c : Nat) (b : List Int) (p : Nat) (w : World) (h : InBy w0 g A c b p w) :
    Calls Tryz.prog 135 #[.pointer (some ⟨g, 0, none⟩), .int .i64 m, .func (.func 136) #[.pointer (some ⟨g, 0, none⟩)] #[]] w (TakesL 83 2 rVals w0 g A c b (tAll b m (tRel b) ⟨p, 0, 0⟩) w) := by
  obtain ⟨i0, hi, hz0, hz1, hz2⟩ := info_takeRels
  have C := upto_any m hm0 (by omega) w0 g A c b p w h
  have hgw := h.lt
  have hab := h.areB
  by_cases hg : (tCount b m ⟨p, 0, 0⟩).2.bad = 0
  · obtain ⟨r0, r1⟩ := count_range hab hg
    have HA : Hid (tAll b m (tRel b) ⟨p, 0, 0⟩ = tList (tRel b) (tCount b m ⟨p, 0, 0⟩).1.toNat ⟨(tCount b m ⟨p, 0, 0⟩).2.pos, 0, 0⟩) := by
      show _ = _
      unfold tAll
      rw [← plain_tk (plain_count b m) hg]
    have HG : Hid _ := hg
    obtain ⟨n, hn⟩ := Int.eq_ofNat_of_zero_le r0
    go_enter Tryz.func135, Tryz.ntmps135
    go_wp2_with fail
    refine C.mono ?_
    intro r w1 hr
    obtain ⟨rfl, hi1, hb1⟩ := hr.ok hg
    rw [hn]
    rw [hn] at r1
    have hn2 : (tCount b m ⟨p, 0, 0⟩).1.toNat = n := by rw [hn]; rfl
    have HA2 : Hid _ := HA.out
    rw [hn2] at HA2
    have H1 : Hid _ := hi1
    have B1 : Hid (But g w w1) := hb1
    generalize (tCount b m ⟨p, 0, 0⟩).2.pos = q0 at *
    clear hr hi1 hb1 hg HG HA hn hn2 C r0 h
    go_wp2
    go_loopw [23, 10] (fun i s wr => ∃ (k q : Nat) (done : List Rel), i = .int .i64 k ∧ Far (tRel b) n ⟨q0, 0, 0⟩ k done q ∧ wr.ownsRow w.heap.size 83 2 s k (rVals done) ∧ InBy w0 g A c b q wr ∧ But g w wr) (fun i _ _ => n - (intOf i).toNat)
    case atStart => exact ⟨0, q0, [], rfl, far_start _ _ _, World.ownsRow_nil _ _ _ _, H1.out, B1.out⟩
    case round =>
      obtain ⟨k, q, done, rfl, hfar, hown, hin, hbut⟩ := hrel
      have hdl := hfar.1
      have hkn := hfar.2.1
      have HF : Hid (Far (tRel b) n ⟨q0, 0, 0⟩ k done q) := hfar
      have B2 : Hid (But g w wr) := hbut
      have hsz := hbut.2.2.2.1
      obtain ⟨As, ns, cs, rfl⟩ := any_form hown
      clear hfar hbut
      by_cases hlt : k < n
      · have C := rreloc_any w0 g A c b q wr hin
        by_cases hg : (tRel b ⟨q, 0, 0⟩).2.bad = 0
        · go_wp2_with fail
          refine C.mono ?_
          intro r w2 hr
          obtain ⟨rfl, hin2, hb2⟩ := hr.ok hg
          have HX : Hid _ := far_next (plain_rel b) HF.out hlt hg
          have hown2 := row_but hown hgw hb2
          have hsz2 := hb2.2.2.2.1
          clear hr C hown hin
          have HB2 : Hid (But g w w2) := B2.out.trans hb2
          clear hb2 hg
          generalize tRel b ⟨q, 0, 0⟩ = F at *
          obtain ⟨⟨x1, x2⟩, t⟩ := F
          simp only at hin2 HX ⊢
          unfold relV
          have hin3 := hin2.keep (lb_alloc (Below.refl _ _) (.cells #[.int .i64 x1, .int .i64 x2] 83))
          have hown3 := hown2.alloc (.cells #[.int .i64 x1, .int .i64 x2] 83)
          have HB3 : Hid (But g w (w2.alloc (.cells #[.int .i64 x1, .int .i64 x2] 83))) := HB2.out.on (lb_alloc (Below.refl _ _) _)
          have hin4' := hin3.keep (lb_alloc (Below.refl _ _) (.cells #[.int .i64 x1, .int .i64 x2] 83))
          have hown4' := hown3.alloc (.cells #[.int .i64 x1, .int .i64 x2] 83)
          have HB4 : Hid (But g w ((w2.alloc (.cells #[.int .i64 x1, .int .i64 x2] 83)).alloc (.cells #[.int .i64 x1, .int .i64 x2] 83))) := HB3.out.on (lb_alloc (Below.refl _ _) _)
          have hc : ∀ j u, ([.int .i64 x1, .int .i64 x2] : List Value)[j]? = some u → ((w2.alloc (.cells #[.int .i64 x1, .int .i64 x2] 83)).alloc (.cells #[.int .i64 x1, .int .i64 x2] 83)).cell? ((⟨w2.heap.size + 1, 0, none⟩ : Addr).add j) = some u := by
            have := new_cells (w2.alloc (.cells #[.int .i64 x1, .int .i64 x2] 83)) [.int .i64 x1, .int .i64 x2] 83 (by simp)
            rw [show (w2.alloc (.cells #[.int .i64 x1, .int .i64 x2] 83)).heap.size = w2.heap.size + 1 by simp] at this
            exact this
          have hone : ∀ u ∈ ([.int .i64 x1, .int .i64 x2] : List Value), u.oneCell' = true := by simp [Value.oneCell']
          go_wp2_with (at_builtin; refine wpList_append_own _ rfl (.tmp 33) (.tmp 35) 73 rfl w.heap.size 83 i0 (.agg #[.int .i64 0, .int .i64 0]) 2 16 Tryz.underlying73 hi hz0 hz1 hz2 rfl (by decide) (.slice As ns cs) k (rVals done) rfl hown4' ⟨w2.heap.size + 1, 0, none⟩ 1 1 [.int .i64 x1, .int .i64 x2] rfl rfl hc hone (by unfold maxLen; omega) (by omega) (by simp; omega) ?_; intro v' w' hown' hgrow hnil)
          have hr4 : ∀ j, (Value.slice As ns cs).ownBlock = some j → w.heap.size ≤ j := fun j hj => (hown4'.lt j hj).1
          have hin4 := in_grown hin4' hgrow hr4 hgw
          have hb4 := but_grown HB4.out hgrow hr4
          go_roundw
          case rel => exact ⟨k + 1, _, _, by go_num, HX.out, by rw [show rVals (done ++ [_]) = rVals done ++ [.int .i64 x1, .int .i64 x2] from rVals_snoc _ _ _]; exact hown', hin4, hb4⟩
          case measure => simp [intOf]; omega
        · go_wp2_with fail
          refine C.mono ?_
          intro r w2 hr
          obtain ⟨_, p2, ⟨y1, y2, rfl⟩, rfl, hin2, hb2⟩ := hr.err hg
          have HX : Hid _ := far_bad HF.out hlt hg
          have HG : Hid _ := hg
          clear hr hg C
          generalize tRel b ⟨q, 0, 0⟩ = F at *
          go_wp2
          go_ret2
          exact takesL_no ((B2.out.trans hb2).on (lb_alloc (Below.refl _ _) _)) (by rw [HA2.out]; exact HX.out) HG.out (hin2.keep (lb_alloc (Below.refl _ _) _))
      · obtain rfl : k = n := by omega
        go_wp2
        go_ret2
        exact takesL_yes B2.out (by rw [HA2.out]; exact far_end HF.out) (by rw [hdl]; exact hown) hin
  · have HA : Hid _ := all_bad (f := tRel b) hg
    have HG : Hid _ := hg
    go_enter Tryz.func135, Tryz.ntmps135
    go_wp2_with fail
    refine C.mono ?_
    intro r w1 hr
    obtain ⟨_, p2, rfl, rfl, hi1, hb1⟩ := hr.err hg
    clear hr hg
    generalize (tCount b m ⟨p, 0, 0⟩).2 = T at *
    go_wp2
    go_ret2
    exact takesL_no hb1 HA.out HG.out hi1


end Go.Proofs.YthpkekpojhmaaaaGreatDoor

namespace Go.Proofs.YthpkekpojhmaaaaGreatDoor
open Go.RowKit

/-- A number, or 0. -/
def rfs (b : Bool) (e : Int) : Int := match b with
  | true => e
  | false => 0
theorem refuse_yes (e n : Int) (w : World) : Calls Tryz.prog 151 #[.bool true, .int .i64 e, .int .i64 n] w fun r w' => r = .returned (.tuple #[.int .i64 (rfs true e), .int .i64 (rfs true n)]) ∧ w' = w := by
  go_enter Tryz.func151, Tryz.ntmps151
  go_wp2
  go_ret2
  exact ⟨rfl, rfl⟩
theorem refuse_no (e n : Int) (w : World) : Calls Tryz.prog 151 #[.bool false, .int .i64 e, .int .i64 n] w fun r w' => r = .returned (.tuple #[.int .i64 (rfs false e), .int .i64 (rfs false n)]) ∧ w' = w := by
  go_enter Tryz.func151, Tryz.ntmps151
  go_wp2
  go_ret2
  exact ⟨rfl, rfl⟩
theorem fits_any (a n : Int) (ha : -9223372036854775808 ≤ a) (ha2 : a ≤ 9223372036854775807) (w : World) : Calls Tryz.prog 157 #[.int .i64 a, .int .i64 n] w fun r w' => r = .returned (.bool (decide (0 ≤ a ∧ n ≤ 4096 - a))) ∧ w' = w := by
  by_cases h0 : 0 ≤ a
  · by_cases h1 : n ≤ 4096 - a
    · rw [decide_eq_true ⟨h0, h1⟩]
      go_enter Tryz.func157, Tryz.ntmps157
      go_wp2
      go_ret
      exact ⟨by first | rfl | (simp [*]; done), rfl⟩
    · rw [decide_eq_false (by omega)]
      go_enter Tryz.func157, Tryz.ntmps157
      go_wp2
      go_ret
      exact ⟨by first | rfl | (simp [*]; done), rfl⟩
  · rw [decide_eq_false (by omega)]
    go_enter Tryz.func157, Tryz.ntmps157
    go_wp2
    go_ret
    exact ⟨by first | rfl | (simp [*]; done), rfl⟩
def lastP (kd : Int) (nc : Nat) : Int := if kd = 3 then 0 else nc
theorem last_any (nm : ByteArray) (dA kd : Int) (A1 A2 A3 A4 : Option Addr) (nc c1 nd c2 ns c3 nr c4 : Nat) (w : World) : Calls Tryz.prog 179 #[.agg #[.string nm, .slice A1 nc c1, .int .i64 dA, .slice A2 nd c2, .slice A3 ns c3, .slice A4 nr c4], .int .i8 kd] w fun r w' => r = .returned (.int .i64 (lastP kd nc)) ∧ Below w.heap.size w w' := by
  cases h : (kd == 3) with
  | true =>
    rw [show lastP kd nc = 0 by unfold lastP; rw [if_pos (by simpa using h)]]
    go_enter Tryz.func179, Tryz.ntmps179
    go_wp2
    go_ret
    exact ⟨rfl, lb_alloc (Below.refl _ _) _⟩
  | false =>
    rw [show lastP kd nc = nc by unfold lastP; rw [if_neg (by simpa using h)]]
    go_enter Tryz.func179, Tryz.ntmps179
    go_wp2
    go_ret
    exact ⟨rfl, lb_alloc (Below.refl _ _) _⟩





end Go.Proofs.YthpkekpojhmaaaaGreatDoor

namespace Go.Proofs.YthpkekpojhmaaaaGreatDoor
open Go.RowKit

def ansQ (nm : ByteArray) (code : List Int) (dA : Int) (nd : Nat) (ss : List Sym) (rs : List Rel) : Nat → Int × Int
  | 0 => (rfs (!nameOK nm) 20, rfs (!nameOK nm) (-1))
  | 1 => (rfs (decide (16384 < code.length)) 21, rfs (decide (16384 < code.length)) (-1))
  | 2 => (rfs (decide (256 < ss.length)) 21, rfs (decide (256 < ss.length)) (-2))
  | 3 => (rfs (decide (code.length < rs.length)) 21, rfs (decide (code.length < rs.length)) (-3))
  | 4 => (rfs (!decide (0 ≤ dA ∧ (nd : Int) ≤ 4096 - dA)) 25, rfs (!decide (0 ≤ dA ∧ (nd : Int) ≤ 4096 - dA)) (-1))
  | 5 => symC ss code.length
  | 6 => relC rs code ss.length
  | 7 => codC code
  | _ => (0, 0)
theorem rfs_zero {b : Bool} {e : Int} (he : ¬ e = 0) (h : rfs b e = 0) : b = false := by
  cases b with
  | false => rfl
  | true => exact absurd h he
theorem rfs_not {b : Bool} {e : Int} (h : ¬ rfs b e = 0) : b = true := by
  cases b with
  | false => exact absurd rfl h
  | true => rfl
theorem z0 {nm : ByteArray} {code : List Int} {dA : Int} {nd : Nat} {ss : List Sym} {rs : List Rel} (h : (ansQ nm code dA nd ss rs 0).1 = 0) : ¬ nameOK nm = false := by
  have := rfs_zero (by omega) h
  simpa using this
theorem z1 {nm : ByteArray} {code : List Int} {dA : Int} {nd : Nat} {ss : List Sym} {rs : List Rel} (h : (ansQ nm code dA nd ss rs 1).1 = 0) : ¬ 16384 < code.length := of_decide_eq_false (rfs_zero (by omega) h)
theorem z2 {nm : ByteArray} {code : List Int} {dA : Int} {nd : Nat} {ss : List Sym} {rs : List Rel} (h : (ansQ nm code dA nd ss rs 2).1 = 0) : ¬ 256 < ss.length := of_decide_eq_false (rfs_zero (by omega) h)
theorem z3 {nm : ByteArray} {code : List Int} {dA : Int} {nd : Nat} {ss : List Sym} {rs : List Rel} (h : (ansQ nm code dA nd ss rs 3).1 = 0) : ¬ code.length < rs.length := of_decide_eq_false (rfs_zero (by omega) h)
theorem z4 {nm : ByteArray} {code : List Int} {dA : Int} {nd : Nat} {ss : List Sym} {rs : List Rel} (h : (ansQ nm code dA nd ss rs 4).1 = 0) : ¬ (dA < 0 ∨ 4096 < dA ∨ 4096 - dA < (nd : Int)) := by
  have := rfs_zero (by omega) h
  rw [Bool.not_eq_false'] at this
  have := of_decide_eq_true this
  omega
theorem cod_zero {code : List Int} (h : (codC code).1 = 0) : codC code = (0, 0) := by
  unfold codC at h ⊢
  split at h
  · next h1 => rw [if_pos h1]
  · omega
theorem size_zero {nm : ByteArray} {code : List Int} {dA : Int} {nd : Nat} {ss : List Sym} {rs : List Rel} {k : Nat} (h : ∀ j, j < k → (ansQ nm code dA nd ss rs j).1 = 0) (hk : 5 ≤ k) : sizeC (nameOK nm) code.length ss.length rs.length nd dA = (0, 0) := by
  unfold sizeC; rw [if_neg (z0 (h 0 (by omega))), if_neg (z1 (h 1 (by omega))), if_neg (z2 (h 2 (by omega))), if_neg (z3 (h 3 (by omega))), if_neg (z4 (h 4 (by omega)))]
theorem ans_hit {nm : ByteArray} {code : List Int} {dA : Int} {nd : Nat} {ss : List Sym} {rs : List Rel} : ∀ (k : Nat), k < 8 → (∀ j, j < k → (ansQ nm code dA nd ss rs j).1 = 0) → ¬ (ansQ nm code dA nd ss rs k).1 = 0 → checkC nm code dA nd ss rs = ansQ nm code dA nd ss rs k
  | 0, _, _, e => by
    have hb : (!nameOK nm) = true := rfs_not e
    have hn : nameOK nm = false := by simpa using hb
    have hs : sizeC (nameOK nm) code.length ss.length rs.length nd dA = (20, -1) := by unfold sizeC; rw [if_pos hn]
    unfold checkC ansQ
    rw [hs, if_pos (by simp), hb]; rfl
  | 1, _, h, e => by
    have hb := rfs_not e
    have hs : sizeC (nameOK nm) code.length ss.length rs.length nd dA = (21, -1) := by unfold sizeC; rw [if_neg (z0 (h 0 (by omega))), if_pos (of_decide_eq_true hb)]
    unfold checkC ansQ
    rw [hs, if_pos (by simp), hb]; rfl
  | 2, _, h, e => by
    have hb := rfs_not e
    have hs : sizeC (nameOK nm) code.length ss.length rs.length nd dA = (21, -2) := by unfold sizeC; rw [if_neg (z0 (h 0 (by omega))), if_neg (z1 (h 1 (by omega))), if_pos (of_decide_eq_true hb)]
    unfold checkC ansQ
    rw [hs, if_pos (by simp), hb]; rfl
  | 3, _, h, e => by
    have hb := rfs_not e
    have hs : sizeC (nameOK nm) code.length ss.length rs.length nd dA = (21, -3) := by unfold sizeC; rw [if_neg (z0 (h 0 (by omega))), if_neg (z1 (h 1 (by omega))), if_neg (z2 (h 2 (by omega))), if_pos (of_decide_eq_true hb)]
    unfold checkC ansQ
    rw [hs, if_pos (by simp), hb]; rfl
  | 4, _, h, e => by
    have hb := rfs_not e
    have hx : dA < 0 ∨ 4096 < dA ∨ 4096 - dA < (nd : Int) := by
      have hb' := hb
      rw [Bool.not_eq_true'] at hb'
      have := of_decide_eq_false hb'
      omega
    have hs : sizeC (nameOK nm) code.length ss.length rs.length nd dA = (25, -1) := by unfold sizeC; rw [if_neg (z0 (h 0 (by omega))), if_neg (z1 (h 1 (by omega))), if_neg (z2 (h 2 (by omega))), if_neg (z3 (h 3 (by omega))), if_pos hx]
    unfold checkC ansQ
    rw [hs, if_pos (by simp), hb]; rfl
  | 5, _, h, e => by
    have hs := size_zero (nm := nm) (nd := nd) (dA := dA) h (by omega)
    unfold checkC
    rw [hs, if_neg (by simp), if_pos (show ¬ (symC ss code.length).1 = 0 from e)]; rfl
  | 6, _, h, e => by
    have hs := size_zero (nm := nm) (nd := nd) (dA := dA) h (by omega)
    unfold checkC
    rw [hs, if_neg (by simp), if_neg (by simpa using (show (symC ss code.length).1 = 0 from h 5 (by omega))), if_pos (show ¬ (relC rs code ss.length).1 = 0 from e)]; rfl
  | 7, _, h, _ => by
    have hs := size_zero (nm := nm) (nd := nd) (dA := dA) h (by omega)
    unfold checkC
    rw [hs, if_neg (by simp), if_neg (by simpa using (show (symC ss code.length).1 = 0 from h 5 (by omega))), if_neg (by simpa using (show (relC rs code ss.length).1 = 0 from h 6 (by omega)))]; rfl
  | k + 8, hk, _, _ => by omega
theorem ans_none {nm : ByteArray} {code : List Int} {dA : Int} {nd : Nat} {ss : List Sym} {rs : List Rel} (h : ∀ j, j < 8 → (ansQ nm code dA nd ss rs j).1 = 0) : checkC nm code dA nd ss rs = (0, 0) := by
  have hs := size_zero (nm := nm) (nd := nd) (dA := dA) h (by omega)
  unfold checkC
  rw [hs, if_neg (by simp), if_neg (by simpa using (show (symC ss code.length).1 = 0 from h 5 (by omega))), if_neg (by simpa using (show (relC rs code ss.length).1 = 0 from h 6 (by omega)))]
  exact cod_zero (h 7 (by omega))





end Go.Proofs.YthpkekpojhmaaaaGreatDoor

namespace Go.Proofs.YthpkekpojhmaaaaGreatDoor
open Go.RowKit

/-- So many bools, each false. -/
def chkF : List Value → Nat → Bool
  | [], 0 => true
  | (.bool false) :: l, n + 1 => chkF l n
  | _, _ => false
theorem chkF_ok : ∀ (l : List Value) (n : Nat), chkF l n = true → l.length = n ∧ ∀ i, i < n → l[i]? = some (.bool false)
  | [], 0, _ => ⟨rfl, fun i h => by omega⟩
  | (.bool false) :: l, n + 1, h => by
    obtain ⟨h1, h2⟩ := chkF_ok l n h
    refine ⟨by simp [h1], fun i hi => ?_⟩
    cases i with
    | zero => rfl
    | succ i => simpa using h2 i (by omega)
def zeroIs (o : Option TypeInfo) (n : Nat) : Bool := match o with
  | some i => (match i.zero with
    | some (.agg cs) => chkF cs.toList n
    | _ => false)
  | none => false
theorem zero73_ok : zeroIs (Tryz.prog.info? 263) 16384 = true := by kernel_rfl
theorem zero73 : ∃ cs : Array Value, cs.size = 16384 ∧ (∀ i, i < 16384 → cs[i]? = some (.bool false)) ∧ ∀ w : World, (zeroValue 263).run Tryz.prog w = .ok (.agg cs) w := by
  have h := zero73_ok
  unfold zeroIs at h
  cases hi : Tryz.prog.info? 263 with
  | none => rw [hi] at h; cases h
  | some i =>
    rw [hi] at h
    simp only [] at h
    cases hz : i.zero with
    | none => rw [hz] at h; cases h
    | some v =>
      rw [hz] at h
      cases v with
      | agg cs =>
        simp only [] at h
        obtain ⟨h1, h2⟩ := chkF_ok _ _ h
        refine ⟨cs, by simpa using h1, fun i hi => by simpa using h2 i hi, fun w => ?_⟩
        simp [zeroValue, typeInfo, hi, hz]
      | _ => cases h





end Go.Proofs.YthpkekpojhmaaaaGreatDoor
