/-
  What is written is read as it, and no single byte can be changed unnoticed, as plain mathematics; no Go in sight. What a taker takes when all is well, and when not; no Go in sight. Rows of numbers as lists lie in memory; an image of its own memory; no Go in sight. A list of spots in memory. A list of spots that came in, and one of bools, opened; no condition.
-/
import Derived.Test.YtbljifaciahdcaaProg
import Derived.Test.YtbljifaciahdcaaGs01
import Derived.Laws.Rows
import Derived.Laws.OwnMore
import Derived.WalkKit
import Derived.WalkSpells
import Derived.WalkLawsBesides
import Derived.RowKit3
import Derived.Below
import Derived.Deep.QuietTactic
import Derived.BigQuiet
import Derived.WalkSmall
import Derived.OwnWalk
import Derived.Deep.SlicePairs
import Derived.Deep.Slices
import Derived.Laws.AppendOwn
import Derived.Lib.BufferOwn
import Derived.Laws.MakeOwn
import Derived.ProofKit
import Derived.OpenShut
import Derived.Stop.Joined
import Derived.Carry
import Derived.Lib.SmallJoins
import Derived.Deep.Strs
import Derived.SizedLaws
namespace Go.Proofs.Ytbljifaciahdcaa
open Go.RowKit

/-- What is left from where t stands. -/
def Rem (b : List Int) (t : Tk) (r : List Int) : Prop := t.bad = 0 ∧ t.pos ≤ b.length ∧ b.drop t.pos = r
theorem Rem.len {b : List Int} {t : Tk} {r : List Int} (h : Rem b t r) : b.length = t.pos + r.length := by
  have := congrArg List.length h.2.2
  rw [List.length_drop] at this
  have := h.2.1
  omega
theorem Rem.on {b : List Int} {t : Tk} {e r : List Int} (h : Rem b t (e ++ r)) (p : Int) : Rem b ⟨t.pos + e.length, 0, p⟩ r := by
  have hl := h.len
  rw [List.length_append] at hl
  refine ⟨rfl, by simp only; omega, ?_⟩
  simp only
  rw [← List.drop_drop, h.2.2]
  exact List.drop_left
theorem tHas_yes {N : Nat} {t : Tk} {n : Int} (h : n ≤ (N : Int) - t.pos) : tHas N t n = t := by
  unfold tHas
  rw [if_neg (by omega)]
theorem four_rem {b : List Int} {t : Tk} {r : List Int} {n : Int} (h0 : 0 ≤ n) (h1 : n < 4294967296) (h : Rem b t (be4 n ++ r)) : tFour b t = (n, ⟨t.pos + 4, 0, t.place⟩) ∧ Rem b (tFour b t).2 r := by
  have hl := h.len
  rw [List.length_append, be4_len] at hl
  have e : tFour b t = (n, ⟨t.pos + 4, 0, t.place⟩) := by
    unfold tFour
    rw [tHas_yes (by omega), if_pos h.1, h.2.2, v4_be4]
    rw [Int.emod_eq_of_lt h0 h1]
  refine ⟨e, ?_⟩
  rw [e]
  exact h.on t.place
theorem eight_rem {b : List Int} {t : Tk} {r : List Int} {n : Int} (h0 : -9223372036854775808 ≤ n) (h1 : n < 9223372036854775808) (h : Rem b t (be8 n ++ r)) : (tEight b t).1 = n ∧ Rem b (tEight b t).2 r := by
  have hl := h.len
  rw [List.length_append, be8_len] at hl
  have e : tEight b t = (n, ⟨t.pos + 8, 0, t.place⟩) := by
    unfold tEight
    rw [tHas_yes (by omega), if_pos h.1, h.2.2, v8_be8 n r h0 h1]
  rw [e]
  exact ⟨rfl, h.on t.place⟩
theorem count_rem {b : List Int} {t : Tk} {r : List Int} {n m : Int} (h0 : 0 ≤ n) (h1 : n ≤ m) (hm : m < 4294967296) (h : Rem b t (be4 n ++ r)) : (tCount b m t).1 = n ∧ Rem b (tCount b m t).2 r := by
  obtain ⟨e, k⟩ := four_rem h0 (by omega) h
  have c : tCount b m t = tFour b t := by
    unfold tCount
    rw [if_pos k.1, if_neg (by rw [e]; simp only; omega)]
  rw [c]
  exact ⟨by rw [e], k⟩
theorem strOf_back (s : ByteArray) : strOf (strB s) = s := by
  unfold strOf strB
  apply ByteArray.ext
  simp only [List.map_map]
  apply Array.ext'
  simp only []
  have : (s.data.toList.map ((fun x : Int => UInt8.ofNat x.toNat) ∘ fun c : UInt8 => (c.toNat : Int))) = s.data.toList.map id := by
    apply List.map_congr_left
    intro c _
    simp
  rw [this]; simp
theorem strB_len (s : ByteArray) : (strB s).length = s.size := by
  unfold strB
  rw [List.length_map, Array.length_toList]
  rfl
theorem name_rem {b : List Int} {t : Tk} {r : List Int} {s : ByteArray} (hs : s.size ≤ 24) (h : Rem b t (textB s ++ r)) : (tName b t).1 = s ∧ Rem b (tName b t).2 r := by
  unfold textB at h
  rw [List.append_assoc] at h
  obtain ⟨e, k⟩ := count_rem (m := 24) (by omega) (by omega) (by omega) h
  have hl := k.len
  rw [List.length_append, strB_len] at hl
  have hh : tHas b.length (tCount b 24 t).2 (tCount b 24 t).1 = (tCount b 24 t).2 := tHas_yes (by rw [e]; omega)
  have hn : (tCount b 24 t).1.toNat = s.size := by rw [e]; omega
  have q : tName b t = (s, ⟨(tCount b 24 t).2.pos + (strB s).length, 0, (tCount b 24 t).2.place⟩) := by
    unfold tName
    rw [hh, if_pos k.1, hn, k.2.2, List.take_left' (strB_len s), strOf_back, strB_len]
  rw [q]
  exact ⟨rfl, k.on _⟩
theorem list_rem {α : Type} {b : List Int} {f : Tk → α × Tk} {enc : α → List Int} {P : α → Prop} (hf : ∀ (t : Tk) (x : α) (r : List Int), P x → Rem b t (enc x ++ r) → (f t).1 = x ∧ Rem b (f t).2 r) :
    ∀ (l : List α) (t : Tk) (r : List Int), (∀ x ∈ l, P x) → Rem b t (l.flatMap enc ++ r) → (tList f l.length t).1 = l ∧ Rem b (tList f l.length t).2 r
  | [], t, r, _, h => ⟨rfl, h⟩
  | x :: l, t, r, hp, h => by
    rw [List.flatMap_cons, List.append_assoc] at h
    obtain ⟨e, k⟩ := hf t x _ (hp x (List.mem_cons_self ..)) h
    obtain ⟨e2, k2⟩ := list_rem hf l _ r (fun y hy => hp y (List.mem_cons_of_mem _ hy)) k
    rw [List.length_cons, tList, if_pos h.1]
    exact ⟨by rw [e, e2], k2⟩
theorem sym_rem {b : List Int} (t : Tk) (x : Sym) (r : List Int) (hx : SymFit x) (h : Rem b t (symB x ++ r)) : (tSym b t).1 = x ∧ Rem b (tSym b t).2 r := by
  obtain ⟨p1, p2, p3, p4, p5⟩ := hx
  unfold great at p5
  unfold symB at h
  rw [List.append_assoc, List.append_assoc] at h
  obtain ⟨e1, k1⟩ := name_rem p1 h
  obtain ⟨e2, k2⟩ := count_rem (m := 3) p2 p3 (by omega) k1
  obtain ⟨e3, k3⟩ := count_rem (m := great) p4 p5 (by unfold great; omega) k2
  unfold tSym
  exact ⟨by rw [e1, e2, e3], k3⟩
theorem rel_rem {b : List Int} (t : Tk) (x : Rel) (r : List Int) (hx : RelFit x) (h : Rem b t (relB x ++ r)) : (tRel b t).1 = x ∧ Rem b (tRel b t).2 r := by
  obtain ⟨p1, p2, p3, p4⟩ := hx
  unfold great at p2 p4
  unfold relB at h
  rw [List.append_assoc] at h
  obtain ⟨e1, k1⟩ := count_rem (m := great) p1 p2 (by unfold great; omega) h
  obtain ⟨e2, k2⟩ := count_rem (m := great) p3 p4 (by unfold great; omega) k1
  unfold tRel
  exact ⟨by rw [e1, e2], k2⟩
theorem begin_rem (r : List Int) : Rem ([80, 76, 79, 49] ++ r) (tBegin ([80, 76, 79, 49] ++ r) [80, 76, 79, 49]) r := by
  have h : tBegin ([80, 76, 79, 49] ++ r) [80, 76, 79, 49] = ⟨4, 0, 0⟩ := by
    unfold tBegin
    have : (List.range ([80, 76, 79, 49] : List Int).length).find? (fun i => decide (([80, 76, 79, 49] ++ r).length ≤ i) || nth ([80, 76, 79, 49] ++ r) i != nth [80, 76, 79, 49] i) = none := by
      rw [List.find?_eq_none]
      intro i hi
      have hi' : i < 4 := by simpa using hi
      have hq : i = 0 ∨ i = 1 ∨ i = 2 ∨ i = 3 := by omega
      rcases hq with rfl | rfl | rfl | rfl <;> simp [nth]
    rw [this]; rfl
  rw [h]
  exact ⟨rfl, by simp, rfl⟩
theorem sum_range (l : List Int) : 0 ≤ sumB l ∧ sumB l < 4294967296 := by
  unfold sumB
  rcases List.eq_nil_or_concat l with rfl | ⟨q, x, rfl⟩
  · simp
  · simp only [List.concat_eq_append, List.foldl_append, List.foldl_cons, List.foldl_nil]
    omega
/-- What is written is read as it. -/
theorem took_read {nm : ByteArray} {code : List Int} {dA : Int} {data : List Int} {ss : List Sym} {rs : List Rel} (h1 : nm.size ≤ 24) (h2 : code.length ≤ 16384) (h3 : ∀ x ∈ code, 0 ≤ x ∧ x < 4294967296) (h4 : 0 ≤ dA ∧ dA ≤ great)
    (h5 : data.length ≤ 4096) (h6 : ∀ x ∈ data, -9223372036854775808 ≤ x ∧ x < 9223372036854775808) (h7 : ss.length ≤ 256) (h8 : ∀ x ∈ ss, SymFit x) (h9 : rs.length ≤ code.length) (h10 : ∀ x ∈ rs, RelFit x) :
    (took (bytesB nm code dA data ss rs)).nm = nm ∧ (took (bytesB nm code dA data ss rs)).code = code ∧ (took (bytesB nm code dA data ss rs)).dA = dA ∧ (took (bytesB nm code dA data ss rs)).data = data ∧ (took (bytesB nm code dA data ss rs)).ss = ss ∧ (took (bytesB nm code dA data ss rs)).rs = rs ∧ (took (bytesB nm code dA data ss rs)).t.bad = 0 := by
  have h4' := h4.2
  unfold great at h4'
  have hb : bytesB nm code dA data ss rs = [80, 76, 79, 49] ++ (textB nm ++ (be4 code.length ++ (code.flatMap be4 ++ (be4 dA ++ (be4 data.length ++ (data.flatMap be8 ++ (be4 ss.length ++ (ss.flatMap symB ++ (be4 rs.length ++ (rs.flatMap relB ++ (be4 (sumB (bodyB nm code dA data ss rs)) ++ []))))))))))) := by
    unfold bytesB
    rw [List.append_nil]
    conv => lhs; lhs; unfold bodyB
    simp only [List.append_assoc]
  have hs := sum_range (bodyB nm code dA data ss rs)
  have hlen : (bytesB nm code dA data ss rs).length = (bodyB nm code dA data ss rs).length + 4 := by unfold bytesB; rw [List.length_append, be4_len]
  have htk : (bytesB nm code dA data ss rs).take (bodyB nm code dA data ss rs).length = bodyB nm code dA data ss rs := by unfold bytesB; exact List.take_left
  generalize bytesB nm code dA data ss rs = b at hb hlen htk ⊢
  generalize bodyB nm code dA data ss rs = q at hb hlen htk hs
  have k0 := begin_rem (textB nm ++ (be4 code.length ++ (code.flatMap be4 ++ (be4 dA ++ (be4 data.length ++ (data.flatMap be8 ++ (be4 ss.length ++ (ss.flatMap symB ++ (be4 rs.length ++ (rs.flatMap relB ++ (be4 (sumB q) ++ [])))))))))))
  rw [← hb] at k0
  obtain ⟨e1, k1⟩ := name_rem h1 k0
  obtain ⟨e2, k2⟩ := count_rem (m := 16384) (by omega) (by omega) (by omega) k1
  obtain ⟨e3, k3⟩ := list_rem (P := fun x => 0 ≤ x ∧ x < 4294967296) (fun t x r hx h => ⟨by rw [(four_rem hx.1 hx.2 h).1], (four_rem hx.1 hx.2 h).2⟩) code _ _ h3 k2
  have c3 : tCode b = tList (tFour b) code.length (tCount b 16384 (tName b (tBegin b [80, 76, 79, 49])).2).2 := by unfold tCode; rw [e2]; rfl
  rw [← c3] at e3 k3
  obtain ⟨e4, k4⟩ := count_rem (m := great) h4.1 h4.2 (by unfold great; omega) k3
  obtain ⟨e5, k5⟩ := count_rem (m := 4096) (by omega) (by omega) (by omega) k4
  obtain ⟨e6, k6⟩ := list_rem (P := fun x => -9223372036854775808 ≤ x ∧ x < 9223372036854775808) (fun t x r hx h => eight_rem hx.1 hx.2 h) data _ _ h6 k5
  have c6 : tData b = tList (tEight b) data.length (tCount b 4096 (tDat b).2).2 := by unfold tData; rw [show tDat b = tCount b great (tCode b).2 from rfl, e5]; rfl
  rw [show tCount b great (tCode b).2 = tDat b from rfl, ← c6] at e6 k6
  obtain ⟨e7, k7⟩ := count_rem (m := 256) (by omega) (by omega) (by omega) k6
  obtain ⟨e8, k8⟩ := list_rem (P := SymFit) sym_rem ss _ _ h8 k7
  have c8 : tSyms b = tList (tSym b) ss.length (tCount b 256 (tData b).2).2 := by unfold tSyms; rw [e7]; rfl
  rw [← c8] at e8 k8
  obtain ⟨e9, k9⟩ := count_rem (m := (tCode b).1.length) (by omega) (by rw [e3]; omega) (by rw [e3]; omega) k8
  obtain ⟨e10, k10⟩ := list_rem (P := RelFit) rel_rem rs _ _ h10 k9
  have c10 : tRels b = tList (tRel b) rs.length (tCount b (tCode b).1.length (tSyms b).2).2 := by unfold tRels; rw [e9]; rfl
  rw [← c10] at e10 k10
  obtain ⟨e11, k11⟩ := four_rem hs.1 hs.2 k10
  refine ⟨e1, e3, e4, e6, e8, e10, ?_⟩
  show (tEnd b (tRels b).2).bad = 0
  have hl := k10.len
  rw [List.length_append, be4_len, List.length_nil] at hl
  have hp : (tRels b).2.pos = q.length := by omega
  unfold tEnd
  rw [if_pos k11.1, if_neg (by omega), if_pos (by rw [e11, hp, htk])]
  exact k11.1
/-- A sum tells its last state: two states that part stay apart. -/
theorem step_apart {s s' : Int} (h0 : 0 ≤ s ∧ s < 4294967296) (h1 : 0 ≤ s' ∧ s' < 4294967296) (hn : ¬ s = s') : ∀ (l : List Int), ¬ l.foldl (fun s b => (31 * s + b) % 4294967296) s = l.foldl (fun s b => (31 * s + b) % 4294967296) s'
  | [] => hn
  | x :: l => by
    simp only [List.foldl_cons]
    exact step_apart (by omega) (by omega) (by omega) l
theorem sum_apart {p q : List Int} {x y : Int} (hx : 0 ≤ x ∧ x < 256) (hy : 0 ≤ y ∧ y < 256) (hn : ¬ x = y) : ¬ sumB (p ++ x :: q) = sumB (p ++ y :: q) := by
  unfold sumB
  simp only [List.foldl_append, List.foldl_cons]
  exact step_apart (by omega) (by omega) (by omega) q
theorem set_parts {l : List Int} {i : Nat} (h : i < l.length) (y : Int) : l = l.take i ++ l.getD i 0 :: l.drop (i + 1) ∧ l.set i y = l.take i ++ y :: l.drop (i + 1) := by
  constructor
  · have e : l.drop i = l.getD i 0 :: l.drop (i + 1) := by rw [List.drop_eq_getElem_cons h]; simp [List.getD, h]
    rw [← e, List.take_append_drop]
  · rw [List.set_eq_take_append_cons_drop, if_pos h]
/-- Bytes that end with their sum do not with one byte otherwise. -/
theorem one_byte {b c p q : List Int} {i : Nat} {y : Int} (hb : b = p ++ be4 (sumB p)) (hc : c = q ++ be4 (sumB q)) (hB : AreB b) (hi : i < b.length) (hy : 0 ≤ y ∧ y < 256) (hn : ¬ b.getD i 0 = y) (hs : c = b.set i y) : False := by
  have hl : p.length = q.length := by
    have h1 := congrArg List.length hb
    have h2 := congrArg List.length hc
    rw [hs, List.length_set] at h2
    rw [List.length_append, be4_len] at h1 h2
    omega
  have hbl : b.length = p.length + 4 := by rw [hb, List.length_append, be4_len]
  have hx : 0 ≤ b.getD i 0 ∧ b.getD i 0 < 256 := hB _ (by simp [List.getD, hi])
  obtain ⟨e1, e2⟩ := set_parts hi y
  have tp : b.take p.length = p := by rw [hb]; exact List.take_left
  have tq : c.take p.length = q := by rw [hc, hl]; exact List.take_left
  have dp : b.drop p.length = be4 (sumB p) := by rw [hb]; exact List.drop_left
  have dq : c.drop p.length = be4 (sumB q) := by rw [hc, hl]; exact List.drop_left
  by_cases hip : i < p.length
  · have hd : c.drop p.length = b.drop p.length := by rw [hs, List.drop_set_of_lt hip]
    rw [dp, dq] at hd
    have hv := congrArg (fun l => v4 (l ++ [])) hd
    simp only [v4_be4] at hv
    have r1 := sum_range p
    have r2 := sum_range q
    rw [Int.emod_eq_of_lt r2.1 r2.2, Int.emod_eq_of_lt r1.1 r1.2] at hv
    have gp : p.getD i 0 = b.getD i 0 := by rw [hb, List.getD, List.getD, List.getElem?_append_left hip]
    have qs : q = p.set i y := by
      have h9 : q = (b.set i y).take p.length := by rw [← hs, tq]
      rw [h9, List.take_set, tp]
    obtain ⟨f1, f2⟩ := set_parts hip y
    rw [gp] at f1
    rw [qs, f2] at hv
    have hv' : sumB (p.take i ++ y :: p.drop (i + 1)) = sumB (p.take i ++ b.getD i 0 :: p.drop (i + 1)) := by rw [hv, ← f1]
    exact sum_apart hy hx (fun h => hn h.symm) hv'
  · have ht : c.take p.length = b.take p.length := by rw [hs, List.take_set_of_le (by omega)]
    rw [tp, tq] at ht
    have : c = b := by rw [hc, hb, ht]
    rw [hs] at this
    have g := congrArg (fun l => l.getD i 0) this
    simp [List.getD, hi] at g
    exact hn (by simp [List.getD, hi, g])











end Go.Proofs.Ytbljifaciahdcaa

namespace Go.Proofs.Ytbljifaciahdcaa
open Go.RowKit

/-- A byte taken. -/
def tByte (b : List Int) (t : Tk) : Int × Tk := if t.pos < b.length then (nth b t.pos, ⟨t.pos + 1, 0, t.place⟩) else (0, ⟨t.pos, 27, b.length⟩)
/-- The value of bytes. -/
def valB (l : List Int) : Int := l.foldl (fun a x => a * 256 + x) 0
theorem valB_snoc (l : List Int) (k : Nat) (h : k < l.length) : valB (l.take (k + 1)) = valB (l.take k) * 256 + nth l k := by
  rw [List.take_succ_eq_append_getElem h]
  unfold valB
  rw [List.foldl_append]
  simp [nth, List.getD, h]
theorem valB_range (l : List Int) (hb : AreB l) : 0 ≤ valB l ∧ valB l < 256 ^ l.length := by
  have h : ∀ (l : List Int) (a : Int), AreB l → 0 ≤ a → 0 ≤ l.foldl (fun a x => a * 256 + x) a ∧ l.foldl (fun a x => a * 256 + x) a < (a + 1) * 256 ^ l.length := by
    intro l
    induction l with
    | nil => intro a _ h0; simp; omega
    | cons x l ih =>
      intro a hb h0
      have hx := hb x (by simp)
      obtain ⟨i1, i2⟩ := ih (a * 256 + x) (fun y hy => hb y (by simp [hy])) (by omega)
      refine ⟨by simpa using i1, ?_⟩
      simp only [List.foldl_cons, List.length_cons]
      refine Int.lt_of_lt_of_le i2 ?_
      have hp : (0 : Int) ≤ 256 ^ l.length := Int.le_of_lt (Int.pow_pos (by omega))
      rw [Int.pow_succ]
      have := Int.mul_le_mul_of_nonneg_right (show a * 256 + x + 1 ≤ (a + 1) * 256 by omega) hp
      calc (a * 256 + x + 1) * 256 ^ l.length ≤ (a + 1) * 256 * 256 ^ l.length := this
        _ = (a + 1) * (256 ^ l.length * 256) := by rw [Int.mul_assoc, Int.mul_comm 256]
  have := h l 0 hb (by omega)
  unfold valB
  simpa using this
theorem nth_drop (b : List Int) (p k : Nat) : nth (b.drop p) k = nth b (p + k) := by simp [nth, List.getD]
theorem val4 {l : List Int} (h : 4 ≤ l.length) : valB (l.take 4) = v4 l := by
  obtain ⟨a, b, c, d, r, rfl⟩ := four_parts h
  simp [valB, v4]
theorem val8 {l : List Int} (h : 8 ≤ l.length) : valB (l.take 8) = v4 l * 4294967296 + v4 (l.drop 4) := by
  obtain ⟨a, b, c, d, r, rfl⟩ := four_parts (l := l) (by omega)
  obtain ⟨a2, b2, c2, d2, r2, rfl⟩ := four_parts (l := r) (by simp at h; omega)
  simp [valB, v4]
  omega



theorem four_yes {b : List Int} {p : Nat} (h : p + 4 ≤ b.length) : tFour b ⟨p, 0, 0⟩ = (v4 (b.drop p), ⟨p + 4, 0, 0⟩) := by
  unfold tFour
  rw [tHas_yes (by simp; omega)]
  rfl
theorem four_no {b : List Int} {p : Nat} (h : ¬ p + 4 ≤ b.length) : tFour b ⟨p, 0, 0⟩ = (0, ⟨p, 27, b.length⟩) := by
  unfold tFour
  have e : tHas b.length ⟨p, 0, 0⟩ 4 = ⟨p, 27, b.length⟩ := by unfold tHas; rw [if_pos ⟨rfl, by simp; omega⟩]
  rw [e]
  rfl
theorem eight_yes {b : List Int} {p : Nat} (h : p + 8 ≤ b.length) : tEight b ⟨p, 0, 0⟩ = (v8 (b.drop p), ⟨p + 8, 0, 0⟩) := by
  unfold tEight
  rw [tHas_yes (by simp; omega)]
  rfl
theorem eight_no {b : List Int} {p : Nat} (h : ¬ p + 8 ≤ b.length) : tEight b ⟨p, 0, 0⟩ = (0, ⟨p, 27, b.length⟩) := by
  unfold tEight
  have e : tHas b.length ⟨p, 0, 0⟩ 8 = ⟨p, 27, b.length⟩ := by unfold tHas; rw [if_pos ⟨rfl, by simp; omega⟩]
  rw [e]
  rfl
theorem count_no {b : List Int} {p : Nat} {m : Int} (h : ¬ p + 4 ≤ b.length) : tCount b m ⟨p, 0, 0⟩ = (0, ⟨p, 27, b.length⟩) := by
  unfold tCount
  rw [four_no h]
  rfl
theorem count_much {b : List Int} {p : Nat} {m : Int} (h : p + 4 ≤ b.length) (hm : m < v4 (b.drop p)) : tCount b m ⟨p, 0, 0⟩ = (0, ⟨p + 4, 27, p⟩) := by
  unfold tCount
  rw [four_yes h, if_pos rfl, if_pos hm]
theorem count_yes {b : List Int} {p : Nat} {m : Int} (h : p + 4 ≤ b.length) (hm : ¬ m < v4 (b.drop p)) : tCount b m ⟨p, 0, 0⟩ = (v4 (b.drop p), ⟨p + 4, 0, 0⟩) := by
  unfold tCount
  rw [four_yes h, if_pos rfl, if_neg hm]
/-- A taker that, all well, tells no place. -/
def Plain {α : Type} (f : Tk → α × Tk) : Prop := ∀ p, (f ⟨p, 0, 0⟩).2.bad = 0 → (f ⟨p, 0, 0⟩).2.place = 0
theorem plain_tk {α : Type} {f : Tk → α × Tk} (hf : Plain f) {p : Nat} (h : (f ⟨p, 0, 0⟩).2.bad = 0) : (f ⟨p, 0, 0⟩).2 = ⟨(f ⟨p, 0, 0⟩).2.pos, 0, 0⟩ := by
  have h2 := hf p h
  cases e : (f ⟨p, 0, 0⟩).2
  rw [e] at h h2
  simp only at h h2
  subst h h2
  rfl
theorem plain_four (b : List Int) : Plain (tFour b) := fun p h => by
  by_cases hp : p + 4 ≤ b.length
  · rw [four_yes hp]
  · rw [four_no hp] at h; cases h
theorem plain_eight (b : List Int) : Plain (tEight b) := fun p h => by
  by_cases hp : p + 8 ≤ b.length
  · rw [eight_yes hp]
  · rw [eight_no hp] at h; cases h
theorem plain_count (b : List Int) (m : Int) : Plain (tCount b m) := fun p h => by
  by_cases hp : p + 4 ≤ b.length
  · by_cases hm : m < v4 (b.drop p)
    · rw [count_much hp hm] at h; cases h
    · rw [count_yes hp hm]
  · rw [count_no hp] at h; cases h
theorem plain_byte (b : List Int) : Plain (tByte b) := fun p h => by
  unfold tByte at h ⊢
  split at h
  · next hp => rw [if_pos hp]
  · cases h
theorem list_bad {α : Type} (f : Tk → α × Tk) (n : Nat) (t : Tk) (h : ¬ t.bad = 0) : tList f n t = ([], t) := by
  cases n with
  | zero => rfl
  | succ n => rw [tList, if_neg h]
theorem list_step {α : Type} (f : Tk → α × Tk) (n : Nat) (t : Tk) (h : t.bad = 0) : tList f (n + 1) t = ((f t).1 :: (tList f n (f t).2).1, (tList f n (f t).2).2) := by rw [tList, if_pos h]
/-- How far a list has been taken: k items, and what is left. -/
def Far {α : Type} (f : Tk → α × Tk) (n : Nat) (t : Tk) (k : Nat) (done : List α) (q : Nat) : Prop :=
  done.length = k ∧ k ≤ n ∧ tList f n t = (done ++ (tList f (n - k) ⟨q, 0, 0⟩).1, (tList f (n - k) ⟨q, 0, 0⟩).2)
theorem far_start {α : Type} (f : Tk → α × Tk) (n p : Nat) : Far f n ⟨p, 0, 0⟩ 0 [] p := ⟨rfl, Nat.zero_le _, rfl⟩
theorem far_next {α : Type} {f : Tk → α × Tk} (hf : Plain f) {n k q : Nat} {t : Tk} {done : List α} (h : Far f n t k done q) (hk : k < n) (hg : (f ⟨q, 0, 0⟩).2.bad = 0) : Far f n t (k + 1) (done ++ [(f ⟨q, 0, 0⟩).1]) (f ⟨q, 0, 0⟩).2.pos := by
  obtain ⟨h1, h2, h3⟩ := h
  refine ⟨by simp [h1], hk, ?_⟩
  rw [h3, show n - k = (n - (k + 1)) + 1 by omega, list_step _ _ _ rfl, ← plain_tk hf hg, List.append_assoc]
  rfl
theorem far_bad {α : Type} {f : Tk → α × Tk} {n k q : Nat} {t : Tk} {done : List α} (h : Far f n t k done q) (hk : k < n) (hg : ¬ (f ⟨q, 0, 0⟩).2.bad = 0) : (tList f n t).2 = (f ⟨q, 0, 0⟩).2 := by
  obtain ⟨h1, h2, h3⟩ := h
  rw [h3, show n - k = (n - (k + 1)) + 1 by omega, list_step _ _ _ rfl, list_bad _ _ _ hg]
theorem far_end {α : Type} {f : Tk → α × Tk} {n q : Nat} {t : Tk} {done : List α} (h : Far f n t n done q) : tList f n t = (done, ⟨q, 0, 0⟩) := by
  obtain ⟨h1, h2, h3⟩ := h
  rw [h3, Nat.sub_self]
  simp [tList]
/-- How many there are, and each of them. -/
def tAll {α : Type} (b : List Int) (m : Int) (f : Tk → α × Tk) (t : Tk) : List α × Tk := tList f (tCount b m t).1.toNat (tCount b m t).2
theorem all_bad {α : Type} {b : List Int} {m : Int} {f : Tk → α × Tk} {t : Tk} (h : ¬ (tCount b m t).2.bad = 0) : (tAll b m f t).2 = (tCount b m t).2 := by
  unfold tAll
  rw [list_bad _ _ _ h]
theorem plain_list {α : Type} {f : Tk → α × Tk} (hf : Plain f) (n : Nat) : Plain (tList f n) := fun p => by
  induction n generalizing p with
  | zero => intro _; rfl
  | succ n ih =>
    intro h
    rw [list_step _ _ _ rfl] at h ⊢
    by_cases hg : (f ⟨p, 0, 0⟩).2.bad = 0
    · rw [plain_tk hf hg] at h ⊢
      exact ih _ h
    · rw [list_bad _ _ _ hg] at h
      exact absurd h hg
theorem plain_all {α : Type} {f : Tk → α × Tk} (hf : Plain f) (b : List Int) (m : Int) : Plain (tAll b m f) := fun p h => by
  unfold tAll at h ⊢
  by_cases hg : (tCount b m ⟨p, 0, 0⟩).2.bad = 0
  · have e := plain_tk (plain_count b m) hg
    rw [e] at h ⊢
    exact plain_list hf _ _ h
  · rw [list_bad _ _ _ hg] at h
    exact absurd h hg
theorem count_range {b : List Int} {m : Int} {p : Nat} (hb : AreB b) (h : (tCount b m ⟨p, 0, 0⟩).2.bad = 0) : 0 ≤ (tCount b m ⟨p, 0, 0⟩).1 ∧ (tCount b m ⟨p, 0, 0⟩).1 ≤ m := (tCount_ok hb h).2
/-- Bytes, one by one. -/
theorem bytes_all (b : List Int) : ∀ (n q : Nat), q ≤ b.length → (q + n ≤ b.length → tList (tByte b) n ⟨q, 0, 0⟩ = ((b.drop q).take n, ⟨q + n, 0, 0⟩)) ∧ (¬ q + n ≤ b.length → (tList (tByte b) n ⟨q, 0, 0⟩).2 = ⟨b.length, 27, b.length⟩) := by
  intro n
  induction n with
  | zero => intro q hq; exact ⟨fun _ => by simp [tList], fun h => absurd hq h⟩
  | succ n ih =>
    intro q hq
    rw [list_step _ _ _ rfl]
    by_cases hlt : q < b.length
    · have e : tByte b ⟨q, 0, 0⟩ = (nth b q, ⟨q + 1, 0, 0⟩) := by unfold tByte; rw [if_pos hlt]
      rw [e]
      obtain ⟨i1, i2⟩ := ih (q + 1) hlt
      refine ⟨fun h => ?_, fun h => ?_⟩
      · rw [i1 (by omega)]
        have ed : b.drop q = nth b q :: b.drop (q + 1) := by rw [List.drop_eq_getElem_cons hlt]; simp [nth, List.getD, hlt]
        rw [ed, List.take_succ_cons, show q + 1 + n = q + (n + 1) by omega]
      · exact i2 (by omega)
    · have e : tByte b ⟨q, 0, 0⟩ = (0, ⟨q, 27, b.length⟩) := by unfold tByte; rw [if_neg hlt]
      rw [e]
      refine ⟨fun h => by omega, fun h => ?_⟩
      rw [list_bad _ _ _ (by simp)]
      rw [show q = b.length by omega]
theorem has_stick {N : Nat} {t : Tk} {n : Int} (h : ¬ t.bad = 0) : tHas N t n = t := by unfold tHas; rw [if_neg (fun k => h k.1)]
theorem four_stick {b : List Int} {t : Tk} (h : ¬ t.bad = 0) : tFour b t = (0, t) := by unfold tFour; rw [has_stick h, if_neg h]
theorem count_stick {b : List Int} {m : Int} {t : Tk} (h : ¬ t.bad = 0) : tCount b m t = (0, t) := by unfold tCount; rw [four_stick h, if_neg h]










end Go.Proofs.Ytbljifaciahdcaa

namespace Go.Proofs.Ytbljifaciahdcaa
open Go.RowKit

theorem row_but {w w1 : World} {base g n : Nat} {e : TypeId} {sz : Nat} {v : Value} {xs : List Value} (ho : w.ownsRow base e sz v n xs) (hg : g < base) (hb : But g w w1) : w1.ownsRow base e sz v n xs := by
  refine ho.kept (row := some g) ⟨hb.1, hb.2.1, hb.2.2.1, hb.2.2.2.1, fun k hk hn => hb.2.2.2.2 k hk (fun e => hn (by rw [e]))⟩ ?_
  cases hv : v.ownBlock with
  | none => exact Or.inl rfl
  | some k => exact Or.inr fun e => by cases e; have := ho.lt g hv; omega
theorem but_grown {w w1 w2 : World} {g : Nat} {row : Option Nat} (h : But g w w1) (hs : w1.grownBy w2 row) (hr : ∀ k, row = some k → w.heap.size ≤ k) : But g w w2 :=
  ⟨hs.os.trans h.1, hs.tape.trans h.2.1, hs.output.trans h.2.2.1, Nat.le_trans h.2.2.2.1 hs.size, fun k hk hn => (hs.block k (Nat.lt_of_lt_of_le hk h.2.2.2.1) (fun e => by have := hr k e.symm; omega)).trans (h.2.2.2.2 k hk hn)⟩
theorem any_form {w : World} {b n : Nat} {e : TypeId} {sz : Nat} {v : Value} {xs : List Value} (h : w.ownsRow b e sz v n xs) : ∃ A n c, v = .slice A n c := by
  rcases h.2 with ⟨rfl, _⟩ | ⟨g, cap, cur, rfl, _⟩
  · exact ⟨_, _, _, rfl⟩
  · exact ⟨_, _, _, rfl⟩

/-- A new block reads as it was made. -/
theorem new_cells (w : World) (l : List Value) (T : TypeId) (h : l.length ≤ 1048576) : ∀ j u, l[j]? = some u → (w.alloc (.cells l.toArray T)).cell? ((⟨w.heap.size, 0, none⟩ : Addr).add j) = some u := by
  have hr : (w.alloc (.cells l.toArray T)).ownsRow w.heap.size T 1 (.slice (some ⟨w.heap.size, 0, none⟩) l.length l.length) l.length l := by
    refine ⟨by omega, Or.inr ⟨w.heap.size, l.length, l.toArray, rfl, Nat.le_refl _, heap_alloc_new _ _, Nat.le_refl _, by unfold maxLen; omega, by simp, ?_⟩⟩
    simp only [Nat.mul_one]
    exact List.take_length
  exact hr.cells rfl
/-- Items as cells. -/
def iVals (K : IntKind) (zs : List Int) : List Value := zs.map (Value.int K)
theorem iVals_snoc (K : IntKind) (zs : List Int) (x : Int) : iVals K (zs ++ [x]) = iVals K zs ++ [.int K x] := by simp [iVals]
theorem add0 (j i : Nat) : (⟨j, 0, none⟩ : Addr).add i = ⟨j, i, none⟩ := by
  unfold Addr.add
  split <;> simp_all
theorem but_setB {w w1 : World} {g : Nat} (h : But g w w1) {B : Nat} (hB : w.heap.size ≤ B) (i : Nat) (v : Value) : But g w (w1.setCell ⟨B, i, none⟩ v) :=
  ⟨h.1, h.2.1, h.2.2.1, by simpa [go_sem] using h.2.2.2.1, fun k hk hn => (Below.heap_setCell _ _ _ _ (by show k ≠ B; omega)).trans (h.2.2.2.2 k hk hn)⟩
theorem but_box {w w1 : World} {g : Nat} (h : But g w w1) {B : Nat} {cs : Array Value} {t : TypeId} (hb : w.heap[B]? = some (.cells cs t (0, 0))) (hB : B ≠ g) : w1.heap[B]? = some (.cells cs t (0, 0)) := by
  rw [h.2.2.2.2 B (Array.getElem?_eq_some_iff.1 hb).1 hB]; exact hb
theorem box_set {w : World} {B : Nat} {cs : Array Value} {t : TypeId} (h : w.heap[B]? = some (.cells cs t (0, 0))) (i : Nat) (v : Value) : (w.setCell ⟨B, i, none⟩ v).heap[B]? = some (.cells (cs.setIfInBounds i v) t (0, 0)) := by
  simp [World.setCell, Array.getElem?_modify, h]
theorem box_fro {w : World} {B : Nat} {cs : Array Value} {t : TypeId} (h : w.heap[B]? = some (.cells cs t (0, 0))) (i : Nat) : w.frozen? ⟨B, i, none⟩ = false := by
  simp [World.frozen?, h]
theorem all_stick {α : Type} {b : List Int} {m : Int} {f : Tk → α × Tk} {t : Tk} (h : ¬ t.bad = 0) : (tAll b m f t).2 = t := by
  unfold tAll
  rw [count_stick h]
  rfl
theorem count_stick2 {b : List Int} {m : Int} {t : Tk} (h : ¬ t.bad = 0) : (tCount b m t).2 = t := by rw [count_stick h]
theorem end_stick {b : List Int} {t : Tk} (h : ¬ t.bad = 0) : tEnd b t = t := by
  unfold tEnd
  rw [four_stick h, if_neg h]
theorem own_form {w : World} {b n : Nat} {e : TypeId} {sz : Nat} {v : Value} {xs : List Value} (h : w.ownsRow b e sz v n xs) : ∃ A c, v = .slice A n c := by
  rcases h.2 with ⟨rfl, rfl⟩ | ⟨g, cap, cur, rfl, _⟩
  · exact ⟨_, _, rfl⟩
  · exact ⟨_, _, rfl⟩
theorem end_a {b : List Int} {p : Nat} (h : ¬ p + 4 ≤ b.length) : tEnd b ⟨p, 0, 0⟩ = ⟨p, 27, b.length⟩ := by
  unfold tEnd
  rw [four_no h, if_neg (by simp)]
theorem end_b {b : List Int} {p : Nat} (h : p + 4 < b.length) : tEnd b ⟨p, 0, 0⟩ = ⟨p + 4, 27, p + 4⟩ := by
  unfold tEnd
  rw [four_yes (by omega), if_pos rfl, if_pos h]
theorem end_c {b : List Int} {p : Nat} (h : p + 4 = b.length) (hs : ¬ v4 (b.drop p) = sumB (b.take p)) : tEnd b ⟨p, 0, 0⟩ = ⟨p + 4, 28, p⟩ := by
  unfold tEnd
  rw [four_yes (by omega), if_pos rfl, if_neg (by simp; omega), if_neg hs]
theorem end_d {b : List Int} {p : Nat} (h : p + 4 = b.length) (hs : v4 (b.drop p) = sumB (b.take p)) : tEnd b ⟨p, 0, 0⟩ = ⟨p + 4, 0, 0⟩ := by
  unfold tEnd
  rw [four_yes (by omega), if_pos rfl, if_neg (by simp; omega), if_pos hs]
theorem end_good {b : List Int} {p : Nat} (h : (tEnd b ⟨p, 0, 0⟩).bad = 0) : tEnd b ⟨p, 0, 0⟩ = ⟨(tEnd b ⟨p, 0, 0⟩).pos, 0, 0⟩ := by
  by_cases h1 : p + 4 ≤ b.length
  · by_cases h2 : p + 4 < b.length
    · rw [end_b h2] at h; cases h
    · by_cases h3 : v4 (b.drop p) = sumB (b.take p)
      · rw [end_d (by omega) h3]
      · rw [end_c (by omega) h3] at h; cases h
  · rw [end_a h1] at h; cases h
theorem all_len {α : Type} {b : List Int} {m : Nat} {f : Tk → α × Tk} {p : Nat} (hb : AreB b) (h : (tAll b (m : Int) f ⟨p, 0, 0⟩).2.bad = 0) : (tAll b (m : Int) f ⟨p, 0, 0⟩).1.length ≤ m := by
  by_cases hg : (tCount b m ⟨p, 0, 0⟩).2.bad = 0
  · have := (count_range hb hg).2
    have hl : ∀ (n : Nat) (t : Tk), (tList f n t).1.length ≤ n := by
      intro n
      induction n with
      | zero => intro t; simp [tList]
      | succ n ih =>
        intro t
        rw [tList]
        split
        · have := ih (f t).2
          simp
          omega
        · simp
    have h2 := hl (tCount b m ⟨p, 0, 0⟩).1.toNat (tCount b m ⟨p, 0, 0⟩).2
    unfold tAll
    omega
  · rw [all_bad hg] at h
    exact absurd h hg
theorem ownsRow_mono {w : World} {b b' : Nat} {e : TypeId} {k n : Nat} {v : Value} {xs : List Value} (h : w.ownsRow b e k v n xs) (hb : b' ≤ b) : w.ownsRow b' e k v n xs := by
  refine ⟨h.1, ?_⟩
  rcases h.2 with h0 | ⟨g, cap, cur, hv, hg, r⟩
  · exact Or.inl h0
  · exact Or.inr ⟨g, cap, cur, hv, Nat.le_trans hb hg, r⟩
theorem iVals_get {K : IntKind} {l : List Int} {i : Nat} (h : i < l.length) : (iVals K l)[i]? = some (.int K (nth l i)) := by simp [iVals, nth, List.getD, h]
theorem add_add (j k i : Nat) : ((⟨j, 0, none⟩ : Addr).add k).add i = (⟨j, 0, none⟩ : Addr).add (k + i) := by
  rw [add0, add0]
  unfold Addr.add
  split
  · next h => subst h; rfl
  · rfl
theorem row_ints {w : World} {base c n : Nat} {e : TypeId} {A : Option Addr} {K : IntKind} {l : List Int} (h : w.ownsRow base e 1 (.slice A n c) l.length (iVals K l)) : IntsAt w A K l := fun i hi => by
  rcases h.2 with ⟨_, h0⟩ | ⟨j, cap, cur, hv, hb, hg, hc, _⟩
  · omega
  · cases hv
    exact ⟨_, rfl, h.cells rfl i _ (iVals_get hi)⟩
theorem row_keep {w w1 : World} {base n : Nat} {e : TypeId} {sz : Nat} {v : Value} {xs : List Value} (h : w.ownsRow base e sz v n xs) (hb : Below w.heap.size w w1) : w1.ownsRow base e sz v n xs := by
  refine h.kept (row := none) ⟨hb.os, hb.tape, hb.output, hb.size, fun k hk _ => hb.block k hk⟩ ?_
  cases hv : v.ownBlock <;> simp
theorem lb_box {w w1 : World} {B : Nat} {cs : Array Value} {t : TypeId} (h : w.heap[B]? = some (.cells cs t (0, 0))) (hb : Below w.heap.size w w1) : w1.heap[B]? = some (.cells cs t (0, 0)) := by
  rw [hb.block B (Array.getElem?_eq_some_iff.1 h).1]; exact h

/-- The two lists of an image, each a row of its own behind base. -/
structure RowsI (w : World) (base : Nat) (A1 A2 : Option Addr) (c1 c2 : Nat) (text mem : List Int) : Prop where
  r1 : w.ownsRow base 46 1 (.slice A1 text.length c1) text.length (iVals .u32 text)
  r2 : w.ownsRow base 2 1 (.slice A2 mem.length c2) mem.length (iVals .i64 mem)
theorem RowsI.keep {w w1 : World} {base : Nat} {A1 A2 : Option Addr} {c1 c2 : Nat} {text mem : List Int} (h : RowsI w base A1 A2 c1 c2 text mem) (hb : Below w.heap.size w w1) : RowsI w1 base A1 A2 c1 c2 text mem := ⟨row_keep h.r1 hb, row_keep h.r2 hb⟩
theorem RowsI.mono {w : World} {base base' : Nat} {A1 A2 : Option Addr} {c1 c2 : Nat} {text mem : List Int} (h : RowsI w base A1 A2 c1 c2 text mem) (hb : base' ≤ base) : RowsI w base' A1 A2 c1 c2 text mem := ⟨ownsRow_mono h.r1 hb, ownsRow_mono h.r2 hb⟩
theorem RowsI.but {w w1 : World} {g base : Nat} {A1 A2 : Option Addr} {c1 c2 : Nat} {text mem : List Int} (h : RowsI w base A1 A2 c1 c2 text mem) (hb : But g w w1) (hg : g < base) : RowsI w1 base A1 A2 c1 c2 text mem := ⟨row_but h.r1 hg hb, row_but h.r2 hg hb⟩
theorem row_setB {w1 : World} {B base n : Nat} {e : TypeId} {sz : Nat} {v : Value} {xs : List Value} (h : w1.ownsRow base e sz v n xs) (hB : B < base) (i : Nat) (x : Value) : (w1.setCell ⟨B, i, none⟩ x).ownsRow base e sz v n xs := ownsRow_setCell_below h hB x
theorem RowsI.set {w : World} {B base : Nat} {A1 A2 : Option Addr} {c1 c2 : Nat} {text mem : List Int} (h : RowsI w base A1 A2 c1 c2 text mem) (hB : B < base) (i : Nat) (x : Value) : RowsI (w.setCell ⟨B, i, none⟩ x) base A1 A2 c1 c2 text mem := ⟨row_setB h.r1 hB i x, row_setB h.r2 hB i x⟩
theorem no_ints (w : World) (K : IntKind) : IntsAt w none K [] := fun i hi => by simp at hi










end Go.Proofs.Ytbljifaciahdcaa

namespace Go.Proofs.Ytbljifaciahdcaa
open Go.RowKit

abbrev Spt := Int × Int × Int
def spD : Spt := (0, 0, 0)
def spt (l : List Spt) (k : Nat) : Spt := l.getD k spD
theorem spt_mem {l : List Spt} {k : Nat} (h : k < l.length) : spt l k ∈ l := by
  unfold spt
  rw [List.getD_eq_getElem?_getD, List.getElem?_eq_getElem h]
  exact List.getElem_mem _
def SpAt (w : World) (A : Option Addr) (l : List Spt) : Prop := ∀ j, j < l.length → ∃ a : Addr, A = some a ∧ w.cell? (a.add (j * 3)) = some (.int .i64 (spt l j).1) ∧ w.cell? ((a.add (j * 3)).add 1) = some (.int .i8 (spt l j).2.1) ∧ w.cell? ((a.add (j * 3)).add 2) = some (.int .i8 (spt l j).2.2)
theorem SpAt.keep {w w' : World} {A : Option Addr} {l : List Spt} (h : SpAt w A l) (hb : Below w.heap.size w w') : SpAt w' A l := fun j hj => by
  obtain ⟨a, e, q1, q2, q3⟩ := h j hj
  exact ⟨a, e, lkeep hb q1, lkeep hb q2, lkeep hb q3⟩
def spNews (l : List Spt) : List Value := l.flatMap fun s => [.int .i64 s.1, .int .i8 s.2.1, .int .i8 s.2.2]
theorem spNews_len : ∀ l : List Spt, (spNews l).length = l.length * 3
  | [] => rfl
  | r :: R => by
    show (Value.int .i64 r.1 :: Value.int .i8 r.2.1 :: Value.int .i8 r.2.2 :: spNews R).length = _
    rw [List.length_cons, List.length_cons, List.length_cons, spNews_len R, List.length_cons]
    omega
theorem spNews_app (R Q : List Spt) : spNews (R ++ Q) = spNews R ++ spNews Q := by simp [spNews]
theorem spNews_get : ∀ {R : List Spt} {j : Nat}, j < R.length → (spNews R)[j * 3]? = some (.int .i64 (spt R j).1) ∧ (spNews R)[j * 3 + 1]? = some (.int .i8 (spt R j).2.1) ∧ (spNews R)[j * 3 + 2]? = some (.int .i8 (spt R j).2.2)
  | r :: R, 0, _ => ⟨rfl, rfl, rfl⟩
  | r :: R, j + 1, h => by
    have ih := spNews_get (R := R) (j := j) (by simp at h; omega)
    show (Value.int .i64 r.1 :: Value.int .i8 r.2.1 :: Value.int .i8 r.2.2 :: spNews R)[(j + 1) * 3]? = _ ∧ (Value.int .i64 r.1 :: Value.int .i8 r.2.1 :: Value.int .i8 r.2.2 :: spNews R)[(j + 1) * 3 + 1]? = _ ∧ (Value.int .i64 r.1 :: Value.int .i8 r.2.1 :: Value.int .i8 r.2.2 :: spNews R)[(j + 1) * 3 + 2]? = _
    rw [show (j + 1) * 3 = j * 3 + 1 + 1 + 1 by omega, show j * 3 + 1 + 1 + 1 + 1 = (j * 3 + 1) + 1 + 1 + 1 by omega, show j * 3 + 1 + 1 + 1 + 2 = (j * 3 + 2) + 1 + 1 + 1 by omega]
    simp only [List.getElem?_cons_succ]
    exact ih
theorem spNews_one (R : List Spt) : ∀ u ∈ spNews R, u.oneCell' = true := fun u hu => by
  unfold spNews at hu
  obtain ⟨r, _, hu⟩ := List.mem_flatMap.1 hu
  simp only [List.mem_cons, List.not_mem_nil, or_false] at hu
  rcases hu with rfl | rfl | rfl <;> rfl
theorem row_sps {w : World} {base c n : Nat} {e : TypeId} {A : Option Addr} {R : List Spt} (h : w.ownsRow base e 3 (.slice A n c) R.length (spNews R)) : SpAt w A R := fun i hi => by
  rcases h.2 with ⟨_, h0⟩ | ⟨j, cap, cur, hv, hb, hg, hc, _⟩
  · omega
  · cases hv
    obtain ⟨a, b, d⟩ := spNews_get hi
    refine ⟨_, rfl, h.cells rfl _ _ a, ?_, ?_⟩
    · rw [Deep.add_add]; exact h.cells rfl _ _ b
    · rw [Deep.add_add]; exact h.cells rfl _ _ d
theorem infoSp : ∃ i, Try.prog.info? 32 = some i ∧ i.zero = some (.agg #[.int .i64 0, .int .i8 0, .int .i8 0]) ∧ i.size = 3 ∧ i.bytes = 16 :=
  ⟨(Try.prog.info? 32).get (by kernel_rfl), by kernel_rfl, by kernel_rfl, by kernel_rfl, by kernel_rfl⟩
theorem sp_oneI (a b c : Int) : ∀ u ∈ [Value.int .i64 a, .int .i8 b, .int .i8 c], u.oneCell' = true := fun u hu => by
  simp only [List.mem_cons, List.not_mem_nil, or_false] at hu
  rcases hu with rfl | rfl | rfl <;> rfl
theorem own_formS {w : World} {b n sz : Nat} {T : TypeId} {v : Value} {xs : List Value} (h : w.ownsRow b T sz v n xs) : ∃ A c, v = .slice A n c ∧ n ≤ c := by
  rcases h.2 with ⟨e, e2⟩ | ⟨g, cap, cur, e, _, _, hc, _⟩
  · exact ⟨none, 0, by rw [e, e2], by omega⟩
  · exact ⟨_, _, e, hc⟩




end Go.Proofs.Ytbljifaciahdcaa

namespace Go.Proofs.Ytbljifaciahdcaa
open Go.ChangeShapes Go.WideShapes Go.ChangeAt Go.RowKit Go.Joins
set_option maxRecDepth 100000

theorem mk_at20 {α : Type} (f : Nat → α) (n : Nat) (z : α) (i : Nat) (h : i < n) : ((List.range n).map f).getD i z = f i := by simp [List.getD, h]
theorem open_spots {H : Type} {enc : TypeId × Value → H} {W : World} {base : Nat} {sp : Nat → Bool} {held : Bool} {fuel : Nat} {cs : List Value} {x : DataW H × List MemPlace} (h : DataW.trod enc Try.prog W base sp held fuel 22 cs = some x) :
    ∃ (O : Option Addr) (cap : Nat) (zs : List Spt), cs = [.slice O zs.length cap] ∧ SpAt W O zs ∧ zs.length ≤ maxLen ∧ (∀ i, i < zs.length → (Lit.int .i64 (spt zs i).1).wf = true ∧ (Lit.int .i8 (spt zs i).2.1).wf = true ∧ (Lit.int .i8 (spt zs i).2.2).wf = true) ∧ (O = none → cap = 0) := by
  rcases Deep.open_slice Try.underlying22 h with ⟨rfl, _⟩ | ⟨a, len, cap, m, n, D, Pl, rfl, _, hl, hm, hmm, hxx, hx⟩
  · exact ⟨none, 0, [], rfl, fun i hi => by simp at hi, by simp, fun i hi => by simp at hi, fun _ => rfl⟩
  · have hlm : len ≤ m := by rw [hmm]; split <;> omega
    have each : ∀ i, ∃ q : Spt, (i < len → W.cell? (a.add (i * 3)) = some (.int .i64 q.1) ∧ W.cell? (a.add (i * 3 + 1)) = some (.int .i8 q.2.1) ∧ W.cell? (a.add (i * 3 + 2)) = some (.int .i8 q.2.2) ∧ (Lit.int .i64 q.1).wf = true ∧ (Lit.int .i8 q.2.1).wf = true ∧ (Lit.int .i8 q.2.2).wf = true) := by
      intro i
      by_cases hi : i < len
      · obtain ⟨cs', h1, h2⟩ := hx i (by omega)
        rw [show Try.prog.cellsOf 32 = 3 by kernel_rfl] at h1
        obtain ⟨_, hlen, hcell⟩ := World.cells?_some h1
        obtain ⟨y0, y1, y2, k, hD, _, g0, g1, g2⟩ := Deep.trod_struct3 Try.underlying32 h2
        match cs', hlen with
        | [v0, v1, v2], _ =>
          simp [show Try.prog.cellsOf 3 = 1 by kernel_rfl, show Try.prog.cellsOf 23 = 1 by kernel_rfl] at g0 g1 g2
          obtain ⟨s, e0, _, hs⟩ := DataW.trod_int Try.underlying3 g0
          obtain ⟨u, e1, _, hu⟩ := DataW.trod_int Try.underlying23 g1
          obtain ⟨v, e2, _, hv⟩ := DataW.trod_int Try.underlying23 g2
          simp at e0 e1 e2
          subst e0 e1 e2
          have q0 := hcell 0 (by omega)
          have q1 := hcell 1 (by omega)
          have q2 := hcell 2 (by omega)
          rw [Deep.add_add] at q0 q1 q2
          exact ⟨(s, u, v), fun _ => ⟨by simpa using q0, by simpa using q1, by simpa using q2, hs, hu, hv⟩⟩
      · exact ⟨spD, fun h => absurd h hi⟩
    obtain ⟨f, hf⟩ := Classical.axiomOfChoice each
    refine ⟨some a, cap, (List.range len).map f, by simp, ?_, by simp; omega, ?_, fun h => by cases h⟩
    · intro i hi
      have hi' : i < len := by simpa using hi
      obtain ⟨h0, h1, h2, _⟩ := hf i hi'
      refine ⟨a, rfl, ?_, ?_, ?_⟩
      · unfold spt; rw [mk_at20 _ _ _ _ hi']; exact h0
      · unfold spt; rw [mk_at20 _ _ _ _ hi', Deep.add_add]; exact h1
      · unfold spt; rw [mk_at20 _ _ _ _ hi', Deep.add_add]; exact h2
    · intro i hi
      have hi' : i < len := by simpa using hi
      unfold spt
      rw [mk_at20 _ _ _ _ hi']
      exact (hf i hi').2.2.2



end Go.Proofs.Ytbljifaciahdcaa
