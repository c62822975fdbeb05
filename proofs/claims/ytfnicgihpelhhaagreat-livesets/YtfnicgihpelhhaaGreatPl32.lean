/-
  What lies in memory while the blocks that wait are gone through. Blocks that leap; the text in which the first leap alone is left has the same blocks and edges; the lists with the hub; plain.
-/
import Derived.Test.YtfnicgihpelhhaaGreatProg
import Derived.WalkKit
import Derived.WalkSpells
import Derived.WalkLawsBesides
import Derived.RowKit3
import Derived.Below
import Derived.Deep.QuietTactic
import Derived.BigQuiet
import Derived.WalkSmall
import Derived.Laws.Rows
import Derived.Test.YtfnicgihpelhhaaGreatPl24
import Derived.Test.YtfnicgihpelhhaaGreatPl25
import Derived.Test.YtfnicgihpelhhaaGreatPl12
import Derived.Test.YtfnicgihpelhhaaGreatPl14
import Derived.Test.YtfnicgihpelhhaaGreatPl31
import Derived.Test.YtfnicgihpelhhaaGreatPl15
import Derived.Test.YtfnicgihpelhhaaGreatPl04
import Derived.Test.YtfnicgihpelhhaaGreatPl13
namespace Go.Proofs.YtfnicgihpelhhaaGreat
open Go.RowKit

/-- The map that is gone through, the one that is filled anew, the sets. -/
structure Gm (w0 wr : World) (P : Nat) (A : Option Addr) (c N gr gw gi go b r bA n : Nat) (R W F G : Int → Nat) (f g fa : Int → Bool) (cnt na : Nat) : Prop where
  rn : Rn wr b r n f g cnt
  an : Mks wr bA na fa
  st : SetsAt wr P A c N gr gw gi go R W F G
  bel : Below w0.heap.size w0 wr
  ba : b ≠ bA
  ra : r ≠ bA
  hi : w0.heap.size ≤ gi ∧ w0.heap.size ≤ go ∧ w0.heap.size ≤ b ∧ w0.heap.size ≤ r ∧ w0.heap.size ≤ bA
section
variable {w0 wr w1 : World} {P : Nat} {A : Option Addr} {c N gr gw gi go b r bA n : Nat} {R W F G : Int → Nat} {f g fa : Int → Bool} {cnt na : Nat}
theorem Rn.obj (h : Rn wr b r n f g cnt) : (∀ cs t, wr.heap[b]? ≠ some (.cells cs t (0, 0))) ∧ (∀ cs t, wr.heap[r]? ≠ some (.cells cs t (0, 0))) := by
  constructor
  · intro cs t e
    exact (h.notcells e).1 rfl
  · intro cs t e
    exact (h.notcells e).2 rfl
theorem Mks.obj (h : Mks wr bA na fa) : ∀ cs t, wr.heap[bA]? ≠ some (.cells cs t (0, 0)) := by
  obtain ⟨D, ⟨es, clock, h1, _⟩, _⟩ := h
  intro cs t e
  rw [h1] at e
  cases e
theorem Rn.neBR (h : Rn wr b r n f g cnt) : b ≠ r := by
  obtain ⟨D, left, h1, _⟩ := h
  exact fun e => h1.ne e.symm
theorem Gm.keep (h : Gm w0 wr P A c N gr gw gi go b r bA n R W F G f g fa cnt na) (hb : Below wr.heap.size wr w1) : Gm w0 w1 P A c N gr gw gi go b r bA n R W F G f g fa cnt na :=
  { h with rn := h.rn.kept (grown_of (row := none) hb) (by simp) (by simp), an := h.an.keep hb, st := h.st.keep hb, bel := lb_trans h.bel hb }
theorem UsAt.obj {gx m : Nat} {H : Int → Nat} (h : UsAt wr gx m H) : ∃ cs t, wr.heap[gx]? = some (.cells cs t (0, 0)) := by
  obtain ⟨cs, h1, _⟩ := h
  exact ⟨cs, _, h1⟩
theorem Gm.offs (h : Gm w0 wr P A c N gr gw gi go b r bA n R W F G f g fa cnt na) {gx m : Nat} {H : Int → Nat} (hu : UsAt wr gx m H) : gx ≠ b ∧ gx ≠ r ∧ gx ≠ bA := by
  obtain ⟨cs, t, e⟩ := hu.obj
  refine ⟨(h.rn.notcells e).1, (h.rn.notcells e).2, ?_⟩
  rintro rfl
  exact h.an.obj _ _ e
theorem Gm.putF (h : Gm w0 wr P A c N gr gw gi go b r bA n R W F G f g fa cnt na) {k : Nat} (hk : k < N) (v : Nat) : Gm w0 (wr.setCell ⟨gi, k, none⟩ (.int .u16 (v : Int))) P A c N gr gw gi go b r bA n R W (putS F (k : Int) v) G f g fa cnt na := by
  obtain ⟨e1, e2, e3⟩ := h.offs h.st.inn
  have hg := gset11 wr gi k (.int .u16 (v : Int))
  exact { h with rn := h.rn.kept hg (by simpa using e1.symm) (by simpa using e2.symm), an := h.an.kept hg (by simpa using e3.symm), st := h.st.putF hk v, bel := below_setAt h.bel h.hi.1 h.bel.size }
theorem Gm.putG (h : Gm w0 wr P A c N gr gw gi go b r bA n R W F G f g fa cnt na) {k : Nat} (hk : k < N) (v : Nat) : Gm w0 (wr.setCell ⟨go, k, none⟩ (.int .u16 (v : Int))) P A c N gr gw gi go b r bA n R W F (putS G (k : Int) v) f g fa cnt na := by
  obtain ⟨e1, e2, e3⟩ := h.offs h.st.out
  have hg := gset11 wr go k (.int .u16 (v : Int))
  exact { h with rn := h.rn.kept hg (by simpa using e1.symm) (by simpa using e2.symm), an := h.an.kept hg (by simpa using e3.symm), st := h.st.putG hk v, bel := below_setAt h.bel h.hi.2.1 h.bel.size }
theorem Gm.putA (h : Gm w0 wr P A c N gr gw gi go b r bA n R W F G f g fa cnt na) {na' : Nat} {fa' : Int → Bool} (hm : Mks w1 bA na' fa') (hg : wr.grownBy w1 (some bA)) : Gm w0 w1 P A c N gr gw gi go b r bA n R W F G f g fa' cnt na' :=
  { h with rn := h.rn.kept hg (by simpa using h.ba) (by simpa using h.ra), an := hm, st := h.st.kept hg h.an.obj, bel := grown_belowR h.bel hg h.hi.2.2.2.2 h.bel.size }
theorem Gm.step (h : Gm w0 wr P A c N gr gw gi go b r bA n R W F G f g fa cnt na) {g' : Int → Bool} {cnt' : Nat} (hm : Rn w1 b r n f g' cnt') (hg : wr.grownBy w1 (some r)) : Gm w0 w1 P A c N gr gw gi go b r bA n R W F G f g' fa cnt' na :=
  { h with rn := hm, an := h.an.kept hg (by simpa using h.ra.symm), st := h.st.kept hg h.rn.obj.2, bel := grown_belowR h.bel hg h.hi.2.2.2.1 h.bel.size }
theorem Gm.drop (h : Gm w0 wr P A c N gr gw gi go b r bA n R W F G f g fa cnt na) {f' g' : Int → Bool} {cnt' : Nat} (hm : Rn w1 b r n f' g' cnt') (hg : wr.grownBy w1 (some b)) : Gm w0 w1 P A c N gr gw gi go b r bA n R W F G f' g' fa cnt' na :=
  { h with rn := hm, an := h.an.kept hg (by simpa using h.ba.symm), st := h.st.kept hg h.rn.obj.1, bel := grown_belowR h.bel hg h.hi.2.2.1 h.bel.size }
end
def orB (f g : Int → Bool) (x : Int) : Bool := f x || g x
theorem lowS_top (F : Int → Nat) : ∀ n, lowS F n ≤ 65535 * n
  | 0 => Nat.le_refl _
  | n + 1 => by
    have := lowS_top F n
    unfold lowS
    omega
/-- The plain half beside it. -/
structure Gp (M : List (List Int)) (N : Nat) (R W F G : Int → Nat) (f fa : Int → Bool) (na L0 : Nat) : Prop where
  wk : Wk M (fun j => R (j : Int)) (fun j => W (j : Int)) N F G (orB f fa)
  inb : ∀ x, f x = true ∨ fa x = true → 0 ≤ x ∧ x < (N : Int)
  low : na + lowS G N ≤ L0
structure Gq (M : List (List Int)) (N : Nat) (l : List Int) (k m : Nat) (R W F G : Int → Nat) (f fa : Int → Bool) (na L0 : Nat) : Prop where
  md : Md M (fun j => R (j : Int)) (fun j => W (j : Int)) N l k m F G (orB f fa)
  inb : ∀ x, f x = true ∨ fa x = true → 0 ≤ x ∧ x < (N : Int)
  low : na + lowS G N ≤ L0
section
variable {M : List (List Int)} {N : Nat} {l : List Int} {k m : Nat} {R W F G : Int → Nat} {f fa : Int → Bool} {na L0 : Nat}
theorem Gp.take (h : Gp M N R W F G f fa na L0) (hR : ∀ x, R x < 65536) (hW : ∀ x, W x < 65536) (hk : k < N) (hf : f (k : Int) = true) : Gq M N l k 0 R W (putS F (k : Int) (insN (R (k : Int)) (W (k : Int)) (G (k : Int)))) G (cutF f (k : Int)) fa na L0 := by
  refine ⟨h.wk.take (fun _ => hR _) (fun _ => hW _) hk (by simp [orB, hf]) fun j _ hne => ?_, fun x hx => h.inb x ?_, h.low⟩
  · unfold orB cutF
    have : ((j : Int) == (k : Int)) = false := by simp; omega
    rw [this, Bool.not_false, Bool.and_true]
  · rcases hx with hx | hx
    · unfold cutF at hx
      rw [Bool.and_eq_true] at hx
      exact .inl hx.1
    · exact .inr hx
theorem Gq.skip (h : Gq M N l k m R W F G f fa na L0) {t : Nat} (ht : nth l m = (t : Int)) (e : lessN (F (k : Int)) (G (t : Int)) = 0) : Gq M N l k (m + 1) R W F G f fa na L0 :=
  ⟨h.md.skip (by rw [ht]; exact less_zero (h.md.grw.lt _).2 (h.md.grw.lt _).1 e), h.inb, h.low⟩
theorem Gq.old (h : Gq M N l k m R W F G f fa na L0) (hW : ∀ x, W x < 65536) (hk : k < N) {t : Nat} (htN : t < N) (ht : nth l m = (t : Int)) (hm : (k : Int) ∈ rowZ M t) (e : lessN (F (k : Int)) (G (t : Int)) ≠ 0) (hf : f (t : Int) = true) : Gq M N l k (m + 1) R W F (putS G (t : Int) (G (t : Int) ||| F (k : Int))) f fa na L0 := by
  refine ⟨h.md.grow (fun _ => hW _) hk htN ht hm (fun j _ _ => rfl) (by simp [orB, hf]), h.inb, ?_⟩
  have := lowS_put (F := G) htN (or_grows e (h.md.grw.lt _).2) (orN_lt (h.md.grw.lt (t : Int)).2 (h.md.grw.lt (k : Int)).1)
  have := h.low
  omega
theorem Gq.new (h : Gq M N l k m R W F G f fa na L0) (hW : ∀ x, W x < 65536) (hk : k < N) {t : Nat} (htN : t < N) (ht : nth l m = (t : Int)) (hm : (k : Int) ∈ rowZ M t) (e : lessN (F (k : Int)) (G (t : Int)) ≠ 0) : Gq M N l k (m + 1) R W F (putS G (t : Int) (G (t : Int) ||| F (k : Int))) f (setF fa (t : Int)) (na + 1) L0 := by
  refine ⟨h.md.grow (fun _ => hW _) hk htN ht hm (fun j _ hne => ?_) (by simp [orB, setF]), fun x hx => ?_, ?_⟩
  · unfold orB setF
    have : ((j : Int) == (t : Int)) = false := by simp; omega
    rw [this, Bool.false_or]
  · rcases hx with hx | hx
    · exact h.inb x (.inl hx)
    · unfold setF at hx
      rw [Bool.or_eq_true] at hx
      rcases hx with hx | hx
      · have : x = (t : Int) := by simpa using hx
        omega
      · exact h.inb x (.inr hx)
  · have := lowS_put (F := G) htN (or_grows e (h.md.grw.lt _).2) (orN_lt (h.md.grw.lt (t : Int)).2 (h.md.grw.lt (k : Int)).1)
    have := h.low
    omega
theorem Gq.done (h : Gq M N l k m R W F G f fa na L0) (hl : ∀ j : Nat, j < N → (k : Int) ∈ rowZ M j → (j : Int) ∈ l) (hm : m = l.length) : Gp M N R W F G f fa na L0 := ⟨h.md.wk hl hm, h.inb, h.low⟩
theorem Gp.lt (h : Gp M N R W F G f fa na L0) (x : Int) : F x < 65536 ∧ G x < 65536 := h.wk.grw.lt x
theorem Gq.lt (h : Gq M N l k m R W F G f fa na L0) (x : Int) : F x < 65536 ∧ G x < 65536 := h.md.grw.lt x
theorem Gp.nalt (h : Gp M N R W F G f fa na L0) (hL : L0 ≤ 65535 * N) (hN : N ≤ 1048576) : na < 1000000000000 := by
  have := h.low
  omega
theorem Gq.nalt (h : Gq M N l k m R W F G f fa na L0) (hL : L0 ≤ 65535 * N) (hN : N ≤ 1048576) : na < 1000000000000 := by
  have := h.low
  omega
end
/-- What goThrough answers. -/
def ThP (w0 : World) (M : List (List Int)) (P : Nat) (A : Option Addr) (c N gr gw gi go : Nat) (R W : Int → Nat) (L0 : Nat) (e : Ending) (w' : World) : Prop := ∃ (b na : Nat) (F G : Int → Nat) (fa : Int → Bool), e = .returned (.map (some b)) ∧ Mks w' b na fa ∧ SetsAt w' P A c N gr gw gi go R W F G ∧ Gp M N R W F G fa noF na L0 ∧ Below w0.heap.size w0 w' ∧ w0.heap.size ≤ b

end Go.Proofs.YtfnicgihpelhhaaGreat

namespace Go.Proofs.YtfnicgihpelhhaaGreat
open Go.RowKit

/-- Does the block k leap: end in Calls or Go? -/
def lpB (text : List Int) (ent : Int) (k : Nat) : Bool := dOp (lastW text ent k) == 18 || dOp (lastW text ent k) == 19
def lpF (text : List Int) (ent : Int) (y : Int) : Bool := lpB text ent y.toNat
def lpL (text : List Int) (ent : Int) : List Int := plcT (lpF text ent) (blkL text ent).length
theorem lpF_at (text : List Int) (ent : Int) (k : Nat) : lpF text ent (k : Int) = lpB text ent k := by unfold lpF; rw [show ((k : Int)).toNat = k by omega]
/-- The place of the t-th leap. -/
def lpP (text : List Int) (ent : Int) (t : Nat) : Nat := (rSym (blkL text ent) (nth (lpL text ent) t).toNat - 1).toNat
theorem plcT_rise (f : Int → Bool) : ∀ (k : Nat) {s t : Nat}, s < t → t < (plcT f k).length → nth (plcT f k) s < nth (plcT f k) t
  | 0, s, t, _, h => by simp [plcT] at h
  | k + 1, s, t, hst, h => by
    cases e : f (k : Int) with
    | false => rw [plcT_no e] at h ⊢; exact plcT_rise f k hst h
    | true =>
      rw [plcT_yes e] at h ⊢
      rw [List.length_append] at h
      by_cases ht : t < (plcT f k).length
      · rw [nth_left ht, nth_left (by omega)]
        exact plcT_rise f k hst ht
      · have et : t = (plcT f k).length + 0 := by simp at h; omega
        rw [et, nth_right, nth_left (by omega)]
        have := (plcT_mem.1 (nth_mem (show s < (plcT f k).length by omega))).2.1
        exact this
theorem lp_at {text : List Int} {ent : Int} {t : Nat} (h : t < (lpL text ent).length) : ∃ k : Nat, k < (blkL text ent).length ∧ nth (lpL text ent) t = (k : Int) ∧ lpB text ent k = true := by
  have hm := plcT_mem.1 (nth_mem h)
  refine ⟨(nth (lpL text ent) t).toNat, by have := hm.2.1; have := hm.1; unfold lpL at *; omega, by have := hm.1; unfold lpL at *; omega, ?_⟩
  exact hm.2.2
theorem lp_has {text : List Int} {ent : Int} {k : Nat} (hk : k < (blkL text ent).length) (h : lpB text ent k = true) : ∃ t, t < (lpL text ent).length ∧ nth (lpL text ent) t = (k : Int) := by
  have hm : (k : Int) ∈ lpL text ent := plcT_mem.2 ⟨by omega, by omega, by rw [lpF_at]; exact h⟩
  obtain ⟨t, ht, e⟩ := mem_at hm
  exact ⟨t, ht, e⟩
theorem lpP_at {text : List Int} {ent : Int} {t k : Nat} (hk : k < (blkL text ent).length) (e : nth (lpL text ent) t = (k : Int)) : (lpP text ent t : Int) = rSym (blkL text ent) k - 1 ∧ lpP text ent t < text.length ∧ nth text (lpP text ent t) = lastW text ent k := by
  obtain ⟨h0, h1, h2⟩ := blk_in hk
  unfold lpP lastW
  rw [e, show ((k : Int)).toNat = k by omega]
  refine ⟨by omega, by omega, rfl⟩
theorem lpP_ne {text : List Int} {ent : Int} (hn : 0 < text.length) {s t : Nat} (hs : s < (lpL text ent).length) (ht : t < (lpL text ent).length) (hne : s ≠ t) : lpP text ent s ≠ lpP text ent t := by
  have key : ∀ {a b : Nat}, a < b → b < (lpL text ent).length → lpP text ent a < lpP text ent b := fun {a b} hab hb => by
    obtain ⟨i, hi, ei, _⟩ := lp_at (show a < (lpL text ent).length by omega)
    obtain ⟨j, hj, ej, _⟩ := lp_at hb
    have hr := plcT_rise (lpF text ent) (blkL text ent).length hab hb
    have hij : i < j := by unfold lpL at ei ej; omega
    have h1 := blkRise hn hj i hij
    have h2 := (blk_in hj).2.1
    have h3 := (lpP_at hi ei).1
    have h4 := (lpP_at hj ej).1
    omega
  rcases Nat.lt_or_ge s t with h | h
  · exact Nat.ne_of_lt (key h ht)
  · exact (Nat.ne_of_lt (key (by omega) hs)).symm
/-- The word that takes a leap's place: a Call or a Jump to the place 0. -/
def cutW (v : Int) : Int := if dOp v = 18 then 2281701376 else 2013265920
theorem cutW18 {v : Int} (h : dOp v = 18) : cutW v = 2281701376 := if_pos h
theorem cutW19 {v : Int} (h : dOp v = 19) : cutW v = 2013265920 := if_neg (by omega)
theorem call0 : dOp 2281701376 = 17 ∧ dN 2281701376 = 0 ∧ isT 2281701376 = true ∧ tgV 2281701376 = 0 := by decide
theorem jump0 : dOp 2013265920 = 15 ∧ dN 2013265920 = 0 ∧ isT 2013265920 = true ∧ tgV 2013265920 = 0 := by decide
/-- A text in which some leaps have given way. -/
structure OneL (text T : List Int) : Prop where
  len : T.length = text.length
  word : ∀ p, p < text.length → nth T p = nth text p ∨ ((dOp (nth text p) = 18 ∨ dOp (nth text p) = 19) ∧ nth T p = cutW (nth text p))
structure OneJ (text : List Int) (ent : Int) (T : List Int) (j : Nat) : Prop where
  one : OneL text T
  rest : ∀ t, t < (lpL text ent).length → t = 0 ∨ j < t → nth T (lpP text ent t) = nth text (lpP text ent t)
theorem nth_set {l : List Int} {i p : Nat} {v : Int} (hp : p < l.length) : nth (l.set i v) p = if i = p then v else nth l p := by
  unfold nth
  rw [List.getD_eq_getElem?_getD, List.getElem?_set, List.getD_eq_getElem?_getD]
  by_cases e : i = p
  · rw [if_pos e, if_pos e, if_pos (by omega)]; rfl
  · rw [if_neg e, if_neg e]
theorem OneJ.zero (text : List Int) (ent : Int) : OneJ text ent text 0 := ⟨⟨rfl, fun _ _ => .inl rfl⟩, fun _ _ _ => rfl⟩
theorem lp_ops {text : List Int} {ent : Int} {k : Nat} (h : lpB text ent k = true) : dOp (lastW text ent k) = 18 ∨ dOp (lastW text ent k) = 19 := by
  unfold lpB at h
  simpa using h
theorem OneJ.step {text : List Int} {ent : Int} {T : List Int} {j : Nat} (h : OneJ text ent T j) (hn : 0 < text.length) (hj : j + 1 < (lpL text ent).length) : OneJ text ent (T.set (lpP text ent (j + 1)) (cutW (nth T (lpP text ent (j + 1))))) (j + 1) := by
  obtain ⟨k, hk, ek, hl⟩ := lp_at hj
  obtain ⟨_, h2, h3⟩ := lpP_at hk ek
  have hT : nth T (lpP text ent (j + 1)) = nth text (lpP text ent (j + 1)) := h.rest _ hj (.inr (by omega))
  have hlen := h.one.len
  rw [hT]
  refine ⟨⟨by rw [List.length_set]; exact hlen, fun p hp => ?_⟩, fun t ht hc => ?_⟩
  · rw [nth_set (by omega)]
    by_cases e : lpP text ent (j + 1) = p
    · rw [if_pos e]
      subst e
      exact .inr ⟨by rw [h3]; exact lp_ops hl, rfl⟩
    · rw [if_neg e]; exact h.one.word p hp
  · obtain ⟨i, hi, ei, _⟩ := lp_at ht
    have h5 := (lpP_at hi ei).2.1
    rw [nth_set (by omega), if_neg (lpP_ne hn hj ht (by omega))]
    exact h.rest t ht (by omega)
section
variable {text T : List Int} {ent : Int} {ml : Nat}
theorem OneL.oTak (h : OneL text T) {p : Nat} (hp : p < text.length) : gTak T p = gTak text p := by
  unfold gTak
  rcases h.word p hp with e | ⟨e, e2⟩
  · rw [e]
  · rw [e2]
    rcases e with e | e
    · rw [cutW18 e, call0.1, e]; rfl
    · rw [cutW19 (by assumption), jump0.1, e]; rfl
theorem OneL.oSit (h : OneL text T) {p : Nat} (hp : p < text.length) : gSit T p = gSit text p := by
  unfold gSit
  rcases h.word p hp with e | ⟨e, e2⟩
  · rw [e]
  · rw [e2]
    rcases e with e | e
    · rw [cutW18 e, call0.1, e]; rfl
    · rw [cutW19 (by assumption), jump0.1, e]; rfl
theorem OneL.oEnd (h : OneL text T) {p : Nat} (hp : p < text.length) : gEnd T p = gEnd text p := by
  unfold gEnd
  rcases h.word p hp with e | ⟨e, e2⟩
  · rw [e]
  · rw [e2]
    rcases e with e | e
    · rw [cutW18 e, call0.1, e]; rfl
    · rw [cutW19 (by assumption), jump0.1, e]; rfl
theorem anyF_fit {f g : Nat → Option Int} {k : Nat} (h : ∀ i, i < k → f i = g i) (y : Int) : anyF f k y = anyF g k y := by
  rw [Bool.eq_iff_iff, anyF_iff, anyF_iff]
  constructor
  · rintro ⟨i, hi, e⟩; exact ⟨i, hi, by rw [← h i hi]; exact e⟩
  · rintro ⟨i, hi, e⟩; exact ⟨i, hi, by rw [h i hi]; exact e⟩
theorem OneL.oLab (h : OneL text T) {p : Nat} (hp : p < text.length) : gLab T p = gLab text p ∨ (gLab text p = none ∧ gLab T p = some 0) := by
  rcases h.word p hp with e | ⟨e, e2⟩
  · left; unfold gLab; rw [e]
  · right
    have hold : isT (nth text p) = false := by
      unfold isT hP
      rcases e with e | e <;> (rw [e]; rfl)
    refine ⟨by unfold gLab; rw [hold]; rfl, ?_⟩
    unfold gLab
    rw [e2]
    rcases e with e | e
    · rw [cutW18 e, call0.2.2.1, call0.2.2.2]; rfl
    · rw [cutW19 (by assumption), jump0.2.2.1, jump0.2.2.2]; rfl
theorem OneL.oTakF (h : OneL text T) (y : Int) : takF T y = takF text y := by
  unfold takF addK
  rw [h.len, anyF_fit (fun i hi => h.oTak hi)]
theorem OneL.oSitF (h : OneL text T) (y : Int) : sitF T y = sitF text y := by
  unfold sitF addK
  rw [h.len, anyF_fit (fun i hi => h.oSit hi)]
theorem OneL.beg (h : OneL text T) (y : Int) : begF T ent y = begF text ent y := by
  rw [Bool.eq_iff_iff, beg_iff, beg_iff, lab_iff, lab_iff, h.len, anyF_fit (f := gEnd T) (fun i hi => h.oEnd hi), anyF_iff (g := gLab T), anyF_iff (g := gLab text)]
  constructor
  · rintro (a | (a | ⟨i, hi, e⟩) | a)
    · exact .inl a
    · exact .inr (.inl (.inl a))
    · rcases h.oLab hi with e2 | ⟨_, e2⟩
      · exact .inr (.inl (.inr ⟨i, hi, by rw [← e2]; exact e⟩))
      · rw [e2] at e
        injection e with e
        exact .inl e.symm
    · exact .inr (.inr a)
  · rintro (a | (a | ⟨i, hi, e⟩) | a)
    · exact .inl a
    · exact .inr (.inl (.inl a))
    · rcases h.oLab hi with e2 | ⟨e2, _⟩
      · exact .inr (.inl (.inr ⟨i, hi, by rw [e2]; exact e⟩))
      · rw [e2] at e; cases e
    · exact .inr (.inr a)
theorem OneL.blk (h : OneL text T) (ent : Int) : blkL T ent = blkL text ent := by
  unfold blkL
  rw [h.len, plcT_fit (fun i _ => h.beg (ent := ent) (i : Int))]
theorem OneL.may (h : OneL text T) (hM : MayI text ml ent) : MayI T ml ent := by
  have hl := h.len
  obtain ⟨a, b, c, d, e⟩ := hM.past
  refine ⟨⟨by omega, by omega, c, d, by omega⟩, fun j hj => ?_, ?_⟩
  · have hf := hM.far j (by omega)
    unfold farT at hf ⊢
    rw [hl]
    rcases h.word j (by omega) with e1 | ⟨e1, e2⟩
    · rw [e1]; exact hf
    · rw [e2]
      rcases e1 with e1 | e1
      · rw [cutW18 e1, call0.2.2.2, decide_eq_false (by omega), Bool.and_false]
      · rw [cutW19 (by assumption), jump0.2.2.2, decide_eq_false (by omega), Bool.and_false]
  · have hk := hM.last
    rw [hl]
    rcases h.word (text.length - 1) (by omega) with e1 | ⟨e1, e2⟩
    · rw [e1]; exact hk
    · rw [e2]
      unfold lastOK at hk ⊢
      have hk := of_decide_eq_true hk
      rcases e1 with e1 | e1
      · omega
      · rw [cutW19 (by assumption), jump0.1]; rfl
theorem OneL.range (h : OneL text T) (hR : ∀ i, i < text.length → 0 ≤ nth text i ∧ nth text i < 4294967296) : ∀ i, i < T.length → 0 ≤ nth T i ∧ nth T i < 4294967296 := fun i hi => by
  rw [h.len] at hi
  rcases h.word i hi with e | ⟨_, e⟩
  · rw [e]; exact hR i hi
  · rw [e]
    unfold cutW
    split <;> omega
theorem OneL.edg (h : OneL text T) {i : Nat} (hw : lastW T ent i = lastW text ent i) (y : Int) : edgR T ent i y = edgR text ent i y := by
  unfold edgR edgB
  rw [hw, h.blk, h.oTakF, h.oSitF]
theorem OneL.last (h : OneL text T) {k : Nat} (hk : k < (blkL text ent).length) (hl : lpB text ent k = false) : lastW T ent k = lastW text ent k := by
  obtain ⟨h0, h1, h2⟩ := blk_in hk
  unfold lastW
  rw [h.blk]
  rcases h.word (rSym (blkL text ent) k - 1).toNat (by omega) with e | ⟨e, _⟩
  · exact e
  · exfalso
    unfold lpB lastW at hl
    rcases e with e | e <;> (rw [e] at hl; revert hl; decide)
theorem OneJ.last0 {j : Nat} (h : OneJ text ent T j) {k : Nat} (hk : k < (blkL text ent).length) (h0 : 0 < (lpL text ent).length) (e : nth (lpL text ent) 0 = (k : Int)) : lastW T ent k = lastW text ent k := by
  obtain ⟨p1, _, p3⟩ := lpP_at hk e
  have := h.rest 0 h0 (.inl rfl)
  rw [p3] at this
  rw [← this]
  unfold lastW
  rw [h.one.blk]
  congr 1
  omega
theorem edgT_row {text : List Int} {ent : Int} {n i : Nat} (h : i < n) : rowZ (edgT text ent n) i = plcT (edgR text ent i) (blkL text ent).length := rowZ_map h
theorem OneL.row (h : OneL text T) {n k : Nat} (hk : k < n) (hw : lastW T ent k = lastW text ent k) : rowZ (edgT T ent n) k = rowZ (edgT text ent n) k := by
  rw [edgT_row hk, edgT_row hk, h.blk]
  exact plcT_fit fun i _ => h.edg hw (i : Int)
/-- All that leap go to the same blocks. -/
theorem leap_row {text : List Int} {ent : Int} {n i j : Nat} (hi : i < n) (hj : j < n) (li : lpB text ent i = true) (lj : lpB text ent j = true) : rowZ (edgT text ent n) i = rowZ (edgT text ent n) j := by
  rw [edgT_row hi, edgT_row hj]
  refine plcT_fit fun y _ => ?_
  unfold edgR edgB goesF
  have h1 := lp_ops li
  have h2 := lp_ops lj
  rw [if_neg (by omega), if_neg (by omega), if_neg (by omega), if_pos h1, if_neg (by omega), if_neg (by omega), if_neg (by omega), if_pos h2]
end
/-- The lists as flow writes them: the first j leaps lead to the hub. -/
structure FlJ (text : List Int) (ent : Int) (T : List Int) (M : List (List Int)) (j : Nat) : Prop where
  len : M.length = (blkL text ent).length + 1
  old : ∀ k, k < (blkL text ent).length → (∀ t, t < j → nth (lpL text ent) t ≠ (k : Int)) → rowZ M k = rowZ (edgT T ent (blkL text ent).length) k
  new : ∀ t, t < j → rowZ M (nth (lpL text ent) t).toNat = [((blkL text ent).length : Int)]
  hub : rowZ M (blkL text ent).length = if 0 < (lpL text ent).length then rowZ (edgT T ent (blkL text ent).length) (nth (lpL text ent) 0).toNat else []
theorem rowZ_setL {M : List (List Int)} {i t : Nat} {l : List Int} (ht : t < M.length) : rowZ (M.set i l) t = if i = t then l else rowZ M t := by
  unfold rowZ
  rw [List.getD_eq_getElem?_getD, List.getElem?_set, List.getD_eq_getElem?_getD]
  by_cases e : i = t
  · rw [if_pos e, if_pos e, if_pos (by omega)]; rfl
  · rw [if_neg e, if_neg e]
theorem FlJ.step {text : List Int} {ent : Int} {T : List Int} {M : List (List Int)} {j : Nat} (h : FlJ text ent T M j) (hj : j < (lpL text ent).length) : FlJ text ent T (M.set (nth (lpL text ent) j).toNat [((blkL text ent).length : Int)]) (j + 1) := by
  obtain ⟨i, hi, ei, _⟩ := lp_at hj
  have hl := h.len
  rw [ei, show ((i : Int)).toNat = i by omega]
  refine ⟨by rw [List.length_set]; exact hl, fun k hk hne => ?_, fun t ht => ?_, ?_⟩
  · rw [rowZ_setL (by omega), if_neg (fun e => hne j (by omega) (by rw [ei, e]))]
    exact h.old k hk fun t ht => hne t (by omega)
  · by_cases e : t = j
    · subst e
      rw [ei, show ((i : Int)).toNat = i by omega, rowZ_setL (by omega), if_pos rfl]
    · obtain ⟨i2, hi2, ei2, _⟩ := lp_at (show t < (lpL text ent).length by omega)
      have := h.new t (by omega)
      rw [ei2, show ((i2 : Int)).toNat = i2 by omega] at this ⊢
      rw [rowZ_setL (by omega)]
      split
      · rfl
      · exact this
  · rw [rowZ_setL (by omega), if_neg (by omega)]
    exact h.hub
theorem FlJ.is {text : List Int} {ent : Int} {T : List Int} {M : List (List Int)} {jj : Nat} (h : FlJ text ent T M (lpL text ent).length) (hT : OneJ text ent T jj) : Hub (edgT text ent (blkL text ent).length) M (blkL text ent).length (lpB text ent) := by
  have hrow0 : ∀ k, k < (blkL text ent).length → lpB text ent k = true → rowZ M (blkL text ent).length = rowZ (edgT text ent (blkL text ent).length) k := fun k hk hl => by
    obtain ⟨t, ht, et⟩ := lp_has hk hl
    have h0 : 0 < (lpL text ent).length := by omega
    obtain ⟨i, hi, ei, li⟩ := lp_at h0
    rw [h.hub, if_pos h0, ei, show ((i : Int)).toNat = i by omega, hT.one.row hi (hT.last0 hi h0 ei)]
    exact leap_row hi hk li hl
  refine ⟨h.len, fun k hk hl => ?_, fun k hk hl => ?_, hrow0, fun t ht => ?_⟩
  · rw [h.old k hk (fun t ht e => by
      obtain ⟨i, hi, ei, li⟩ := lp_at ht
      rw [ei] at e
      have : i = k := by omega
      subst this
      rw [li] at hl; cases hl)]
    exact hT.one.row hk (hT.one.last hk hl)
  · obtain ⟨t, ht, et⟩ := lp_has hk hl
    have := h.new t ht
    rwa [et, show ((k : Int)).toNat = k by omega] at this
  · by_cases h0 : 0 < (lpL text ent).length
    · obtain ⟨i, hi, ei, li⟩ := lp_at h0
      rw [hrow0 i hi li] at ht ⊢
      rw [edgT_row hi] at ht ⊢
      have := plcT_mem.1 (nth_mem ht)
      exact ⟨this.1, this.2.1⟩
    · rw [h.hub, if_neg h0] at ht
      simp at ht
theorem edgT_inn (text : List Int) (ent : Int) : Inn (edgT text ent (blkL text ent).length) (blkL text ent).length := fun k t hk ht => by
  rw [edgT_row hk] at ht ⊢
  have := plcT_mem.1 (nth_mem ht)
  exact ⟨this.1, this.2.1⟩
theorem Hub.innM {L M : List (List Int)} {n : Nat} {lp : Nat → Bool} (h : Hub L M n lp) (hI : Inn L n) : Inn M (n + 1) := fun k t hk ht => by
  by_cases e : k = n
  · subst e
    have := h.inn t ht
    omega
  · have hk : k < n := by omega
    cases el : lp k with
    | false =>
      rw [h.plain k hk el] at ht ⊢
      have := hI k t hk ht
      omega
    | true =>
      rw [h.leap k hk el] at ht ⊢
      obtain rfl : t = 0 := by simpa using ht
      show 0 ≤ (n : Int) ∧ (n : Int) < _
      omega
theorem Hub.rowlen {text : List Int} {ent : Int} {M : List (List Int)} (h : Hub (edgT text ent (blkL text ent).length) M (blkL text ent).length (lpB text ent)) (h0 : ∀ (_ : ¬ ∃ k, k < (blkL text ent).length ∧ lpB text ent k = true), rowZ M (blkL text ent).length = []) (k : Nat) (hk : k < (blkL text ent).length + 1) : (rowZ M k).length ≤ (blkL text ent).length + 1 := by
  by_cases e : k = (blkL text ent).length
  · subst e
    by_cases hx : ∃ k, k < (blkL text ent).length ∧ lpB text ent k = true
    · obtain ⟨i, hi, li⟩ := hx
      rw [h.hub i hi li, edgT_row hi]
      have := plcT_len (edgR text ent i) (blkL text ent).length
      omega
    · rw [h0 hx]; simp
  · have hk : k < (blkL text ent).length := by omega
    cases el : lpB text ent k with
    | false =>
      rw [h.plain k hk el, edgT_row hk]
      have := plcT_len (edgR text ent k) (blkL text ent).length
      omega
    | true => rw [h.leap k hk el]; simp

end Go.Proofs.YtfnicgihpelhhaaGreat
