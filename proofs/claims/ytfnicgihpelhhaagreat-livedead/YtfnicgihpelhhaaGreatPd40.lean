/-
  The flow as it is made; no Go in sight. What lies in memory while the blocks that wait are gone through.
-/
import Derived.Test.YtfnicgihpelhhaaGreatProg
import Derived.WalkKit
import Derived.WalkSpells
import Derived.WalkLawsBesides
import Derived.RowKit3
import Derived.Below
import Derived.Deep.QuietTactic
import Derived.BigQuiet
import Derived.WalkSmall
import Derived.Laws.Rows
import Derived.Test.YtfnicgihpelhhaaGreatPd37
import Derived.Test.YtfnicgihpelhhaaGreatPd38
import Derived.Test.YtfnicgihpelhhaaGreatPd39
import Derived.Test.YtfnicgihpelhhaaGreatPd35
import Derived.Test.YtfnicgihpelhhaaGreatPd36
import Derived.Test.YtfnicgihpelhhaaGreatPd19
import Derived.Test.YtfnicgihpelhhaaGreatPd18
namespace Go.Proofs.YtfnicgihpelhhaaGreat
open Go.RowKit

theorem infoN : ∃ i, Tryz.prog.info? 50 = some i ∧ i.zero = some (.agg #[.int .i8 0, .int .i8 0, .int .i8 0, .int .i8 0, .int .i64 0]) ∧ i.size = 5 ∧ i.bytes = 16 :=
  ⟨(Tryz.prog.info? 50).get (by kernel_rfl), by kernel_rfl, by kernel_rfl, by kernel_rfl, by kernel_rfl⟩
theorem cell_setO {X : World} {g p : Nat} {u v : Value} {a : Addr} (h : X.cell? a = some v) (hne : a.block ≠ g) : (X.setCell ⟨g, p, none⟩ u).drew.cell? a = some v := by
  have h1 : (X.setCell ⟨g, p, none⟩ u).cell? a = some v := by
    rw [World.cell?_of_block (Below.heap_setCell _ _ _ _ hne)]; exact h
  exact h1
/-- The flow while the blocks are gone through: k last words, m numbers. -/
structure Fl1 (w1 wr : World) (gN gf k m : Nat) (text : List Int) (ent : Int) (O : Option Addr) (c : Nat) (F : Int → Int) : Prop where
  box : wr.heap[gf]? = some (.cells #[.slice O k c, .slice (some ⟨gN, 0, none⟩) text.length text.length, .slice none 0 0] 149 (0, 0))
  row : wr.ownsRow w1.heap.size 50 5 (.slice O k c) k (lstV (lastL text ent k))
  nums : NumsAt wr gN text.length F
  num : NumF text ent m F
  below : Below w1.heap.size w1 wr
  hN : w1.heap.size ≤ gN
  hf : w1.heap.size ≤ gf
section
variable {w1 wr w2 : World} {gN gf k m : Nat} {text : List Int} {ent : Int} {O : Option Addr} {c : Nat} {F : Int → Int}
theorem Fl1.keep (h : Fl1 w1 wr gN gf k m text ent O c F) (hb : Below wr.heap.size wr w2) : Fl1 w1 w2 gN gf k m text ent O c F :=
  ⟨lb_box h.box hb, row_keep h.row hb, h.nums.keep hb, h.num, lb_trans h.below hb, h.hN, h.hf⟩
theorem Fl1.ne (h : Fl1 w1 wr gN gf k m text ent O c F) : gf ≠ gN := fun e => by
  obtain ⟨cs, hb, _⟩ := h.nums
  rw [← e, h.box] at hb
  injection hb with hb
  injection hb with _ hh
  exact absurd hh (by decide)
theorem Fl1.cells (h : Fl1 w1 wr gN gf k m text ent O c F) : wr.cell? ⟨gf, 0, none⟩ = some (.slice O k c) ∧ wr.cell? ⟨gf, 1, none⟩ = some (.slice (some ⟨gN, 0, none⟩) text.length text.length) ∧ wr.frozen? ⟨gf, 0, none⟩ = false :=
  ⟨by simp [World.cell?, h.box], by simp [World.cell?, h.box], box_fro h.box 0⟩
/-- A number is written. -/
theorem Fl1.number (h : Fl1 w1 wr gN gf k m text ent O c F) (hm : m < (blkL text ent).length) : Fl1 w1 (wr.setCell ⟨gN, (rAt (blkL text ent) m).toNat, none⟩ (.int .i64 (m : Int))) gN gf k (m + 1) text ent O c (fun y => if y = rAt (blkL text ent) m then (m : Int) else F y) := by
  have hin := blk_in hm
  have hoff : (Value.slice O k c).ownBlock ≠ some gN := by
    obtain ⟨cs, hb, _⟩ := h.nums
    exact blk_off h.row hb (by decide)
  refine ⟨?_, ownsRow_setCell_other h.row hoff _, h.nums.set hin.1 (by omega) _, h.num.more hm, grown_belowR h.below (gset11 _ _ _ _) h.hN h.below.size, h.hN, h.hf⟩
  rw [Below.heap_setCell _ _ _ _ h.ne]
  exact h.box
/-- A last word is added. -/
theorem Fl1.add {O' : Option Addr} {c' : Nat} (h : Fl1 w1 wr gN gf k m text ent O c F) (ho : w2.ownsRow w1.heap.size 50 5 (.slice O' (k + 1) c') (k + 1) (lstV (lastL text ent k) ++ insC (lastW text ent k))) (hg : wr.grownBy w2 (Value.slice O k c).ownBlock) : Fl1 w1 (w2.setCell ⟨gf, 0, none⟩ (.slice O' (k + 1) c')) gN gf (k + 1) m text ent O' c' F ∧ w2.cell? ⟨gf, 0, none⟩ = some (.slice O k c) ∧ w2.frozen? ⟨gf, 0, none⟩ = false := by
  have hlt : gf < wr.heap.size := (Array.getElem?_eq_some_iff.1 h.box).1
  have hbox2 : w2.heap[gf]? = some (.cells #[.slice O k c, .slice (some ⟨gN, 0, none⟩) text.length text.length, .slice none 0 0] 149 (0, 0)) := by
    rw [hg.block gf hlt (fun e => blk_off h.row h.box (by decide) e.symm)]
    exact h.box
  have hoffN : (Value.slice O k c).ownBlock ≠ some gN := by
    obtain ⟨cs, hb, _⟩ := h.nums
    exact blk_off h.row hb (by decide)
  have hn2 := h.nums.kept hg hoffN
  have hb2 : Below w1.heap.size w1 w2 := h.below.grown hg h.below.size (fun b hb => (h.row.lt b hb).1)
  refine ⟨⟨?_, ?_, ?_, h.num, grown_belowR hb2 (gset11 _ _ _ _) h.hf hb2.size, h.hN, h.hf⟩, by simp [World.cell?, hbox2], box_fro hbox2 0⟩
  · rw [box_set hbox2]; rfl
  · rw [lastL_succ, lstV_snoc]
    exact ownsRow_setCell_other ho (blk_off ho hbox2 (by decide)) _
  · exact hn2.kept (gset11 _ _ _ _) (fun e => h.ne (by injection e))
end


end Go.Proofs.YtfnicgihpelhhaaGreat

namespace Go.Proofs.YtfnicgihpelhhaaGreat
open Go.RowKit

/-- The map that is gone through, the one that is filled anew, the sets. -/
structure Gm (w0 wr : World) (P : Nat) (A : Option Addr) (c N gr gw gi go b r bA n : Nat) (R W F G : Int → Nat) (f g fa : Int → Bool) (cnt na : Nat) : Prop where
  rn : Rn wr b r n f g cnt
  an : Mks wr bA na fa
  st : SetsAt wr P A c N gr gw gi go R W F G
  bel : Below w0.heap.size w0 wr
  ba : b ≠ bA
  ra : r ≠ bA
  hi : w0.heap.size ≤ gi ∧ w0.heap.size ≤ go ∧ w0.heap.size ≤ b ∧ w0.heap.size ≤ r ∧ w0.heap.size ≤ bA
section
variable {w0 wr w1 : World} {P : Nat} {A : Option Addr} {c N gr gw gi go b r bA n : Nat} {R W F G : Int → Nat} {f g fa : Int → Bool} {cnt na : Nat}
theorem Rn.obj (h : Rn wr b r n f g cnt) : (∀ cs t, wr.heap[b]? ≠ some (.cells cs t (0, 0))) ∧ (∀ cs t, wr.heap[r]? ≠ some (.cells cs t (0, 0))) := by
  constructor
  · intro cs t e
    exact (h.notcells e).1 rfl
  · intro cs t e
    exact (h.notcells e).2 rfl
theorem Mks.obj (h : Mks wr bA na fa) : ∀ cs t, wr.heap[bA]? ≠ some (.cells cs t (0, 0)) := by
  obtain ⟨D, ⟨es, clock, h1, _⟩, _⟩ := h
  intro cs t e
  rw [h1] at e
  cases e
theorem Rn.neBR (h : Rn wr b r n f g cnt) : b ≠ r := by
  obtain ⟨D, left, h1, _⟩ := h
  exact fun e => h1.ne e.symm
theorem Gm.keep (h : Gm w0 wr P A c N gr gw gi go b r bA n R W F G f g fa cnt na) (hb : Below wr.heap.size wr w1) : Gm w0 w1 P A c N gr gw gi go b r bA n R W F G f g fa cnt na :=
  { h with rn := h.rn.kept (grown_of (row := none) hb) (by simp) (by simp), an := h.an.keep hb, st := h.st.keep hb, bel := lb_trans h.bel hb }
theorem UsAt.obj {gx m : Nat} {H : Int → Nat} (h : UsAt wr gx m H) : ∃ cs t, wr.heap[gx]? = some (.cells cs t (0, 0)) := by
  obtain ⟨cs, h1, _⟩ := h
  exact ⟨cs, _, h1⟩
theorem Gm.offs (h : Gm w0 wr P A c N gr gw gi go b r bA n R W F G f g fa cnt na) {gx m : Nat} {H : Int → Nat} (hu : UsAt wr gx m H) : gx ≠ b ∧ gx ≠ r ∧ gx ≠ bA := by
  obtain ⟨cs, t, e⟩ := hu.obj
  refine ⟨(h.rn.notcells e).1, (h.rn.notcells e).2, ?_⟩
  rintro rfl
  exact h.an.obj _ _ e
theorem Gm.putF (h : Gm w0 wr P A c N gr gw gi go b r bA n R W F G f g fa cnt na) {k : Nat} (hk : k < N) (v : Nat) : Gm w0 (wr.setCell ⟨gi, k, none⟩ (.int .u16 (v : Int))) P A c N gr gw gi go b r bA n R W (putS F (k : Int) v) G f g fa cnt na := by
  obtain ⟨e1, e2, e3⟩ := h.offs h.st.inn
  have hg := gset11 wr gi k (.int .u16 (v : Int))
  exact { h with rn := h.rn.kept hg (by simpa using e1.symm) (by simpa using e2.symm), an := h.an.kept hg (by simpa using e3.symm), st := h.st.putF hk v, bel := below_setAt h.bel h.hi.1 h.bel.size }
theorem Gm.putG (h : Gm w0 wr P A c N gr gw gi go b r bA n R W F G f g fa cnt na) {k : Nat} (hk : k < N) (v : Nat) : Gm w0 (wr.setCell ⟨go, k, none⟩ (.int .u16 (v : Int))) P A c N gr gw gi go b r bA n R W F (putS G (k : Int) v) f g fa cnt na := by
  obtain ⟨e1, e2, e3⟩ := h.offs h.st.out
  have hg := gset11 wr go k (.int .u16 (v : Int))
  exact { h with rn := h.rn.kept hg (by simpa using e1.symm) (by simpa using e2.symm), an := h.an.kept hg (by simpa using e3.symm), st := h.st.putG hk v, bel := below_setAt h.bel h.hi.2.1 h.bel.size }
theorem Gm.putA (h : Gm w0 wr P A c N gr gw gi go b r bA n R W F G f g fa cnt na) {na' : Nat} {fa' : Int → Bool} (hm : Mks w1 bA na' fa') (hg : wr.grownBy w1 (some bA)) : Gm w0 w1 P A c N gr gw gi go b r bA n R W F G f g fa' cnt na' :=
  { h with rn := h.rn.kept hg (by simpa using h.ba) (by simpa using h.ra), an := hm, st := h.st.kept hg h.an.obj, bel := grown_belowR h.bel hg h.hi.2.2.2.2 h.bel.size }
theorem Gm.step (h : Gm w0 wr P A c N gr gw gi go b r bA n R W F G f g fa cnt na) {g' : Int → Bool} {cnt' : Nat} (hm : Rn w1 b r n f g' cnt') (hg : wr.grownBy w1 (some r)) : Gm w0 w1 P A c N gr gw gi go b r bA n R W F G f g' fa cnt' na :=
  { h with rn := hm, an := h.an.kept hg (by simpa using h.ra.symm), st := h.st.kept hg h.rn.obj.2, bel := grown_belowR h.bel hg h.hi.2.2.2.1 h.bel.size }
theorem Gm.drop (h : Gm w0 wr P A c N gr gw gi go b r bA n R W F G f g fa cnt na) {f' g' : Int → Bool} {cnt' : Nat} (hm : Rn w1 b r n f' g' cnt') (hg : wr.grownBy w1 (some b)) : Gm w0 w1 P A c N gr gw gi go b r bA n R W F G f' g' fa cnt' na :=
  { h with rn := hm, an := h.an.kept hg (by simpa using h.ba.symm), st := h.st.kept hg h.rn.obj.1, bel := grown_belowR h.bel hg h.hi.2.2.1 h.bel.size }
end
def orB (f g : Int → Bool) (x : Int) : Bool := f x || g x
theorem lowS_top (F : Int → Nat) : ∀ n, lowS F n ≤ 65535 * n
  | 0 => Nat.le_refl _
  | n + 1 => by
    have := lowS_top F n
    unfold lowS
    omega
/-- The plain half beside it. -/
structure Gp (M : List (List Int)) (N : Nat) (R W F G : Int → Nat) (f fa : Int → Bool) (na L0 : Nat) : Prop where
  wk : Wk M (fun j => R (j : Int)) (fun j => W (j : Int)) N F G (orB f fa)
  inb : ∀ x, f x = true ∨ fa x = true → 0 ≤ x ∧ x < (N : Int)
  low : na + lowS G N ≤ L0
structure Gq (M : List (List Int)) (N : Nat) (l : List Int) (k m : Nat) (R W F G : Int → Nat) (f fa : Int → Bool) (na L0 : Nat) : Prop where
  md : Md M (fun j => R (j : Int)) (fun j => W (j : Int)) N l k m F G (orB f fa)
  inb : ∀ x, f x = true ∨ fa x = true → 0 ≤ x ∧ x < (N : Int)
  low : na + lowS G N ≤ L0
section
variable {M : List (List Int)} {N : Nat} {l : List Int} {k m : Nat} {R W F G : Int → Nat} {f fa : Int → Bool} {na L0 : Nat}
theorem Gp.take (h : Gp M N R W F G f fa na L0) (hR : ∀ x, R x < 65536) (hW : ∀ x, W x < 65536) (hk : k < N) (hf : f (k : Int) = true) : Gq M N l k 0 R W (putS F (k : Int) (insN (R (k : Int)) (W (k : Int)) (G (k : Int)))) G (cutF f (k : Int)) fa na L0 := by
  refine ⟨h.wk.take (fun _ => hR _) (fun _ => hW _) hk (by simp [orB, hf]) fun j _ hne => ?_, fun x hx => h.inb x ?_, h.low⟩
  · unfold orB cutF
    have : ((j : Int) == (k : Int)) = false := by simp; omega
    rw [this, Bool.not_false, Bool.and_true]
  · rcases hx with hx | hx
    · unfold cutF at hx
      rw [Bool.and_eq_true] at hx
      exact .inl hx.1
    · exact .inr hx
theorem Gq.skip (h : Gq M N l k m R W F G f fa na L0) {t : Nat} (ht : nth l m = (t : Int)) (e : lessN (F (k : Int)) (G (t : Int)) = 0) : Gq M N l k (m + 1) R W F G f fa na L0 :=
  ⟨h.md.skip (by rw [ht]; exact less_zero (h.md.grw.lt _).2 (h.md.grw.lt _).1 e), h.inb, h.low⟩
theorem Gq.old (h : Gq M N l k m R W F G f fa na L0) (hW : ∀ x, W x < 65536) (hk : k < N) {t : Nat} (htN : t < N) (ht : nth l m = (t : Int)) (hm : (k : Int) ∈ rowZ M t) (e : lessN (F (k : Int)) (G (t : Int)) ≠ 0) (hf : f (t : Int) = true) : Gq M N l k (m + 1) R W F (putS G (t : Int) (G (t : Int) ||| F (k : Int))) f fa na L0 := by
  refine ⟨h.md.grow (fun _ => hW _) hk htN ht hm (fun j _ _ => rfl) (by simp [orB, hf]), h.inb, ?_⟩
  have := lowS_put (F := G) htN (or_grows e (h.md.grw.lt _).2) (orN_lt (h.md.grw.lt (t : Int)).2 (h.md.grw.lt (k : Int)).1)
  have := h.low
  omega
theorem Gq.new (h : Gq M N l k m R W F G f fa na L0) (hW : ∀ x, W x < 65536) (hk : k < N) {t : Nat} (htN : t < N) (ht : nth l m = (t : Int)) (hm : (k : Int) ∈ rowZ M t) (e : lessN (F (k : Int)) (G (t : Int)) ≠ 0) : Gq M N l k (m + 1) R W F (putS G (t : Int) (G (t : Int) ||| F (k : Int))) f (setF fa (t : Int)) (na + 1) L0 := by
  refine ⟨h.md.grow (fun _ => hW _) hk htN ht hm (fun j _ hne => ?_) (by simp [orB, setF]), fun x hx => ?_, ?_⟩
  · unfold orB setF
    have : ((j : Int) == (t : Int)) = false := by simp; omega
    rw [this, Bool.false_or]
  · rcases hx with hx | hx
    · exact h.inb x (.inl hx)
    · unfold setF at hx
      rw [Bool.or_eq_true] at hx
      rcases hx with hx | hx
      · have : x = (t : Int) := by simpa using hx
        omega
      · exact h.inb x (.inr hx)
  · have := lowS_put (F := G) htN (or_grows e (h.md.grw.lt _).2) (orN_lt (h.md.grw.lt (t : Int)).2 (h.md.grw.lt (k : Int)).1)
    have := h.low
    omega
theorem Gq.done (h : Gq M N l k m R W F G f fa na L0) (hl : ∀ j : Nat, j < N → (k : Int) ∈ rowZ M j → (j : Int) ∈ l) (hm : m = l.length) : Gp M N R W F G f fa na L0 := ⟨h.md.wk hl hm, h.inb, h.low⟩
theorem Gp.lt (h : Gp M N R W F G f fa na L0) (x : Int) : F x < 65536 ∧ G x < 65536 := h.wk.grw.lt x
theorem Gq.lt (h : Gq M N l k m R W F G f fa na L0) (x : Int) : F x < 65536 ∧ G x < 65536 := h.md.grw.lt x
theorem Gp.nalt (h : Gp M N R W F G f fa na L0) (hL : L0 ≤ 65535 * N) (hN : N ≤ 1048576) : na < 1000000000000 := by
  have := h.low
  omega
theorem Gq.nalt (h : Gq M N l k m R W F G f fa na L0) (hL : L0 ≤ 65535 * N) (hN : N ≤ 1048576) : na < 1000000000000 := by
  have := h.low
  omega
end
/-- What goThrough answers. -/
def ThP (w0 : World) (M : List (List Int)) (P : Nat) (A : Option Addr) (c N gr gw gi go : Nat) (R W : Int → Nat) (L0 : Nat) (e : Ending) (w' : World) : Prop := ∃ (b na : Nat) (F G : Int → Nat) (fa : Int → Bool), e = .returned (.map (some b)) ∧ Mks w' b na fa ∧ SetsAt w' P A c N gr gw gi go R W F G ∧ Gp M N R W F G fa noF na L0 ∧ Below w0.heap.size w0 w' ∧ w0.heap.size ≤ b

end Go.Proofs.YtfnicgihpelhhaaGreat
