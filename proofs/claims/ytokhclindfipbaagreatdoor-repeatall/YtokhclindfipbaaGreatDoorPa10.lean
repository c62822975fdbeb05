/-
  merge: two sorted rows become one, in place.
-/
import Derived.Test.YtokhclindfipbaaGreatDoorProg
import Derived.WalkKit
import Derived.WalkSpells
import Derived.WalkLawsBesides
import Derived.RowKit3
import Derived.Below
import Derived.Deep.QuietTactic
import Derived.BigQuiet
import Derived.WalkSmall
import Derived.Laws.Rows
import Derived.Test.YtokhclindfipbaaGreatDoorPa07
import Derived.Test.YtokhclindfipbaaGreatDoorPa09
namespace Go.Proofs.YtokhclindfipbaaGreatDoor
open Go.RowKit

def tlS (X : Addr) (c : Nat) : Addr := if c = 1 then X else X.add 1
theorem tail_runS (X : Addr) (n c : Nat) (h0 : 0 < n) (_h : n ≤ c) (w : World) : (Instr.slice 36 (.slice (some X) n c) (some (.int .i64 1)) none none).run Tryz.prog w = .ok (.slice (some (tlS X c)) (n - 1) (c - 1)) w := by
  rw [run_slice_l (P := Tryz.prog) w 36 (some X) n c (by kernel_rfl) .i64 1 (by omega) (by omega)]
  rw [show (sizeOf (Tryz.prog.elem 36)).run Tryz.prog w = .ok 1 w by kernel_rfl]
  show Result.ok (sliced (some X) 1 n c 1) w = _
  unfold sliced tlS
  by_cases e : c = 1
  · rw [if_pos e, if_pos e]
  · rw [if_neg e, if_neg e]; rfl
theorem tlS_lit {g o c : Nat} (h : c ≠ 1) : tlS ⟨g, o, none⟩ c = ⟨g, o + 1, none⟩ := by
  unfold tlS
  rw [if_neg h]
  simp [Addr.add]
/-- What the order is: the closure, over its boxes. -/
def ordF (bk br bs bl : Nat) : Value := .func (.func 84) #[] #[.pointer (some ⟨bk, 0, none⟩), .pointer (some ⟨br, 0, none⟩), .pointer (some ⟨bs, 0, none⟩), .pointer (some ⟨bl, 0, none⟩)]
/-- What may be other behind a sorting: two rows and the count. -/
def Trio (g h bc : Nat) : Nat → Prop := fun k => k = g ∨ k = h ∨ k = bc
/-- The order may be asked as long as nothing but those is other. -/
structure Ask (w : World) (bk br bs bl bc x0 g h : Nat) (r : List Int) (n s : Nat) : Prop where
  sur : Sur w bk br bs bl bc x0 r n s
  gof : bk ≠ g ∧ br ≠ g ∧ bs ≠ g ∧ bl ≠ g ∧ x0 ≠ g
  hof : bk ≠ h ∧ br ≠ h ∧ bs ≠ h ∧ bl ≠ h ∧ x0 ≠ h
  gh : g ≠ h
  gc : g ≠ bc
  hc : h ≠ bc
  nl : n ≤ 1048576
  sl : s ≤ 1048576
theorem not_trio {g h bc k : Nat} (a : k ≠ g) (b : k ≠ h) (c : k ≠ bc) : ¬ Trio g h bc k := fun x => x.elim a fun y => y.elim b c
theorem Ask.keep {w w' : World} {bk br bs bl bc x0 g h : Nat} {r : List Int} {n s : Nat} (a : Ask w bk br bs bl bc x0 g h r n s) (hb : ButS (Trio g h bc) w w') : Ask w' bk br bs bl bc x0 g h r n s where
  sur := by
    obtain ⟨a1, a2, a3, a4, a5⟩ := a.gof
    obtain ⟨b1, b2, b3, b4, b5⟩ := a.hof
    obtain ⟨c1, c2, c3, c4, c5⟩ := a.sur.off
    exact a.sur.keep hb (not_trio a1 b1 c1) (not_trio a2 b2 c2) (not_trio a3 b3 c3) (not_trio a4 b4 c4) (not_trio a5 b5 c5)
  gof := a.gof
  hof := a.hof
  gh := a.gh
  gc := a.gc
  hc := a.hc
  nl := a.nl
  sl := a.sl
theorem Ask.ask {w : World} {bk br bs bl bc x0 g h : Nat} {r : List Int} {n s : Nat} (a : Ask w bk br bs bl bc x0 g h r n s) (i k c : Nat) (w' : World) (hb : ButS (Trio g h bc) w w') (hc : Cst w' bc c) (hi : i < n) (hk : k < n) (hl : c + ordC r n s i k ≤ 1099511627776) :
    Calls Tryz.prog 84 #[.int .i64 (i : Int), .int .i64 (k : Int), .pointer (some ⟨bk, 0, none⟩), .pointer (some ⟨br, 0, none⟩), .pointer (some ⟨bs, 0, none⟩), .pointer (some ⟨bl, 0, none⟩)] w' fun e w2 => e = .returned (.int .i64 (ordV r n s i k)) ∧ Cst w2 bc (c + ordC r n s i k) ∧ But bc w' w2 :=
  order_any bk br bs bl bc x0 r n s i k c w' (a.keep hb).sur hc hi hk a.nl a.sl hl

/-- A merging under way, in memory. -/
structure MrA (w wr : World) (g h bc N M o A B m c k p q cc : Nat) (f fs fc : Nat → Int) (o' : Nat → Nat → Int) (c' : Nat → Nat → Nat) (L R : List Nat) : Prop where
  row : RwN wr g N fc
  spr : RwN wr h M fs
  dn : ∀ j, j < k → fc (o + j) = ((snth (mrg o' L R) j : Nat) : Int)
  rst : ∀ j, q ≤ j → j < B → fc (o + A + j) = ((snth R j : Nat) : Int)
  out : ∀ j, j < o ∨ o + m ≤ j → fc j = f j
  cst : Cst wr bc (c + cc)
  mrs : MrS o' c' L R p q cc
  but : ButS (Trio g h bc) w wr
theorem cell_set_off {w : World} {g i k : Nat} {v : Value} (h : i ≠ k) : (w.setCell ⟨g, i, none⟩ v).cell? ⟨g, k, none⟩ = w.cell? ⟨g, k, none⟩ := World.cell?_setCell_other _ _ _ _ (by intro e; injection e with _ e2; exact h e2)
/-- What merge leaves. -/
def MrgP (w w' : World) (g h bc N M o m c : Nat) (f fs : Nat → Int) (T : List Nat) (cc : Nat) : Prop := ∃ f' : Nat → Int, RwN w' g N f' ∧ (∀ j, j < m → f' (o + j) = ((snth T j : Nat) : Int)) ∧ (∀ j, j < o ∨ o + m ≤ j → f' j = f j) ∧ RwN w' h M fs ∧ Cst w' bc (c + cc) ∧ ButS (Trio g h bc) w w'
theorem MrA.done {w wr : World} {g h bc N M o A B m c k p q cc : Nat} {f fs fc : Nat → Int} {o' : Nat → Nat → Int} {c' : Nat → Nat → Nat} {L R : List Nat} (a : MrA w wr g h bc N M o A B m c k p q cc f fs fc o' c' L R) (hA : L.length = A) (hB : R.length = B) (hm : m = A + B) (hk : k = p + q) (hp : A ≤ p) : MrgP w wr g h bc N M o m c f fs (mrg o' L R) (mrgC o' c' L R) := by
  obtain ⟨e, hr⟩ := a.mrs.done (by omega)
  have hpl := a.mrs.pl
  refine ⟨fc, a.row, fun j hj => ?_, a.out, a.spr, e ▸ a.cst, a.but⟩
  by_cases h1 : j < k
  · exact a.dn j h1
  · have h2 := a.rst (j - A) (by omega) (by omega)
    rw [show o + A + (j - A) = o + j by omega] at h2
    rw [h2, ← hr (j - A) (by omega) (by omega), hA, show A + (j - A) = j by omega]
theorem MrA.put {w wr w5 : World} {g h bc N M o A B m c k p q cc : Nat} {f fs fc : Nat → Int} {o' : Nat → Nat → Int} {c' : Nat → Nat → Nat} {L R : List Nat} (a : MrA w wr g h bc N M o A B m c k p q cc f fs fc o' c' L R) (p' q' cc' v : Nat) (hb : ButS (fun j => j = bc) wr w5) (hgc : g ≠ bc) (hhc : h ≠ bc) (hgh : g ≠ h) (hc5 : Cst w5 bc (c + cc')) (hm : m = A + B) (hk : k = p + q) (hpA : p < A) (hqB : q ≤ B) (hN : o + m ≤ N) (hq' : q ≤ q') (hv : snth (mrg o' L R) (p + q) = v) (hs : MrS o' c' L R p' q' cc') :
    MrA w (w5.setCell ⟨g, o + k, none⟩ (.int .i64 (v : Int))) g h bc N M o A B m c (k + 1) p' q' cc' f fs (updF fc (o + k) (v : Int)) o' c' L R := by
  have row5 := a.row.keep hb hgc
  refine ⟨row5.set (by omega) _, (a.spr.keep hb hhc).keep ((ButS.refl (fun j => j = g) _).set rfl _ _) (fun e => hgh e.symm), fun j hj => ?_, fun j h1 h2 => ?_, fun j hj => ?_, hc5.keep ((ButS.refl (fun j => j = g) _).set rfl _ _) (fun e => hgc e.symm), hs, (a.but.trans (hb.more fun k hk => .inr (.inr hk))).set (.inl rfl) _ _⟩
  · unfold updF
    by_cases e : j = k
    · subst e
      rw [if_pos rfl, hk, hv]
    · rw [if_neg (by omega)]
      exact a.dn j (by omega)
  · unfold updF
    rw [if_neg (by omega)]
    exact a.rst j (by omega) h2
  · unfold updF
    rw [if_neg (by omega)]
    exact a.out j hj
theorem MrA.drew {w wr : World} {g h bc N M o A B m c k p q cc : Nat} {f fs fc : Nat → Int} {o' : Nat → Nat → Int} {c' : Nat → Nat → Nat} {L R : List Nat} (a : MrA w wr g h bc N M o A B m c k p q cc f fs fc o' c' L R) : MrA w wr.drew g h bc N M o A B m c k p q cc f fs fc o' c' L R := ⟨a.row, a.spr, a.dn, a.rst, a.out, a.cst, a.mrs, a.but⟩
set_option maxRecDepth 100000 in
set_option maxHeartbeats 8000000 in
theorem merge_any (bk br bs bl bc x0 g h : Nat) (r : List Int) (n s : Nat) (N M o A B m c cap cl cr : Nat) (f fs : Nat → Int) (L R : List Nat) (w : World) (ha : Ask w bk br bs bl bc x0 g h r n s) (hc : Cst w bc c) (hg : RwN w g N f) (hh : RwN w h M fs) (hA : L.length = A) (hB : R.length = B) (hm : m = A + B) (hL : ∀ j, j < A → fs j = ((snth L j : Nat) : Int)) (hR : ∀ j, j < B → f (o + A + j) = ((snth R j : Nat) : Int)) (hLn : ∀ x ∈ L, x < n) (hRn : ∀ x ∈ R, x < n) (hN : o + m ≤ N) (hM : A ≤ M) (hN1 : N ≤ 1048576) (hcl : A ≤ cl) (hcr : B ≤ cr) (_hcap : m ≤ cap) (hl : c + mrgC (ordV r n s) (ordC r n s) L R ≤ 1099511627776) :
    Calls Tryz.prog 105 #[.slice (some ⟨g, o, none⟩) m cap, .slice (some ⟨h, 0, none⟩) A cl, .slice (some ⟨g, o + A, none⟩) B cr, ordF bk br bs bl] w fun e w' => e = .returned (.tuple #[]) ∧ MrgP w w' g h bc N M o m c f fs (mrg (ordV r n s) L R) (mrgC (ordV r n s) (ordC r n s) L R) := by
  have HA : Hid (L.length = A) := hA
  have HB0 : Hid (R.length = B) := hB
  have HM : Hid (m = A + B) := hm
  have HS : Hid (MrA w w g h bc N M o A B m c 0 0 0 0 f fs f (ordV r n s) (ordC r n s) L R) := ⟨hg, hh, fun j hj => absurd hj (Nat.not_lt_zero _), fun j _ h2 => hR j h2, fun _ _ => rfl, hc, MrS.start _ _ _ _, ButS.refl _ _⟩
  have HK : Hid (Ask w bk br bs bl bc x0 g h r n s) := ha
  have HL : Hid (∀ j, j < A → fs j = ((snth L j : Nat) : Int)) := hL
  have HLn : Hid (∀ x ∈ L, x < n) := hLn
  have HRn : Hid (∀ x ∈ R, x < n) := hRn
  have HC : Hid (c + mrgC (ordV r n s) (ordC r n s) L R ≤ 1099511627776) := hl
  have hmN : m ≤ 1048576 := by omega
  clear hc hg hh hA hB hm hL hR hLn hRn ha hl
  unfold ordF
  go_enter Tryz.func105, Tryz.ntmps105
  go_wp2
  go_loopw [1, 2, 11] (fun vl vr vk wr => ∃ (p q k cl cr cc : Nat) (Y Z : Addr) (fc : Nat → Int), vl = .slice (some Y) (A - p) cl ∧ vr = .slice (some Z) (B - q) cr ∧ vk = .int .i64 (k : Int) ∧ Hid (k = p + q) ∧ k ≤ m ∧ p ≤ A ∧ q ≤ B ∧ Hid (p < A → Y = ⟨h, p, none⟩) ∧ Hid (q < B → Z = ⟨g, o + A + q, none⟩) ∧ A - p ≤ cl ∧ B - q ≤ cr ∧ Hid (MrA w wr g h bc N M o A B m c k p q cc f fs fc (ordV r n s) (ordC r n s) L R)) (fun _ _ vk _ => m - (intOf vk).toNat)
  case atStart => exact ⟨0, 0, 0, cl, cr, 0, ⟨h, 0, none⟩, ⟨g, o + A, none⟩, f, rfl, rfl, rfl, rfl, Nat.zero_le _, Nat.zero_le _, Nat.zero_le _, fun _ => rfl, fun _ => rfl, hcl, hcr, HS⟩
  case round =>
    clear HS hcl hcr
    obtain ⟨p, q, k, cl, cr, cc, Y, Z, fc, rfl, rfl, rfl, hk, hkm, hp, hq, hY, hZ, hcl, hcr, HS⟩ := hrel
    by_cases k1 : k < m
    · have k1' : (k : Int) < (m : Int) := by omega
      by_cases p1 : p < A
      · have z1 : (((A - p : Nat) : Int) == 0) = false := by rw [beq_eq_false_iff_ne]; omega
        have eY := hY.out p1
        subst eY
        have pL : p < L.length := by have := HA.out; omega
        have bx : snth L p < n := HLn.out _ (snth_memS pL)
        have HQ2 : Hid (∀ W, ButS (fun j => j = bc) wr W → W.cell? ⟨h, p, none⟩ = some (.int .i64 ((snth L p : Nat) : Int))) := fun W hW => by
          have := (HS.out.spr.keep hW HK.out.hc).cell (i := p) (by omega)
          rw [HL.out p p1] at this
          exact this
        have HQ3 : Hid (∀ W, ButS (fun j => j = bc) wr W → W.cell? ⟨g, o + k, none⟩ = some (.int .i64 (fc (o + k))) ∧ W.frozen? ⟨g, o + k, none⟩ = false) := fun W hW => ⟨(HS.out.row.keep hW HK.out.gc).cell (by omega), (HS.out.row.keep hW HK.out.gc).frz _⟩
        have tl := tail_runS ⟨h, p, none⟩ (A - p) cl (by omega) hcl
        by_cases q1 : q < B
        · have eZ := hZ.out q1
          subst eZ
          have z2 : (0 : Int) < ((B - q : Nat) : Int) := by omega
          have z3 : 0 < B - q := by omega
          have z4 : decide (0 < B - q) = true := decide_eq_true z3
          have z5 : 0 < A - p := by omega
          have z6 : (0 : Int) < ((A - p : Nat) : Int) := by omega
          have qL : q < R.length := by have := HB0.out; omega
          have by' : snth R q < n := HRn.out _ (snth_memS qL)
          have HQ1 : Hid (∀ W, ButS (fun j => j = bc) wr W → W.cell? ⟨g, o + A + q, none⟩ = some (.int .i64 ((snth R q : Nat) : Int))) := fun W hW => by
            have := (HS.out.row.keep hW HK.out.gc).cell (i := o + A + q) (by have := HM.out; omega)
            rw [HS.out.rst q (Nat.le_refl _) q1] at this
            exact this
          have tr := tail_runS ⟨g, o + A + q, none⟩ (B - q) cr (by omega) hcr
          have hcost : c + cc + ordC r n s (snth R q) (snth L p) ≤ 1099511627776 := by
            have h1 := HC.out
            by_cases ho : ordV r n s (snth R q) (snth L p) < 0
            · have := (HS.out.mrs.right pL qL ho).2.cost
              omega
            · have := (HS.out.mrs.left pL qL ho).2.cost
              omega
          have CO := fun W (hW : ButS (fun j => j = bc) wr W) (hc : Cst W bc (c + cc)) => HK.out.ask (snth R q) (snth L p) (c + cc) W (HS.out.but.trans (hW.more fun k hk => .inr (.inr hk))) hc by' bx hcost
          have HCw : Hid (Cst wr bc (c + cc)) := HS.out.cst
          clear hcost bx by'
          by_cases ho : ordV r n s (snth R q) (snth L p) < 0
          · have H1 := HS.out.mrs.right pL qL ho
            have HP : Hid (∀ w5, ButS (fun j => j = bc) wr w5 → Cst w5 bc (c + cc + ordC r n s (snth R q) (snth L p)) → MrA w (w5.setCell ⟨g, o + k, none⟩ (.int .i64 ((snth R q : Nat) : Int))) g h bc N M o A B m c (k + 1) p (q + 1) (cc + ordC r n s (snth R q) (snth L p)) f fs (updF fc (o + k) ((snth R q : Nat) : Int)) (ordV r n s) (ordC r n s) L R) := fun w5 hb h5 => HS.out.put p (q + 1) _ _ hb HK.out.gc HK.out.hc HK.out.gh (by rw [← Nat.add_assoc]; exact h5) HM.out hk.out p1 hq hN (by omega) H1.1 H1.2
            clear H1 pL qL tl
            generalize ordV r n s (snth R q) (snth L p) = v at *
            generalize ordC r n s (snth R q) (snth L p) = cv at *
            generalize snth R q = y at *
            generalize snth L p = x at *
            go_upto_region 4 with fail
            go_region_held3 (fun W => W.cell? ⟨g, o + A + q, none⟩ = some (.int .i64 (y : Int)) ∧ W.cell? ⟨h, p, none⟩ = some (.int .i64 (x : Int))) (first | exact ⟨HQ1.out _ (ButS.refl _ _), HQ2.out _ (ButS.refl _ _)⟩ | exact ⟨HQ1.out _ HB5.out, HQ2.out _ HB5.out⟩) (first | (go_at_call 84; refine (CO _ (by first | exact (ButS.refl _ wr).drew | exact ButS.refl _ wr) (by first | exact HCw.out)).mono ?_; rintro e w5 ⟨rfl, hc5, hb5⟩; have HC5 : Hid (Cst w5 bc (c + cc + cv)) := hc5; have HB5 : Hid (ButS (fun j => j = bc) wr w5) := (ButS.refl _ wr).trans (ButS.but hb5 rfl); clear hc5 hb5))
            have qz := HQ1.out _ HB5.out
            obtain ⟨q3, q4⟩ := HQ3.out _ HB5.out
            have hne : o + k ≠ o + A + q := by have := hk.out; omega
            have HE : Hid (MrA w (w5.setCell ⟨g, o + k, none⟩ (.int .i64 (y : Int))) g h bc N M o A B m c (k + 1) p (q + 1) (cc + cv) f fs (updF fc (o + k) (y : Int)) (ordV r n s) (ordC r n s) L R) := HP.out _ HB5.out HC5.out
            clear HQ1 HQ2 HQ3 CO HP HS HCw z1 z2 z4 z6
            go_upto_region 5 with fail
            go_region_held3 (fun W => W.cell? ⟨g, o + A + q, none⟩ = some (.int .i64 (y : Int))) (first | exact qz | exact (cell_set_off hne).trans qz) (fail)
            go_wp2
            go_roundw
            case rel => exact ⟨p, q + 1, k + 1, cl, cr - 1, cc + cv, ⟨h, p, none⟩, tlS ⟨g, o + A + q, none⟩ cr, updF fc (o + k) (y : Int), rfl, by rw [show B - (q + 1) = B - q - 1 by omega], by go_num, by have := hk.out; unfold Hid; omega, by omega, hp, by omega, fun _ => rfl, fun h1 => tlS_lit (by omega), hcl, by omega, by first | exact HE | exact HE.out.drew⟩
            case measure => simp [intOf]; omega
          · have H1 := HS.out.mrs.left pL qL ho
            have HP : Hid (∀ w5, ButS (fun j => j = bc) wr w5 → Cst w5 bc (c + cc + ordC r n s (snth R q) (snth L p)) → MrA w (w5.setCell ⟨g, o + k, none⟩ (.int .i64 ((snth L p : Nat) : Int))) g h bc N M o A B m c (k + 1) (p + 1) q (cc + ordC r n s (snth R q) (snth L p)) f fs (updF fc (o + k) ((snth L p : Nat) : Int)) (ordV r n s) (ordC r n s) L R) := fun w5 hb h5 => HS.out.put (p + 1) q _ _ hb HK.out.gc HK.out.hc HK.out.gh (by rw [← Nat.add_assoc]; exact h5) HM.out hk.out p1 hq hN (by omega) H1.1 H1.2
            clear H1 pL qL tr
            generalize ordV r n s (snth R q) (snth L p) = v at *
            generalize ordC r n s (snth R q) (snth L p) = cv at *
            generalize snth R q = y at *
            generalize snth L p = x at *
            go_upto_region 4 with fail
            go_region_held3 (fun W => W.cell? ⟨g, o + A + q, none⟩ = some (.int .i64 (y : Int)) ∧ W.cell? ⟨h, p, none⟩ = some (.int .i64 (x : Int))) (first | exact ⟨HQ1.out _ (ButS.refl _ _), HQ2.out _ (ButS.refl _ _)⟩ | exact ⟨HQ1.out _ HB5.out, HQ2.out _ HB5.out⟩) (first | (go_at_call 84; refine (CO _ (by first | exact (ButS.refl _ wr).drew | exact ButS.refl _ wr) (by first | exact HCw.out)).mono ?_; rintro e w5 ⟨rfl, hc5, hb5⟩; have HC5 : Hid (Cst w5 bc (c + cc + cv)) := hc5; have HB5 : Hid (ButS (fun j => j = bc) wr w5) := (ButS.refl _ wr).trans (ButS.but hb5 rfl); clear hc5 hb5))
            have qz := HQ2.out _ HB5.out
            obtain ⟨q3, q4⟩ := HQ3.out _ HB5.out
            have HE : Hid (MrA w (w5.setCell ⟨g, o + k, none⟩ (.int .i64 (x : Int))) g h bc N M o A B m c (k + 1) (p + 1) q (cc + cv) f fs (updF fc (o + k) (x : Int)) (ordV r n s) (ordC r n s) L R) := HP.out _ HB5.out HC5.out
            have hgh : g ≠ h := HK.out.gh
            clear HQ1 HQ2 HQ3 CO HP HS HCw z1 z2 z4 z6
            go_upto_region 6 with fail
            go_region_held3 (fun W => W.cell? ⟨h, p, none⟩ = some (.int .i64 (x : Int))) (first | exact qz | exact (World.cell?_setCell_far _ _ _ _ hgh).trans qz) (fail)
            go_wp2
            go_roundw
            case rel => exact ⟨p + 1, q, k + 1, cl - 1, cr, cc + cv, tlS ⟨h, p, none⟩ cl, ⟨g, o + A + q, none⟩, updF fc (o + k) (x : Int), by rw [show A - (p + 1) = A - p - 1 by omega], rfl, by go_num, by have := hk.out; unfold Hid; omega, by omega, by omega, hq, fun h1 => tlS_lit (by omega), fun _ => rfl, by omega, hcr, by first | exact HE | exact HE.out.drew⟩
            case measure => simp [intOf]; omega
        · have z2 : ¬ (0 : Int) < ((B - q : Nat) : Int) := by omega
          have z3 : B - q = 0 := by omega
          have z5 : 0 < A - p := by omega
          have z6 : (0 : Int) < ((A - p : Nat) : Int) := by omega
          have H1 := HS.out.mrs.alone pL (by have := HB0.out; omega)
          have HE : Hid (∀ j, MrA w ((wr.drewN j).setCell ⟨g, o + k, none⟩ (.int .i64 ((snth L p : Nat) : Int))) g h bc N M o A B m c (k + 1) (p + 1) q cc f fs (updF fc (o + k) ((snth L p : Nat) : Int)) (ordV r n s) (ordC r n s) L R) := fun j => HS.out.put (p + 1) q cc _ ((ButS.refl _ wr).drewN j) HK.out.gc HK.out.hc HK.out.gh HS.out.cst HM.out hk.out p1 hq hN (Nat.le_refl _) H1.1 H1.2
          have qz := HQ2.out _ (ButS.refl _ _)
          obtain ⟨q3, q4⟩ := HQ3.out _ (ButS.refl _ _)
          have hgh : g ≠ h := HK.out.gh
          clear H1 pL bx HQ2 HQ3 HS z1
          generalize snth L p = x at *
          go_upto_region 4 with fail
          go_big_quiet (fail)
          go_upto_region 6 with fail
          go_region_held3 (fun W => W.cell? ⟨h, p, none⟩ = some (.int .i64 (x : Int))) (first | exact qz | exact (World.cell?_setCell_far _ _ _ _ hgh).trans qz) (fail)
          go_wp2
          go_roundw
          case rel => exact ⟨p + 1, q, k + 1, cl - 1, cr, cc, tlS ⟨h, p, none⟩ cl, Z, updF fc (o + k) (x : Int), by rw [show A - (p + 1) = A - p - 1 by omega], by rw [z3], by go_num, by have := hk.out; unfold Hid; omega, by omega, by omega, hq, fun h1 => tlS_lit (by omega), by first | exact hZ | exact fun _ => by omega, by omega, hcr, by first | exact HE.out _ | exact (HE.out _).drew⟩
          case measure => simp [intOf]; omega
      · have z1 : (((A - p : Nat) : Int) == 0) = true := by rw [beq_iff_eq]; omega
        have HD : Hid (MrgP w wr g h bc N M o m c f fs (mrg (ordV r n s) L R) (mrgC (ordV r n s) (ordC r n s) L R)) := HS.out.done HA.out HB0.out HM.out hk.out (by omega)
        go_wp2
        refine bodyPost_ret (results_none rfl _ _ _) rfl ?_
        exact ⟨rfl, HD.out⟩
    · have k1' : ¬ (k : Int) < (m : Int) := by omega
      have HD : Hid (MrgP w wr g h bc N M o m c f fs (mrg (ordV r n s) L R) (mrgC (ordV r n s) (ordC r n s) L R)) := HS.out.done HA.out HB0.out HM.out hk.out (by have := HM.out; have := hk.out; omega)
      go_wp2
      go_end0
      exact ⟨rfl, HD.out⟩




end Go.Proofs.YtokhclindfipbaaGreatDoor
