/-
  sortBy: a row of places is sorted by the order, in place.
-/
import Derived.Test.YtokhclindfipbaaGreatDoorProg
import Derived.WalkKit
import Derived.WalkSpells
import Derived.WalkLawsBesides
import Derived.RowKit3
import Derived.Below
import Derived.Deep.QuietTactic
import Derived.BigQuiet
import Derived.WalkSmall
import Derived.Laws.Rows
import Derived.Laws.CopyOwn
import Derived.Test.YtokhclindfipbaaGreatDoorPa10
namespace Go.Proofs.YtokhclindfipbaaGreatDoor
open Go.RowKit

/-- The places of a part of a row. -/
def seg (f : Nat → Nat) (o m : Nat) : List Nat := (List.range m).map fun j => f (o + j)
theorem seg_len (f : Nat → Nat) (o m : Nat) : (seg f o m).length = m := by simp [seg]
theorem seg_nth {f : Nat → Nat} {o m j : Nat} (h : j < m) : snth (seg f o m) j = f (o + j) := by simp [seg, snth, h]
theorem snth_ext {A B : List Nat} (hl : A.length = B.length) (h : ∀ j, j < A.length → snth A j = snth B j) : A = B := by
  apply List.ext_getElem hl
  intro j h1 h2
  have := h j h1
  simpa [snth, h1, h2] using this
theorem seg_take {f : Nat → Nat} {o m k : Nat} (h : k ≤ m) : (seg f o m).take k = seg f o k := by
  refine snth_ext (by simp [seg_len, h]) fun j hj => ?_
  rw [List.length_take, seg_len] at hj
  have e : snth ((seg f o m).take k) j = snth (seg f o m) j := by simp [snth, show j < k by omega]
  rw [e, seg_nth (by omega), seg_nth (by omega)]
theorem seg_drop {f : Nat → Nat} {o m k : Nat} : (seg f o m).drop k = seg f (o + k) (m - k) := by
  refine snth_ext (by simp [seg_len]) fun j hj => ?_
  rw [List.length_drop, seg_len] at hj
  rw [snth_drop, seg_nth (by omega), seg_nth (by omega), Nat.add_assoc]
theorem seg_same {f g : Nat → Nat} {o m : Nat} (h : ∀ j, j < m → f (o + j) = g (o + j)) : seg f o m = seg g o m := by
  unfold seg
  exact List.map_congr_left fun j hj => h j (List.mem_range.1 hj)
theorem seg_is {f : Nat → Nat} {o m : Nat} {A : List Nat} (hl : A.length = m) (h : ∀ j, j < m → f (o + j) = snth A j) : seg f o m = A := by
  refine snth_ext (by rw [seg_len, hl]) fun j hj => ?_
  rw [seg_len] at hj
  rw [seg_nth hj, h j hj]
theorem seg_mem {f : Nat → Nat} {o m n : Nat} (h : ∀ j, j < m → f (o + j) < n) : ∀ x ∈ seg f o m, x < n := fun x hx => by
  obtain ⟨j, hj, rfl⟩ := List.mem_map.1 hx
  exact h j (List.mem_range.1 hj)
/-- A row of places. -/
def RwP (w : World) (g N : Nat) (f : Nat → Nat) : Prop := RwN w g N fun i => ((f i : Nat) : Int)
/-- What sortBy leaves. -/
def SrtB (w w' : World) (g h bc N M o m c : Nat) (f : Nat → Nat) (T : List Nat) (cc : Nat) : Prop := ∃ (f' : Nat → Nat) (fs : Nat → Int), RwP w' g N f' ∧ (∀ j, j < m → f' (o + j) = snth T j) ∧ (∀ j, j < o ∨ o + m ≤ j → f' j = f j) ∧ RwN w' h M fs ∧ Cst w' bc (c + cc) ∧ ButS (Trio g h bc) w w'
theorem head_runS (g o n c k : Nat) (hk : k ≤ n) (h : n ≤ c) (w : World) : (Instr.slice 36 (.slice (some ⟨g, o, none⟩) n c) none (some (.int .i64 (k : Int))) none).run Tryz.prog w = .ok (.slice (some ⟨g, o, none⟩) k c) w := by
  rw [run_slice_h (P := Tryz.prog) w 36 (some ⟨g, o, none⟩) n c (by kernel_rfl) .i64 (k : Int) (by omega) (by omega)]
  rw [show (sizeOf (Tryz.prog.elem 36)).run Tryz.prog w = .ok 1 w by kernel_rfl]
  show Result.ok (sliced (some ⟨g, o, none⟩) 0 (k : Int).toNat c 1) w = _
  unfold sliced
  rw [show ((k : Int)).toNat = k by omega]
  simp [Addr.add]
theorem rest_runS (g o n c k : Nat) (hk : k < n) (h : n ≤ c) (w : World) : (Instr.slice 36 (.slice (some ⟨g, o, none⟩) n c) (some (.int .i64 (k : Int))) none none).run Tryz.prog w = .ok (.slice (some ⟨g, o + k, none⟩) (n - k) (c - k)) w := by
  rw [run_slice_l (P := Tryz.prog) w 36 (some ⟨g, o, none⟩) n c (by kernel_rfl) .i64 (k : Int) (by omega) (by omega)]
  rw [show (sizeOf (Tryz.prog.elem 36)).run Tryz.prog w = .ok 1 w by kernel_rfl]
  show Result.ok (sliced (some ⟨g, o, none⟩) (k : Int).toNat n c 1) w = _
  unfold sliced
  rw [show ((k : Int)).toNat = k by omega, if_neg (show ¬ c = k by omega)]
  by_cases h0 : k = 0
  · subst h0; simp [Addr.add]
  · simp [Addr.add, h0]
theorem tdiv_half (n : Nat) : Int.tdiv (n : Int) 2 = ((n / 2 : Nat) : Int) := by
  rw [Int.tdiv_eq_ediv_of_nonneg (by omega)]
  omega

theorem rowC_copy {M k : Nat} {fs vs : Nat → Int} (hk : k ≤ M) : (rowC M fs).take 0 ++ (rowC k vs ++ (rowC M fs).drop (0 + k)) = rowC M fun j => if j < k then vs j else fs j := by
  rw [List.take_zero, List.nil_append, Nat.zero_add]
  apply List.ext_getElem?
  intro j
  by_cases h1 : j < k
  · rw [List.getElem?_append_left (by rw [rowC_len]; exact h1), rowC_get h1, rowC_get (by omega), if_pos h1]
  · rw [List.getElem?_append_right (by rw [rowC_len]; omega), rowC_len, List.getElem?_drop, show k + (j - k) = j by omega]
    by_cases h2 : j < M
    · rw [rowC_get h2, rowC_get h2, if_neg h1]
    · rw [List.getElem?_eq_none (by rw [rowC_len]; omega), List.getElem?_eq_none (by rw [rowC_len]; omega)]
theorem copy_runN (h M cs g o k cap : Nat) (fs vs : Nat → Int) (w : World) (hh : RwN w h M fs) (hsrc : ∀ j, j < k → w.cell? ⟨g, o + j, none⟩ = some (.int .i64 (vs j))) (hk : k ≤ M) :
    ∃ w', (∀ ty, (Builtin.copy_ #[36, 36] ty #[.slice (some ⟨h, 0, none⟩) M cs, .slice (some ⟨g, o, none⟩) k cap]).run Tryz.prog w = .ok (.int .i64 (k : Int)) w') ∧ RwN w' h M (fun j => if j < k then vs j else fs j) ∧ ButS (fun b => b = h) w w' := by
  have hrun := fun ty => run_copy_row (P := Tryz.prog) w 36 36 ty 3 h 0 M cs ⟨g, o, none⟩ k cap _ 3 (rowC k vs) Tryz.underlying36 (by kernel_rfl) hh (by rw [rowC_len]; exact (Nat.min_eq_left hk).symm) (fun j v hv => by
    have hj : j < k := by
      have := (List.getElem?_eq_some_iff.1 hv).1
      rw [rowC_len] at this
      exact this
    rw [rowC_get hj] at hv
    obtain rfl := Option.some.inj hv
    have : (⟨g, o, none⟩ : Addr).add j = ⟨g, o + j, none⟩ := by
      by_cases e : j = 0
      · subst e; simp [Addr.add]
      · simp [Addr.add, e]
    rw [this]
    exact hsrc j hj) (by rw [rowC_len]; simp [rowC_len]; exact hk) (fun v hv => by
    obtain ⟨j, _, rfl⟩ := List.mem_map.1 hv
    rfl)
  have e : (List.take 0 (rowC M fs).toArray.toList ++ rowC k vs ++ List.drop (0 + (rowC k vs).length) (rowC M fs).toArray.toList) = rowC M fun j => if j < k then vs j else fs j := by
    rw [← rowC_copy hk, rowC_len, List.append_assoc]
  rw [e, rowC_len] at hrun
  exact ⟨_, hrun, setRow_heap w h _ _ 3 _ hh, rfl, rfl, rfl, by simp [World.setRow], fun b _ hb => setRow_other w h b _ hb⟩
theorem srt_seg {o' : Nat → Nat → Int} {f : Nat → Nat} {o m p k : Nat} (h : 2 ≤ m) (hp : m / 2 = k) (hk : k = p + 1) {L R : List Nat} (hL : srt o' (seg f o k) = L) (hR : srt o' (seg f (o + k) (m - k)) = R) : srt o' (seg f o m) = if o' (snth L p) (snth R 0) ≤ 0 then L ++ R else mrg o' L R := by
  have h1 : (seg f o m).length / 2 = k := by rw [seg_len, hp]
  have := srt_cut (o := o') (xs := seg f o m) (L := L) (R := R) (by rw [seg_len]; omega) (by rw [h1, seg_take (by omega)]; exact hL) (by rw [h1, seg_drop]; exact hR)
  rw [h1, show k - 1 = p by omega] at this
  exact this
theorem srtC_seg {o' : Nat → Nat → Int} {c' : Nat → Nat → Nat} {f : Nat → Nat} {o m p k : Nat} (h : 2 ≤ m) (hp : m / 2 = k) (hk : k = p + 1) {L R : List Nat} (hL : srt o' (seg f o k) = L) (hR : srt o' (seg f (o + k) (m - k)) = R) : srtC o' c' (seg f o m) = srtC o' c' (seg f o k) + srtC o' c' (seg f (o + k) (m - k)) + c' (snth L p) (snth R 0) + (if o' (snth L p) (snth R 0) ≤ 0 then 0 else mrgC o' c' L R) := by
  have h1 : (seg f o m).length / 2 = k := by rw [seg_len, hp]
  have := srtC_cut (o := o') (c := c') (xs := seg f o m) (L := L) (R := R) (by rw [seg_len]; omega) (by rw [h1, seg_take (by omega)]; exact hL) (by rw [h1, seg_drop]; exact hR)
  rw [h1, seg_take (by omega), seg_drop, show k - 1 = p by omega] at this
  exact this
theorem snth_app {L R : List Nat} {j : Nat} : snth (L ++ R) j = if j < L.length then snth L j else snth R (j - L.length) := by
  unfold snth
  by_cases h : j < L.length
  · rw [if_pos h]
    simp [List.getElem?_append_left h]
  · rw [if_neg h]
    simp [List.getElem?_append_right (by omega : L.length ≤ j)]
set_option maxRecDepth 100000 in
set_option maxHeartbeats 8000000 in
theorem sortby_any (bk br bs bl bc x0 g h : Nat) (r : List Int) (n s N M cs : Nat) (hN1 : N ≤ 1048576) (_hM1 : M ≤ 1048576) (hMc : M ≤ cs) (m : Nat) : ∀ (o c cap : Nat) (f : Nat → Nat) (fs : Nat → Int) (w : World), Ask w bk br bs bl bc x0 g h r n s → Cst w bc c → RwP w g N f → RwN w h M fs → (∀ j, j < m → f (o + j) < n) → o + m ≤ N → m ≤ cap → m ≤ M → c + srtC (ordV r n s) (ordC r n s) (seg f o m) ≤ 1099511627776 →
    Calls Tryz.prog 85 #[.slice (some ⟨g, o, none⟩) m cap, .slice (some ⟨h, 0, none⟩) M cs, ordF bk br bs bl] w fun e w' => e = .returned (.tuple #[]) ∧ SrtB w w' g h bc N M o m c f (srt (ordV r n s) (seg f o m)) (srtC (ordV r n s) (ordC r n s) (seg f o m)) := by
  induction m using Nat.strongRecOn with
  | _ m ih =>
  intro o c cap f fs w ha hc hg hh hf hN hcap hM hl
  have hmN : m ≤ 1048576 := by omega
  by_cases h2 : m < 2
  · have h2' : (m : Int) < 2 := by omega
    have HD : Hid (SrtB w w g h bc N M o m c f (srt (ordV r n s) (seg f o m)) (srtC (ordV r n s) (ordC r n s) (seg f o m))) := by
      show SrtB _ _ _ _ _ _ _ _ _ _ _ _ _
      rw [srt_small (by rw [seg_len]; exact h2), srtC_small (by rw [seg_len]; exact h2)]
      exact ⟨f, fs, hg, fun j hj => (seg_nth hj).symm, fun _ _ => rfl, hh, hc, ButS.refl _ _⟩
    clear ih ha hc hg hh hf hl
    unfold ordF
    go_enter Tryz.func85, Tryz.ntmps85
    go_wp2
    refine bodyPost_ret (results_none rfl _ _ _) rfl ?_
    exact ⟨rfl, HD.out⟩
  have h2' : ¬ (m : Int) < 2 := by omega
  obtain ⟨p, hp⟩ : ∃ p, m / 2 = p + 1 := ⟨m / 2 - 1, by omega⟩
  obtain ⟨k, hkp⟩ : ∃ k, k = p + 1 := ⟨_, rfl⟩
  have hq : Int.tdiv (m : Int) 2 = (k : Int) := by rw [tdiv_half, hp, hkp]
  have hki : (k : Int) - 1 = (p : Int) := by omega
  have hkw : IntKind.i64.wrap ((k : Int) - 1) = (p : Int) := by simp [IntKind.wrap, IntKind.bits, IntKind.signed]; omega
  have hpw : IntKind.i64.wrap (p : Int) = (p : Int) := by simp [IntKind.wrap, IntKind.bits, IntKind.signed]; omega
  have hpk : (p : Int) < (k : Int) := by omega
  have hpk2 : p < k := by omega
  have hp0 : (0 : Int) ≤ (p : Int) := by omega
  obtain ⟨L, hL⟩ : ∃ L, srt (ordV r n s) (seg f o k) = L := ⟨_, rfl⟩
  obtain ⟨R, hR⟩ : ∃ R, srt (ordV r n s) (seg f (o + k) (m - k)) = R := ⟨_, rfl⟩
  have eT := srt_seg (o' := ordV r n s) (o := o) (f := f) (by omega) (hp.trans hkp.symm) hkp hL hR
  have eC := srtC_seg (o' := ordV r n s) (c' := ordC r n s) (o := o) (f := f) (by omega) (hp.trans hkp.symm) hkp hL hR
  have lL : L.length = k := by rw [← hL, srt_len, seg_len]
  have lR : R.length = m - k := by rw [← hR, srt_len, seg_len]
  have bL : ∀ x ∈ L, x < n := fun x hx => by
    rw [← hL] at hx
    exact seg_mem (fun j hj => hf j (by omega)) x (srt_mem.1 hx)
  have bR : ∀ x ∈ R, x < n := fun x hx => by
    rw [← hR] at hx
    exact seg_mem (fun j hj => by rw [Nat.add_assoc]; exact hf _ (by omega)) x (srt_mem.1 hx)
  have I1 := fun q => ih k (by omega) o c cap f fs (w.drewN q) (ha.keep ((ButS.refl _ w).drewN q)) hc hg hh (fun j hj => hf j (by omega)) (by omega) (by omega) (by omega) (by omega)
  rw [hL] at I1
  have sl := head_runS g o m cap k (by omega) hcap
  have sr := rest_runS g o m cap k (by omega) hcap
  have hkm : k < m := by omega
  have HK : Hid (Ask w bk br bs bl bc x0 g h r n s) := ha
  have I2 := fun w1 f1 fs1 (hb : ButS (Trio g h bc) w w1) (hf1 : ∀ j, j < o ∨ o + k ≤ j → f1 j = f j) (h1 : Cst w1 bc (c + srtC (ordV r n s) (ordC r n s) (seg f o k))) (h2 : RwP w1 g N f1) (h3 : RwN w1 h M fs1) => ih (m - k) (by omega) (o + k) (c + srtC (ordV r n s) (ordC r n s) (seg f o k)) (cap - k) f1 fs1 w1 (ha.keep hb) h1 h2 h3 (fun j hj => by rw [hf1 _ (.inr (by omega)), Nat.add_assoc]; exact hf _ (by omega)) (by omega) (by omega) (by omega) (by rw [seg_same (f := f1) (g := f) fun j hj => hf1 _ (.inr (by omega))]; omega)
  have HT : Hid (∀ f1 : Nat → Nat, (∀ j, j < o ∨ o + k ≤ j → f1 j = f j) → seg f1 (o + k) (m - k) = seg f (o + k) (m - k)) := fun f1 hf1 => seg_same fun j hj => hf1 _ (.inr (by omega))
  have HR : Hid (srt (ordV r n s) (seg f (o + k) (m - k)) = R) := hR
  have HET : Hid (srt (ordV r n s) (seg f o m) = if ordV r n s (snth L p) (snth R 0) ≤ 0 then L ++ R else mrg (ordV r n s) L R) := eT
  have HEC : Hid (srtC (ordV r n s) (ordC r n s) (seg f o m) = srtC (ordV r n s) (ordC r n s) (seg f o k) + srtC (ordV r n s) (ordC r n s) (seg f (o + k) (m - k)) + ordC r n s (snth L p) (snth R 0) + (if ordV r n s (snth L p) (snth R 0) ≤ 0 then 0 else mrgC (ordV r n s) (ordC r n s) L R)) := eC
  have HLL : Hid (L.length = k) := lL
  have HLR : Hid (R.length = m - k) := lR
  have HBL : Hid (∀ x ∈ L, x < n) := bL
  have HBR : Hid (∀ x ∈ R, x < n) := bR
  have HL1 : Hid (c + srtC (ordV r n s) (ordC r n s) (seg f o m) ≤ 1099511627776) := hl
  have HKP : Hid (k = p + 1) := hkp
  have hk0 : 0 < k := by omega
  clear ih ha hc hg hh hf hl hL hR eT eC lL lR bL bR hp hkp
  unfold ordF at I1 I2 ⊢
  go_enter Tryz.func85, Tryz.ntmps85
  go_upto_region 2 with fail
  go_quiet (fail)
  go_wp2_with fail
  refine (I1 _).mono ?_
  rintro e w1 ⟨rfl, f1, fs1, a1, a2, a3, a4, a5, a6⟩
  have A1 : Hid (RwP w1 g N f1) := a1
  have A2 : Hid (∀ j, j < k → f1 (o + j) = snth L j) := a2
  have A3 : Hid (∀ j, j < o ∨ o + k ≤ j → f1 j = f j) := a3
  have A6 : Hid (ButS (Trio g h bc) w w1) := a6
  have J := I2 w1 f1 fs1 a6 a3 a5 a1 a4
  rw [HT.out f1 a3, HR.out] at J
  clear I1 I2 a1 a2 a3 a4 a5 a6
  go_wp2_with fail
  refine J.mono ?_
  rintro e w2 ⟨rfl, f2, fs2, a1, a2, a3, a4, a5, a6⟩
  have hout : ∀ j, j < o ∨ o + m ≤ j → f2 j = f j := fun j hj => by rw [a3 j (by omega), A3.out j (by omega)]
  have hP2 : ∀ j, j < k → f2 (o + j) = snth L j := fun j hj => by rw [a3 _ (.inl (by omega)), A2.out j hj]
  have hB2 : ButS (Trio g h bc) w w2 := A6.out.trans a6
  obtain ⟨c2, hc2⟩ : ∃ c2, c2 = c + srtC (ordV r n s) (ordC r n s) (seg f o k) + srtC (ordV r n s) (ordC r n s) (seg f (o + k) (m - k)) := ⟨_, rfl⟩
  have a5 : Cst w2 bc c2 := by rw [hc2]; exact a5
  have hx : snth L p ∈ L := snth_memS (by rw [HLL.out, HKP.out]; omega)
  have hy : snth R 0 ∈ R := snth_memS (by rw [HLR.out]; omega)
  have hcost : c2 + ordC r n s (snth L p) (snth R 0) ≤ 1099511627776 := by have h1 := HL1.out; rw [HEC.out] at h1; omega
  have CO := fun W (hW : ButS (fun j => j = bc) w2 W) (hc : Cst W bc c2) => HK.out.ask (snth L p) (snth R 0) c2 W (hB2.trans (hW.more fun k hk => .inr (.inr hk))) hc (HBL.out _ hx) (HBR.out _ hy) hcost
  have HQ : Hid (∀ W, ButS (fun j => j = bc) w2 W → W.cell? ⟨g, o + p, none⟩ = some (.int .i64 ((snth L p : Nat) : Int)) ∧ W.cell? ⟨g, o + k, none⟩ = some (.int .i64 ((snth R 0 : Nat) : Int))) := fun W hW => by
    have h1 := (RwN.keep a1 hW HK.out.gc).cell (i := o + p) (by have := HKP.out; omega)
    have h2 := (RwN.keep a1 hW HK.out.gc).cell (i := o + k) (by omega)
    rw [hP2 p (by have := HKP.out; omega)] at h1
    rw [show f2 (o + k) = snth R 0 from a2 0 (by omega)] at h2
    exact ⟨h1, h2⟩
  have hmk : (0 : Int) < ((m - k : Nat) : Int) := by omega
  have hmk2 : 0 < m - k := by omega
  have HCw : Hid (Cst w2 bc c2) := a5
  have H1 : Hid (RwP w2 g N f2) := a1
  have H2 : Hid (∀ j, j < m - k → f2 (o + k + j) = snth R j) := a2
  have H4 : Hid (RwN w2 h M fs2) := a4
  have HO : Hid (∀ j, j < o ∨ o + m ≤ j → f2 j = f j) := hout
  have HP2 : Hid (∀ j, j < k → f2 (o + j) = snth L j) := hP2
  have HB2 : Hid (ButS (Trio g h bc) w w2) := hB2
  have HC2 : Hid (c2 = c + srtC (ordV r n s) (ordC r n s) (seg f o k) + srtC (ordV r n s) (ordC r n s) (seg f (o + k) (m - k))) := hc2
  clear J a1 a2 a3 a4 a5 a6 hout hP2 hB2 hx hy hcost hc2 A1 A2 A3 A6
  by_cases ho : ordV r n s (snth L p) (snth R 0) ≤ 0
  · have eT := HET.out
    have eC := HEC.out
    rw [if_pos ho] at eT eC
    have HD : Hid (∀ W, ButS (fun j => j = bc) w2 W → Cst W bc (c2 + ordC r n s (snth L p) (snth R 0)) → SrtB w W g h bc N M o m c f (srt (ordV r n s) (seg f o m)) (srtC (ordV r n s) (ordC r n s) (seg f o m))) := fun W hW hc => by
      refine ⟨f2, fs2, RwN.keep H1.out hW HK.out.gc, fun j hj => ?_, HO.out, H4.out.keep hW HK.out.hc, ?_, HB2.out.trans (hW.more fun k hk => .inr (.inr hk))⟩
      · rw [eT, snth_app, HLL.out]
        by_cases hjk : j < k
        · rw [if_pos hjk, HP2.out j hjk]
        · rw [if_neg hjk, ← H2.out (j - k) (by omega), show o + k + (j - k) = o + j by omega]
      · rw [eC, Nat.add_zero]
        rw [HC2.out] at hc
        rw [show c + (srtC (ordV r n s) (ordC r n s) (seg f o k) + srtC (ordV r n s) (ordC r n s) (seg f (o + k) (m - k)) + ordC r n s (snth L p) (snth R 0)) = c + srtC (ordV r n s) (ordC r n s) (seg f o k) + srtC (ordV r n s) (ordC r n s) (seg f (o + k) (m - k)) + ordC r n s (snth L p) (snth R 0) by omega]
        exact hc
    clear eT eC HET HEC HC2
    generalize ordV r n s (snth L p) (snth R 0) = v at *
    generalize ordC r n s (snth L p) (snth R 0) = cv at *
    generalize snth R 0 = y at *
    generalize snth L p = x at *
    go_upto_region 5 with fail
    go_region_held3 (fun W => W.cell? ⟨g, o + p, none⟩ = some (.int .i64 (x : Int)) ∧ W.cell? ⟨g, o + k, none⟩ = some (.int .i64 (y : Int))) (first | exact HQ.out _ (ButS.refl _ _) | exact HQ.out _ HB5.out) (first | (go_at_call 84; refine (CO _ (by first | exact (ButS.refl _ w2).drew | exact ButS.refl _ w2) (by first | exact HCw.out)).mono ?_; rintro e w5 ⟨rfl, hc5, hb5⟩; have HC5 : Hid (Cst w5 bc (c2 + cv)) := hc5; have HB5 : Hid (ButS (fun j => j = bc) w2 w5) := (ButS.refl _ w2).trans (ButS.but hb5 rfl); clear hc5 hb5))
    go_wp2
    refine bodyPost_ret (results_none rfl _ _ _) rfl ?_
    exact ⟨rfl, HD.out _ HB5.out HC5.out⟩
  · have eT := HET.out
    have eC := HEC.out
    rw [if_neg ho] at eT eC
    have HET2 : Hid (srt (ordV r n s) (seg f o m) = mrg (ordV r n s) L R) := eT
    have HEC2 : Hid (c + srtC (ordV r n s) (ordC r n s) (seg f o m) = c2 + ordC r n s (snth L p) (snth R 0) + mrgC (ordV r n s) (ordC r n s) L R) := by
      show _ = _
      rw [eC, HC2.out]
      omega
    have ho' : (0 : Int) < ordV r n s (snth L p) (snth R 0) := by omega
    have sl2 := head_runS h 0 M cs k (by omega) hMc
    clear eT eC HET HEC HC2
    generalize ordV r n s (snth L p) (snth R 0) = v at *
    generalize ordC r n s (snth L p) (snth R 0) = cv at *
    generalize snth R 0 = y at *
    generalize snth L p = x at *
    go_upto_region 5 with fail
    go_region_held3 (fun W => W.cell? ⟨g, o + p, none⟩ = some (.int .i64 (x : Int)) ∧ W.cell? ⟨g, o + k, none⟩ = some (.int .i64 (y : Int))) (first | exact HQ.out _ (ButS.refl _ _) | exact HQ.out _ HB5.out) (first | (go_at_call 84; refine (CO _ (by first | exact (ButS.refl _ w2).drew | exact ButS.refl _ w2) (by first | exact HCw.out)).mono ?_; rintro e w5 ⟨rfl, hc5, hb5⟩; have HC5 : Hid (Cst w5 bc (c2 + cv)) := hc5; have HB5 : Hid (ButS (fun j => j = bc) w2 w5) := (ButS.refl _ w2).trans (ButS.but hb5 rfl); clear hc5 hb5))
    have H5 : Hid (RwP w5 g N f2) := RwN.keep H1.out HB5.out HK.out.gc
    have H6 : Hid (RwN w5 h M fs2) := H4.out.keep HB5.out HK.out.hc
    have HB6 : Hid (ButS (Trio g h bc) w w5) := HB2.out.trans (HB5.out.more fun k hk => .inr (.inr hk))
    have MG := fun w6 (h6 : RwN w6 h M (fun j => if j < k then ((f2 (o + j) : Nat) : Int) else fs2 j)) (hb : ButS (fun b => b = h) w5 w6) => merge_any bk br bs bl bc x0 g h r n s N M o k (m - k) m (c2 + cv) cap cs (cap - k) (fun j => ((f2 j : Nat) : Int)) (fun j => if j < k then ((f2 (o + j) : Nat) : Int) else fs2 j) L R w6 (HK.out.keep (HB6.out.trans (hb.more fun b hb => .inr (.inl hb)))) (HC5.out.keep hb (fun e => HK.out.hc e.symm)) (RwN.keep H5.out hb HK.out.gh) h6 HLL.out HLR.out (by omega) (fun j hj => by rw [if_pos hj, HP2.out j hj]) (fun j hj => by rw [H2.out j hj]) HBL.out HBR.out hN (by omega) hN1 (by omega) (by omega) hcap (by have := HEC2.out; have := HL1.out; omega)
    unfold ordF at MG
    clear HQ CO HCw hki hkw hpw hpk hpk2 hp0 hmk hmk2 sl sr hq
    obtain ⟨w6, cp, h6, hb6⟩ := copy_runN h M cs g o k cap fs2 (fun j => ((f2 (o + j) : Nat) : Int)) w5 H6.out (fun j hj => RwN.cell H5.out (i := o + j) (by omega)) (by omega)
    have G6 : Hid (RwN w6 h M (fun j => if j < k then ((f2 (o + j) : Nat) : Int) else fs2 j)) := h6
    have G7 : Hid (ButS (fun b => b = h) w5 w6) := hb6
    clear h6 hb6
    go_wp2_with fail
    refine (MG _ G6.out G7.out).mono ?_
    rintro e w7 ⟨rfl, f7, b1, b2, b3, b4, b5, b6⟩
    have HD : Hid (SrtB w w7 g h bc N M o m c f (srt (ordV r n s) (seg f o m)) (srtC (ordV r n s) (ordC r n s) (seg f o m))) := by
      refine ⟨fun j => if o ≤ j ∧ j < o + m then snth (mrg (ordV r n s) L R) (j - o) else f2 j, _, RwN.same b1 fun j _ => ?_, fun j hj => ?_, fun j hj => ?_, b4, ?_, (HB6.out.trans (G7.out.more fun b hb => .inr (.inl hb))).trans b6⟩
      · show f7 j = (((if o ≤ j ∧ j < o + m then snth (mrg (ordV r n s) L R) (j - o) else f2 j : Nat)) : Int)
        by_cases hj : o ≤ j ∧ j < o + m
        · have := b2 (j - o) (by omega)
          rw [show o + (j - o) = j by omega] at this
          rw [if_pos hj, this]
        · rw [if_neg hj, b3 j (by omega)]
      · show (if o ≤ o + j ∧ o + j < o + m then _ else _) = _
        rw [if_pos (by omega), show o + j - o = j by omega, HET2.out]
      · show (if o ≤ j ∧ j < o + m then _ else _) = _
        rw [if_neg (by omega), HO.out j hj]
      · rw [HEC2.out]
        exact b5
    clear b1 b2 b3 b4 b5 b6
    go_wp2
    go_end0
    exact ⟨rfl, HD.out⟩




end Go.Proofs.YtokhclindfipbaaGreatDoor
