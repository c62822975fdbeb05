/-
  has of the document, by what it returns. Rows that lie apart, as one of them grows. Back of the document, by what it answers.
-/
import Derived.Test.YtgkdagnpefgjcaaProg
import Derived.WalkKit
import Derived.WalkSpells
import Derived.WalkLawsBesides
import Derived.RowKit3
import Derived.Below
import Derived.Deep.QuietTactic
import Derived.BigQuiet
import Derived.WalkSmall
import Derived.Laws.Rows
import Derived.Test.YtgkdagnpefgjcaaPb11
import Derived.Test.YtgkdagnpefgjcaaPb15
namespace Go.Proofs.Ytgkdagnpefgjcaa
open Go.RowKit

set_option maxHeartbeats 1000000 in
theorem has_any (A : Option Addr) (ca : Nat) (zs : List Int) (x : Int) (w : World) (hA : IntsAt w A .i64 zs) (hz : zs.length ≤ 1048576) :
    Calls Try.prog 32 #[.slice A zs.length ca, .int .i64 x] w fun e w' => e = .returned (.bool (hasZ zs x)) ∧ w' = w := by
  have HA : Hid (IntsAt w A .i64 zs) := hA
  clear hA
  go_enter Try.func32, Try.ntmps32
  go_wp2
  go_loop [5] (fun i => ∃ k : Nat, i = .int .i64 k ∧ k ≤ zs.length ∧ Hid (∀ j, j < k → nth zs j ≠ x)) (fun i => zs.length - (intOf i).toNat)
  case atStart => exact ⟨0, rfl, Nat.zero_le _, fun j hj => absurd hj (Nat.not_lt_zero _)⟩
  case round =>
    obtain ⟨k, rfl, hk, HN⟩ := hrel
    by_cases hlt : k < zs.length
    · obtain ⟨a, rfl, c⟩ := HA.out k hlt
      have HM : Hid (nth zs k ∈ zs) := by
        unfold Hid nth
        rw [List.getD_eq_getElem?_getD, List.getElem?_eq_getElem hlt]
        exact List.getElem_mem hlt
      obtain ⟨y, hy⟩ : ∃ y, nth zs k = y := ⟨_, rfl⟩
      have HYk : Hid (nth zs k = y) := hy
      rw [hy] at c HM
      clear hy
      cases he : (y == x) with
      | true =>
        have hy : y = x := by simpa using he
        have HV : Hid (hasZ zs x = true) := by unfold Hid hasZ; rw [decide_eq_true_eq, ← hy]; exact HM.out
        clear hy
        go_wp2
        go_ret
        exact ⟨by rw [HV.out]; rfl, rfl⟩
      | false =>
        have HNe : Hid (y ≠ x) := by simpa [Hid] using he
        go_wp2
        go_round
        case rel => exact ⟨k + 1, by go_num, by omega, fun j hj => by
          by_cases e : j = k
          · rw [e, HYk.out]; exact HNe.out
          · exact HN.out j (by omega)⟩
        case measure => simp [intOf]; omega
    · obtain rfl : k = zs.length := by omega
      have HV : Hid (hasZ zs x = false) := by
        unfold Hid hasZ
        rw [decide_eq_false_iff_not]
        intro hm
        obtain ⟨j, hj, e⟩ := List.mem_iff_getElem.1 hm
        refine HN.out j hj ?_
        unfold nth
        rw [List.getD_eq_getElem?_getD, List.getElem?_eq_getElem hj]
        exact e
      go_wp2
      go_ret
      exact ⟨by rw [HV.out]; rfl, rfl⟩


end Go.Proofs.Ytgkdagnpefgjcaa

namespace Go.Proofs.Ytgkdagnpefgjcaa
open Go.RowKit

/-- The row that grows is none of those that are done. -/
def Offs (vs : List Value) (n : Nat) (v : Value) : Prop := ∀ i, i < n → ∀ q, (vn vs i).ownBlock = some q → v.ownBlock ≠ some q
theorem offs_nil (vs : List Value) (n : Nat) : Offs vs n (.slice none 0 0) := fun _ _ _ _ e => by cases e
/-- Where a row lies that was appended to: in its own block, or in a new one. -/
theorem run_append_at (w : World) {P : Program} (base : Nat) (t ty e : TypeId) (i : TypeInfo) (z : Value) (size bytes : Nat) (ht : P.underlying t = some (.slice e)) (hi : P.info? e = some i) (hz : i.zero = some z)
    (hsize : i.size = size) (hby : i.bytes = bytes) (hzs : z.cells.size = size) (hsz : 0 < size)
    (v : Value) (n : Nat) (xs : List Value) (hown : w.ownsRow base e size v n xs)
    (a : Addr) (m c : Nat) (news : List Value) (hl : news.length = m * size) (hnews : ∀ j u, news[j]? = some u → w.cell? (a.add j) = some u) (h1 : ∀ u ∈ news, u.oneCell' = true)
    (hm : 0 < m) (h63 : n + m ≤ maxLen) (hbytes : (n + m) * bytes ≤ 140737488355328) (hb : base ≤ w.heap.size) :
    ∃ g cap w', (Builtin.append_ #[t, t] ty #[v, .slice (some a) m c]).run P w = .ok (.slice (some ⟨g, 0, none⟩) (n + m) cap) w' ∧
      w'.ownsRow base e size (.slice (some ⟨g, 0, none⟩) (n + m) cap) (n + m) (xs ++ news) ∧ w.grownBy w' v.ownBlock ∧ (v.ownBlock = some g ∨ w.heap.size ≤ g) := by
  obtain ⟨g, cap, w', hr, h2, h3, h4⟩ := run_append_two (P := P) w t ty e i z size bytes ht hi hz hsize hby hzs hsz v n xs (ownsRow_mono hown (Nat.zero_le _)) a m c news hl hnews h1 hm h63 hbytes
  have hg : v.ownBlock = some g ∨ w.heap.size ≤ g := by
    rcases h4 with h4 | ⟨h4, _⟩
    · exact .inl (by rw [h4]; rfl)
    · exact .inr (by omega)
  refine ⟨g, cap, w', hr, ?_, h3, hg⟩
  refine ⟨h2.1, ?_⟩
  rcases h2.2 with ⟨e1, e2⟩ | ⟨g2, cap2, cur, e1, _, r⟩
  · cases e1
  · cases e1
    refine .inr ⟨g, cap, cur, rfl, ?_, r⟩
    rcases hg with k | k
    · exact (hown.lt g k).1
    · omega
theorem wpList_append_at {P : Program} (w : World) {ops : Array Oper} {rest : List Oper} {o : Oper} {a : Act} {Q : Exit → Act → World → Prop} (hgd : o.guard = none) (s x : Operand) (t : TypeId)
    (ho : o.op = .call { callee := .builtin .append, args := #[s, x], argTypes := #[t, t] }) (base : Nat)
    (e : TypeId) (i : TypeInfo) (z : Value) (size bytes : Nat) (ht : P.underlying t = some (.slice e)) (hi : P.info? e = some i) (hz : i.zero = some z)
    (hsize : i.size = size) (hby : i.bytes = bytes) (hzs : z.cells.size = size) (hsz : 0 < size)
    (v : Value) (n : Nat) (xs : List Value) (hs : a.eval s = v) (hown : w.ownsRow base e size v n xs)
    (ad : Addr) (m c : Nat) (news : List Value) (hx : a.eval x = .slice (some ad) m c) (hl : news.length = m * size) (hnews : ∀ j u, news[j]? = some u → w.cell? (ad.add j) = some u) (h1 : ∀ u ∈ news, u.oneCell' = true)
    (hm : 0 < m) (h63 : n + m ≤ maxLen) (hbytes : (n + m) * bytes ≤ 140737488355328) (hb : base ≤ w.heap.size)
    (h : ∀ g cap w', w'.ownsRow base e size (.slice (some ⟨g, 0, none⟩) (n + m) cap) (n + m) (xs ++ news) → w.grownBy w' v.ownBlock → (v.ownBlock = some g ∨ w.heap.size ≤ g) → wpList P ops Q rest (a.put o.dst (.slice (some ⟨g, 0, none⟩) (n + m) cap)) w') : wpList P ops Q (o :: rest) a w :=
  wpList_plain hgd fun K hK => by
    obtain ⟨g, cap, w', hr, h2, h3, h4⟩ := run_append_at (P := P) w base t o.type e i z size bytes ht hi hz hsize hby hzs hsz v n xs hown ad m c news hl hnews h1 hm h63 hbytes hb
    unfold Oper.wp execOp
    simp only [ho, resolve, invoke, builtin, Sem.run_bind, Sem.run_pure, Result.andThen_ok, List.map_toArray, List.map_cons, List.map_nil, hs, hx, hr]
    exact hK _ _ (h g cap w' h2 h3 h4)
theorem offs_grow {w : World} {base : Nat} {V v : Value} {vs : List Value} {L : List (List Int)} {g n cap : Nat} (hZ : RowsZ w base V vs L) (h : Offs vs L.length v) (hl : v.ownBlock = some g ∨ w.heap.size ≤ g) : Offs vs L.length (.slice (some ⟨g, 0, none⟩) n cap) := fun i hi q hq e => by
  have eg : g = q := by simpa [Value.ownBlock] using e
  subst eg
  rcases hl with k | k
  · exact h i hi g hq k
  · have := ((hZ.row i hi).lt g hq).2
    omega


end Go.Proofs.Ytgkdagnpefgjcaa

namespace Go.Proofs.Ytgkdagnpefgjcaa
open Go.RowKit

theorem offs_at {vs : List Value} {n m : Nat} {v : Value} (h : Offs vs n v) (e : n = m) : Offs vs m v := by subst e; exact h
set_option maxRecDepth 100000 in
set_option maxHeartbeats 4000000 in
theorem refback_any (A : Option Addr) (ca : Nat) (L : List (List Int)) (w : World) (hA : IntsZ w A L) (hn : L.length ≤ 65536) (hr : ∀ i, i < L.length → (rowZ L i).length ≤ 65536) :
    Calls Try.prog 17 #[.slice A L.length ca] w (ZP (backT L L.length) w) := by
  obtain ⟨iI, hi, hz0, hz1, hz2⟩ := infoI
  obtain ⟨iS, hy, hy0, hy1, hy2⟩ := infoS
  have HA : Hid (IntsZ w A L) := hA
  have HR : Hid _ := hr
  clear hA hr
  go_enter Try.func17, Try.ntmps17
  go_wp2
  go_loopw [3, 4] (fun v i wr => ∃ (k : Nat) (O : Option Addr) (c : Nat) (vs : List Value), i = .int .i64 k ∧ v = .slice O k c ∧ k ≤ L.length ∧ Hid (RowsZ wr w.heap.size v vs (backT L k)) ∧ Hid (Below w.heap.size w wr)) (fun _ i _ => L.length - (intOf i).toNat)
  case atStart => exact ⟨0, none, 0, [], rfl, rfl, Nat.zero_le _, RowsZ.nil _ _, Below.refl _ _⟩
  case round =>
    obtain ⟨k, O, c, vs, rfl, rfl, hk, HZ, HB⟩ := hrel
    by_cases hlt : k < L.length
    · have hlt' : (k : Int) < (L.length : Int) := by omega
      have HLk : Hid ((backT L k).length = k) := backT_len L k
      have HT1 : Hid (backT L (k + 1) = backT L k ++ [plcT (backR L k) L.length]) := backT_succ L k
      generalize hLL : backT L k = LL at *
      clear hLL
      go_wp2
      go_loopw [5, 6] (fun v i wr => ∃ (j : Nat) (O2 : Option Addr) (c2 : Nat), i = .int .i64 j ∧ v = .slice O2 (plcT (backR L k) j).length c2 ∧ j ≤ L.length ∧ Hid (wr.ownsRow w.heap.size 3 1 v (plcT (backR L k) j).length (iVals .i64 (plcT (backR L k) j))) ∧ Hid (RowsZ wr w.heap.size (.slice O k c) vs LL) ∧ Hid (Offs vs k v) ∧ Hid (Below w.heap.size w wr)) (fun _ i _ => L.length - (intOf i).toNat)
      case atStart => exact ⟨0, none, 0, rfl, rfl, Nat.zero_le _, World.ownsRow_nil _ _ _ _, HZ, offs_nil _ _, HB⟩
      case round =>
        clear HZ HB
        obtain ⟨j, O2, c2, rfl, rfl, hj, HRw, HZ, HOf, HB⟩ := hrel
        have hpl := plcT_len (backR L k) j
        by_cases hjl : j < L.length
        · have hjl' : (j : Int) < (L.length : Int) := by omega
          obtain ⟨a, R, kr, ea, q, qr⟩ := (HA.out.keep HB.out) j hjl
          subst ea
          have C := has_any R kr (rowZ L j) (k : Int) wr qr (by have := HR.out j hjl; omega)
          have HBk : Hid (backR L k (j : Int) = hasZ (rowZ L j) (k : Int)) := by unfold Hid backR; rw [show ((j : Int)).toNat = j by omega]
          generalize (rowZ L j).length = rn at *
          cases ht : hasZ (rowZ L j) (k : Int) with
          | false =>
            have HP : Hid (plcT (backR L k) (j + 1) = plcT (backR L k) j) := plcT_no (by rw [HBk.out, ht])
            rw [ht] at C
            clear ht
            go_wp2_with (go_at_call 32; refine C.mono ?_; rintro e w2 ⟨rfl, rfl⟩)
            go_roundw
            case rel => exact ⟨j + 1, O2, c2, by go_num, by rw [HP.out], by omega, by rw [HP.out]; exact HRw, HZ, HOf, HB⟩
            case measure => simp [intOf]; omega
          | true =>
            have HP : Hid (plcT (backR L k) (j + 1) = plcT (backR L k) j ++ [(j : Int)]) := plcT_yes (by rw [HBk.out, ht])
            rw [ht] at C
            clear ht
            have HBx : Hid (Below wr.heap.size wr (wr.alloc (.cells #[.int .i64 (j : Int)] 3))) := lb_alloc (Below.refl _ _) _
            have HBa : Hid (Below w.heap.size w (wr.alloc (.cells #[.int .i64 (j : Int)] 3))) := lb_alloc HB.out _
            have HRa : Hid ((wr.alloc (.cells #[.int .i64 (j : Int)] 3)).ownsRow w.heap.size 3 1 (.slice O2 (plcT (backR L k) j).length c2) (plcT (backR L k) j).length (iVals .i64 (plcT (backR L k) j))) := row_keep HRw.out HBx.out
            have HZa : Hid (RowsZ (wr.alloc (.cells #[.int .i64 (j : Int)] 3)) w.heap.size (.slice O k c) vs LL) := HZ.out.keep HBx.out
            have HOfL : Hid (Offs vs LL.length (.slice O2 (plcT (backR L k) j).length c2)) := offs_at HOf.out HLk.out.symm
            generalize plcT (backR L k) j = P at *
            go_upto_region 8 with (first
              | (go_at_call 32; refine C.mono ?_; rintro e w2 ⟨rfl, rfl⟩)
              | (at_builtin; go_loud (refine wpList_append_at _ rfl (.tmp 25) (.tmp 27) 43 rfl w.heap.size 3 iI (.int .i64 0) 1 8 Try.underlying43 hi hz0 hz1 hz2 rfl (by decide) (.slice O2 P.length c2) P.length (iVals .i64 P) rfl HRa.out ⟨w2.heap.size, 0, none⟩ 1 1 [.int .i64 (j : Int)] rfl rfl (fun j u hu => World.news_of_block (newAtK rfl) j u hu) one_oneI (by omega) (by unfold maxLen; omega) (by omega) HBa.out.size ?_; intro g3 cap3 w4 hown hgrow hloc; have HR3 : Hid (w4.ownsRow w.heap.size 3 1 (.slice (some ⟨g3, 0, none⟩) (P.length + 1) cap3) (plcT (backR L k) (j + 1)).length (iVals .i64 (plcT (backR L k) (j + 1)))) := (by rw [Hid, HP.out, iVals_snoc, List.length_append]; exact hown); have HLn : Hid ((plcT (backR L k) (j + 1)).length = P.length + 1) := (by rw [Hid, HP.out, List.length_append]; rfl); have HB3 : Hid (Below w.heap.size w w4) := HBa.out.grown hgrow HBa.out.size (fun b hb => (HRa.out.lt b hb).1); have HZ4 : Hid (RowsZ w4 w.heap.size (.slice O k c) vs LL) := HZa.out.row_other HRa.out HOfL.out hgrow; have HO4 : Hid (Offs vs k (.slice (some ⟨g3, 0, none⟩) (P.length + 1) cap3)) := offs_at (offs_grow HZa.out HOfL.out hloc) HLk.out; clear hown hgrow hloc)))
            go_wp2
            go_roundw
            case rel => exact ⟨j + 1, some ⟨g3, 0, none⟩, cap3, by go_num, by rw [HLn.out], by omega, HR3, HZ4, HO4, HB3⟩
            case measure => simp [intOf]; omega
        · obtain rfl : j = L.length := by omega
          have HBx : Hid (Below wr.heap.size wr (wr.alloc (.cells #[.slice O2 (plcT (backR L k) L.length).length c2] 43))) := lb_alloc (Below.refl _ _) _
          have HBa : Hid (Below w.heap.size w (wr.alloc (.cells #[.slice O2 (plcT (backR L k) L.length).length c2] 43))) := lb_alloc HB.out _
          have HRa : Hid ((wr.alloc (.cells #[.slice O2 (plcT (backR L k) L.length).length c2] 43)).ownsRow w.heap.size 3 1 (.slice O2 (plcT (backR L k) L.length).length c2) (plcT (backR L k) L.length).length (iVals .i64 (plcT (backR L k) L.length))) := row_keep HRw.out HBx.out
          have HZa : Hid (RowsZ (wr.alloc (.cells #[.slice O2 (plcT (backR L k) L.length).length c2] 43)) w.heap.size (.slice O k c) vs LL) := HZ.out.keep HBx.out
          have HVs : Hid (vs.length = k) := by rw [Hid, HZa.out.len, HLk.out]
          have HBg : Hid ((wr.alloc (.cells #[.slice O2 (plcT (backR L k) L.length).length c2] 43)).ownsRow w.heap.size 43 1 (.slice O k c) k vs) := by have := HZa.out.bag; rwa [HLk.out] at this
          generalize plcT (backR L k) L.length = P at *
          go_upto_region 4 with (at_builtin; go_loud (refine wpList_append_own _ rfl (.tmp 29) (.tmp 31) 31 rfl w.heap.size 43 iS (.slice none 0 0) 1 24 Try.underlying31 hy hy0 hy1 hy2 rfl (by decide) (.slice O k c) k vs rfl HBg.out ⟨wr.heap.size, 0, none⟩ 1 1 [.slice O2 P.length c2] rfl rfl (fun j u hu => World.news_of_block (newAtK rfl) j u hu) one_slice (by unfold maxLen; omega) (by omega) HBa.out.size ?_; intro v3 w4 hown hgrow _; have HZ4 : Hid (RowsZ w4 w.heap.size v3 (vs ++ [.slice O2 P.length c2]) (LL ++ [P])) := HZa.out.add HRa.out (by rw [HLk.out]; exact hown) hgrow; have HV4 : Hid (w4.ownsRow w.heap.size 43 1 v3 (k + 1) (vs ++ [.slice O2 P.length c2])) := hown; have HB3 : Hid (Below w.heap.size w w4) := HBa.out.grown hgrow HBa.out.size (fun b hb => (HBg.out.lt b hb).1); clear hown hgrow))
          obtain ⟨A5, c5, e5⟩ := own_sl HV4.out
          subst e5
          go_wp2
          go_roundw
          case rel => exact ⟨k + 1, A5, c5, _, by go_num, rfl, by omega, by rw [HT1.out]; exact HZ4, HB3⟩
          case measure => simp [intOf]; omega
    · obtain rfl : k = L.length := by omega
      go_wp2
      go_ret
      exact ⟨O, c, vs, by rw [backT_len]; rfl, by rw [backT_len]; exact HZ.out, HB.out⟩


end Go.Proofs.Ytgkdagnpefgjcaa
