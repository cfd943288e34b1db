/-
  stookref03.Get answers a frame's payload, in new memory.
-/
import Derived.Test.YteemhdoegjdaiaaFGet
import Derived.Test.YteemhdoegjdaiaaRGetRow
import Derived.Test.YteemhdoegjdaiaaSame
namespace Go.Proofs.Yteemhdoegjdaiaa
open Go.RowKit
set_option linter.unusedVariables false

set_option maxHeartbeats 2000000 in
set_option maxRecDepth 100000 in
theorem rfget_any (v : Value) (l : List Nat) (B : Nat) (a : Int) (w : World) (hB : B ≤ w.heap.size) (h : Bv w B v l) (hsz : l.length ≤ 140737488355328) :
    Calls Try.prog 18 #[v, .int .i64 a] w (IsRowN (Fr.get l a) w) := by
  have HG := Lib.hid (rgetRow_any v l B a 65536 w hB h (by omega) hsz)
  have H0 := Lib.hid h
  rcases Fr.row_cases h.lt_ a with ⟨e, he2, he5, hr⟩ | ⟨k, y, rfl, hk, ht, hp0, hle, hy, hr⟩
  · have HR := Lib.hid hr
    have HX := Lib.hid (Fr.get_err hr (by omega))
    have hq : (((e : Nat) : Int) != 0) = true := by rw [bne_iff_ne]; omega
    clear hr
    obtain ⟨A, c, rfl, _, _, _, _⟩ := h
    go_enter Try.func18, Try.ntmps18
    go_wp2_with fail
    ((with_reducible refine HG.out.mono ?_); rintro e' w2 ⟨A2, c2, he, ho2, hb2⟩)
    rw [HR.out] at he ho2
    subst he
    clear HG ho2
    go_wp2
    go_ret3
    exact IsRowN.none_ HX.out hb2
  · have hpl := putRow_len y
    obtain ⟨R, hR⟩ : ∃ R, putRow y = R := ⟨_, rfl⟩
    rw [hR] at ht hp0 hle hr
    obtain ⟨m, hm⟩ : ∃ m, R.length = m := ⟨_, rfl⟩
    rw [hm] at ht hp0 hle hr
    obtain ⟨x, hx⟩ : ∃ x, k + m = x := ⟨_, rfl⟩
    rw [hx] at hr hle
    have HR := Lib.hid hr
    obtain ⟨A, c, rfl, hc1, hc2, hc3, h4⟩ := id h
    obtain ⟨b, off, rfl, _⟩ := h4.2 (by omega)
    unfold maxLen at hc2
    by_cases hsh : l.length - x < 4
    · have HX := Lib.hid (Fr.get_short hr hsh)
      have hsh' : ((l.length : Nat) : Int) - (x : Int) < 4 := by omega
      clear hr h4 hc3 ht hpl hR
      go_enter Try.func18, Try.ntmps18
      go_wp2_with fail
      ((with_reducible refine HG.out.mono ?_); rintro e' w2 ⟨A2, c2, he, ho2, hb2⟩)
      rw [HR.out] at he ho2
      subst he
      clear HG ho2
      go_wp2
      go_ret3
      exact IsRowN.none_ HX.out hb2
    · have hsh' : 4 ≤ ((l.length : Nat) : Int) - (x : Int) := by omega
      obtain ⟨s, hs⟩ : ∃ s, (l.drop x).take 4 = s := ⟨_, rfl⟩
      have hs4 : s.length = 4 := by rw [← hs, List.length_take, List.length_drop]; omega
      obtain ⟨n, hn⟩ : ∃ n, Cr.of R = n := ⟨_, rfl⟩
      have hX : (s = four n → Fr.get l (k : Int) = (y, x + 4, 0)) ∧ (s ≠ four n → Fr.get l (k : Int) = ([], 0, 6)) := by
        have e1 : x - k = m := by omega
        have hq : four (Cr.of ((l.drop k).take (x - k))) = four n := by rw [e1, ht, hn]
        exact ⟨fun h => Fr.get_ok hr hsh (by rw [hs, hq]; exact h), fun h => Fr.get_sum hr hsh (by rw [hs, hq]; exact h)⟩
      have HX := Lib.hid hX
      have HT := Lib.hid ht
      have HN := Lib.hid hn
      have hR8 : ∀ z ∈ R, z < 256 := fun z hz => by rw [← ht] at hz; exact h.lt_ z (List.mem_of_mem_drop (List.mem_of_mem_take hz))
      have HN32 := Lib.hid (Cr.of_b32 hR8)
      rw [hn] at HN32
      have hcutS := h.cut_ (k := x) (m := 4) (by omega)
      rw [hs] at hcutS
      have HCS := Lib.hid hcutS
      clear hr h4 hc3 ht hpl hR hn hX hs hR8 hcutS
      have i0 : (0 : Int) ≤ (x : Int) := by omega
      have i3 : (0 : Int) ≤ (k : Int) := by omega
      have i4 : (k : Int) ≤ (x : Int) := by omega
      have i5 : (x : Int) ≤ (c : Nat) := by omega
      have i6 : ¬ c = k := by omega
      go_enter Try.func18, Try.ntmps18
      go_wp2_with fail
      ((with_reducible refine HG.out.mono ?_); rintro e' w2 ⟨A2, c2, he, ho2, hb2⟩)
      rw [HR.out] at he ho2
      subst he
      have HB2 := Lib.hid hb2
      have HO2 := Lib.hid ho2
      have hcut := (H0.out.below_ hb2 hB).cut_ (k := k) (m := m) (by omega)
      rw [HT.out] at hcut
      have HS := Lib.hid (rof_any _ R B w2 hcut)
      have em : m = x - k := by omega
      rw [HN.out, em] at HS
      have HS2 := Lib.hid ((HCS.out.below_ hb2 hB).bts_)
      clear HG hb2 ho2 hcut em
      go_wp2_with fail
      ((with_reducible refine HS.out.mono ?_); rintro e w3 ⟨rfl, rfl⟩)
      have HF := Lib.hid (four_any n HN32.out w2)
      go_wp2_with fail
      ((with_reducible refine HF.out.mono ?_); rintro e w4 ⟨g, rfl, ho4, hb4⟩)
      have HB4 := Lib.hid (HB2.out.trans (hb4.mono HB2.out.size))
      have HO4 := Lib.hid (HO2.out.below_ hb4 (Nat.le_refl _))
      have HS4 := Lib.hid (HS2.out.below hb4 (Nat.le_trans hB HB2.out.size))
      have HF4 := Lib.hid (ho4.form_.bts_)
      clear HS HF ho4 hb4 HB2 HO2 HS2 HCS H0
      obtain ⟨F, hF⟩ : ∃ F, four n = F := ⟨_, rfl⟩
      have hF4 : F.length = 4 := by rw [← hF]; rfl
      rw [hF] at HX HF4 ⊢
      clear hF
      have HL4 := Lib.hid hF4
      have HSL := Lib.hid hs4
      clear hF4 hs4
      go_wp2
      go_loopw [11] (fun i wr => ∃ j : Nat, j ≤ 4 ∧ i = .int .i64 j ∧ Hid (s.take j = F.take j) ∧ Below w.heap.size w wr ∧ Hid (Bts wr B (some ⟨b, off + x, none⟩) s) ∧ Hid (Bts wr w4.heap.size (some ⟨g, 0, none⟩) F) ∧ Hid (OwnB wr w.heap.size (.slice A2 y.length c2) y)) (fun i _ => 4 - (intOf i).toNat)
      case atStart => exact ⟨0, by omega, rfl, by simp [Hid], HB4.out, HS4.out, HF4.out, HO4.out⟩
      case round =>
        obtain ⟨j, hj, rfl, HTk, hbel, HA, HB, HO⟩ := hrel
        by_cases hlt : j < 4
        · obtain ⟨b1, o1, u, e1, hb1, hu, hd, hcell⟩ := HA.out.at_ (k := j) (by have := HSL.out; omega)
          obtain ⟨b2, o2, u', e2, hb2, hu', hd', hcell'⟩ := HB.out.at_ (k := j) (by have := HL4.out; omega)
          injection e1 with e1
          injection e1 with e1 e1'
          injection e2 with e2
          injection e2 with e2 e2'
          subst e1 e1' e2 e2'
          rw [Nat.add_assoc] at hcell
          rw [Nat.zero_add] at hcell'
          have HSu := Lib.hid (take_eq_succ HTk.out hd hd')
          have hFl : (j : Int) < (F.length : Nat) := by have := HL4.out; omega
          have hLl : (x : Int) + (j : Int) < (l.length : Nat) := by omega
          have hx0 : (0 : Int) ≤ (x : Int) + (j : Int) := by omega
          have hwr : IntKind.i64.wrap ((x : Int) + (j : Int)) = (x : Int) + (j : Int) := by rw [IntKind.wrap_i64]; omega
          have htn : ((x : Int) + (j : Int)).toNat = x + j := by omega
          have hFn : j < F.length := by have := HL4.out; omega
          have hLn : x + j < l.length := by omega
          clear hd hd' HS4 HF4 HO4 HB4
          by_cases hxy : u = u'
          · subst hxy
            have hq2 : ((u : Int) != (u : Int)) = false := by simp
            go_wp2
            go_quiet (fail)
            go_wp2
            go_roundw
            case rel => exact ⟨j + 1, by omega, by go_num, HSu.out.2 (by simp), below_drewN hbel _, HA.out, HB.out, HO.out⟩
            case measure => simp [intOf]; omega
          · have hq2 : ((u : Int) != (u' : Int)) = true := by rw [bne_iff_ne]; omega
            have hne : s ≠ F := take_ne (fun e => hxy (HSu.out.1 e))
            have HXe := Lib.hid (HX.out.2 hne)
            clear hne
            go_wp2
            go_quiet (fail)
            go_wp2
            go_ret3
            exact IsRowN.none_ HXe.out (below_drewN hbel _)
        · have h0 : j = 4 := by omega
          have h1 : s = F := by
            have := HTk.out
            rw [List.take_of_length_le (by rw [HSL.out]; omega), List.take_of_length_le (by rw [HL4.out]; omega)] at this
            exact this
          have HXe := Lib.hid (HX.out.1 h1)
          clear h1 HS4 HF4 HO4 HB4
          go_wp2
          go_ret3
          exact IsRowN.of HXe.out HO.out hbel
end Go.Proofs.Yteemhdoegjdaiaa
