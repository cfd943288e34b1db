/-
  RSfB: stookref14: find, without.
  RSfC: stookref14: with.
  RSfM: stookref14: acts and files as they lie in memory; what is read of them.
-/
import Derived.Test.YtmcbjcbnckpfkaaGreatPk08
import Derived.Test.YtmcbjcbnckpfkaaGreatPk02
import Derived.BigRegion
import Derived.Deep.MidRow
import Derived.Test.YtmcbjcbnckpfkaaGreatPk03
import Derived.Test.YtmcbjcbnckpfkaaGreatPk10
import Derived.JoinedCond
import Derived.Test.YtmcbjcbnckpfkaaGreatPk11
namespace Go.Proofs.YtmcbjcbnckpfkaaGreat
open Go.RowKit
set_option linter.unusedVariables false
def placeI (o : Option Nat) : Int := match o with
  | some k => (k : Nat)
  | none => -1
set_option maxHeartbeats 2000000 in
set_option maxRecDepth 100000 in
theorem rfind_ent (v : Value) (d : Sf.Dir) (B : Nat) (w : World) (hv : Lv eK w B v d) (s : ByteArray) :
    Calls Tryz.prog 78 #[v, .string s] w (fun e w' => e = .returned (.int .i64 (placeI (Sf.place d s))) ∧ w = w') := by
  have H0 := Lib.hid hv
  obtain ⟨A, c, rfl, hc1, hc2, _, _⟩ := hv
  have hl : d.length ≤ 9223372036854775807 := by simp only [maxLen] at hc2; omega
  clear hc1 hc2
  go_enter Tryz.func78, Tryz.ntmps78
  go_wp2
  go_loop [5] (fun i => ∃ k : Nat, k ≤ d.length ∧ i = .int .i64 (k : Nat) ∧ Hid (∀ e ∈ d.take k, e.1 ≠ s)) (fun i => d.length - (intOf i).toNat)
  case atStart => exact ⟨0, by omega, rfl, by simp [Hid]⟩
  case round =>
    obtain ⟨k, hk, rfl, HN⟩ := hrel
    by_cases hlt : k < d.length
    · have hki : (k : Int) < (d.length : Int) := by omega
      have hk0 : (0 : Int) ≤ (k : Int) := by omega
      have wk : IntKind.i64.wrap ((k : Int) + 1) = (k : Int) + 1 := by rw [IntKind.wrap_i64]; omega
      obtain ⟨b, off, x, rfl, hb, hx, hq, hc0, hc1⟩ := H0.out.ent_ hlt
      by_cases hs : x.1 = s
      · have hq1 : (x.1.toList == s.toList) = true := by rw [name_eq]; simpa using hs
        have HP := Lib.hid (Sf.place_at HN.out hq hs)
        clear hs hq hx HN hc1
        go_wp2
        go_ret
        exact ⟨by rw [HP.out]; rfl, rfl⟩
      · have hq1 : (x.1.toList == s.toList) = false := by rw [name_eq]; simpa using hs
        have HN2 : Hid (∀ e ∈ d.take (k + 1), e.1 ≠ s) := fun e he => by
          rw [List.take_add_one, hq] at he
          rcases List.mem_append.1 he with he | he
          · exact HN.out e he
          · simp at he; rw [he]; exact hs
        clear hs hq hx HN hc1
        go_wp2
        go_round
        case rel => exact ⟨k + 1, by omega, by go_num, HN2⟩
        case measure => simp [intOf]; omega
    · have hki : ¬ (k : Int) < (d.length : Int) := by omega
      have HP : Hid (Sf.place d s = none) := by
        have h := HN.out
        rw [List.take_of_length_le (by omega)] at h
        exact Sf.place_none h
      clear HN
      go_wp2
      go_ret
      exact ⟨by rw [HP.out]; rfl, rfl⟩
theorem without_more {d : Sf.Dir} {s : ByteArray} {k : Nat} {x : ByteArray × Nat} (h : d[k]? = some x) : Sf.without (d.take (k + 1)) s = if x.1 = s then Sf.without (d.take k) s else Sf.without (d.take k) s ++ [x] := by
  unfold Sf.without
  rw [List.take_add_one, h, List.filter_append]
  split
  · rename_i hs; simp [hs]
  · rename_i hs; simp [hs]
set_option maxHeartbeats 2000000 in
set_option maxRecDepth 100000 in
theorem rwithout_ent (v : Value) (d : Sf.Dir) (B : Nat) (w : World) (hv : Lv eK w B v d) (hB : B ≤ w.heap.size) (s : ByteArray) (hd : d.length ≤ 1048576) :
    Calls Tryz.prog 85 #[v, .string s] w (IsL1 eK (Sf.without d s) w) := by
  have H0 := Lib.hid hv
  obtain ⟨A, c, rfl, hc1, hc2, _, _⟩ := hv
  have HN : Hid (OwnL eK w w.heap.size (.slice none 0 0) []) := OwnL.nil_ _ _ _
  have HBe : Hid (Below w.heap.size w w) := Below.refl _ _
  clear hc1 hc2
  go_enter Tryz.func85, Tryz.ntmps85
  go_wp2
  go_loopw [5, 6] (fun u i wr => ∃ (k : Nat) (y : Sf.Dir), k ≤ d.length ∧ i = .int .i64 (k : Nat) ∧ Hid (y = Sf.without (d.take k) s) ∧ Hid (y.length ≤ k) ∧ Hid (OwnL eK wr w.heap.size u y) ∧ Below w.heap.size w wr) (fun _ i _ => d.length - (intOf i).toNat)
  case atStart => exact ⟨0, [], by omega, rfl, rfl, Nat.le_refl _, HN.out, HBe.out⟩
  case round =>
    obtain ⟨k, y, hk, rfl, HE, HL, HO, hbr⟩ := hrel
    have HBr := Lib.hid hbr
    clear hbr HN HBe
    by_cases hlt : k < d.length
    · have hki : (k : Int) < (d.length : Int) := by omega
      have hk0 : (0 : Int) ≤ (k : Int) := by omega
      have wk : IntKind.i64.wrap ((k : Int) + 1) = (k : Int) + 1 := by rw [IntKind.wrap_i64]; omega
      have H1 := H0.out.below_ (HBr.out.mono hB) (Nat.le_refl _)
      obtain ⟨b, off, x, rfl, hb, hx, hq, hc0, hc1⟩ := H1.ent_ hlt
      by_cases hs : x.1 = s
      · have hq1 : (x.1.toList == s.toList) = true := by rw [name_eq]; simpa using hs
        have HE2 : Hid (y = Sf.without (d.take (k + 1)) s) := by unfold Hid; rw [without_more hq, if_pos hs]; exact HE.out
        clear hs hq hx HE hc1 H1
        go_wp2
        go_roundw
        case rel => exact ⟨k + 1, y, by omega, by go_num, HE2, by have := HL.out; unfold Hid; omega, HO.out, HBr.out⟩
        case measure => simp [intOf]; omega
      · have hq1 : (x.1.toList == s.toList) = false := by rw [name_eq]; simpa using hs
        have HE2 : Hid (y ++ [x] = Sf.without (d.take (k + 1)) s) := by unfold Hid; rw [without_more hq, if_neg hs, HE.out]
        have HX : Hid (eK.ok x) := hx
        have HS : Hid (wr.rangeAt b (off + k * 2) [.string x.1, .int .i64 (x.2 : Nat)]) := by
          intro j u hj
          match j, hj with
          | 0, hj => simp at hj; subst hj; exact hc0
          | 1, hj => simp at hj; subst hj; exact hc1
          | j + 2, hj => simp at hj
        clear hs hq hx HE H1
        go_wp2_with (first | (refine wpList_load_mid rfl _ _ rfl b (off + k * 2) rfl [.string x.1, .int .i64 (x.2 : Nat)] _ HS.out Tryz.underlying98 rfl (by kernel_rfl) ?_) | (at_builtin; go_must (refine wpList_push_l _ eK rfl _ _ rfl w.heap.size _ rfl y HO.out rfl x HX.out _ rfl _ rfl (by have := HL.out; show _ * 24 ≤ _; omega) (by have := HL.out; simp only [maxLen]; omega) HBr.out.size ?_; intro A3 c3 w5 hA hG)))
        go_roundw
        case rel => exact ⟨k + 1, y ++ [x], by omega, by go_num, HE2, by have := HL.out; unfold Hid; rw [List.length_append]; simp; omega, hA, HBr.out.grown hG HBr.out.size (fun k hk => (HO.out.lt_ k hk).1)⟩
        case measure => simp [intOf]; omega
    · have hki : ¬ (k : Int) < (d.length : Int) := by omega
      have HE2 : Hid (Sf.without d s = y) := by
        have h := HE.out
        rw [List.take_of_length_le (by omega)] at h
        exact h.symm
      obtain ⟨A2, c2, e2, _⟩ := HO.out.form_
      subst e2
      clear HE
      go_wp2
      go_ret
      rw [HE2.out]
      exact ⟨A2, c2, rfl, HO.out, HBr.out⟩
end Go.Proofs.YtmcbjcbnckpfkaaGreat
namespace Go.Proofs.YtmcbjcbnckpfkaaGreat
open Go.RowKit
set_option linter.unusedVariables false
theorem ahead_eq {d : Sf.Dir} {s : ByteArray} {k : Nat} (h : ∀ e ∈ d.take k, Op.bytesLess e.1.toList s.toList = true) (hk : k ≤ d.length) (he : ∀ x, d[k]? = some x → Op.bytesLess x.1.toList s.toList = false) : Sf.ahead d s = k := by
  unfold Sf.ahead
  have e1 : d = d.take k ++ d.drop k := (List.take_append_drop k d).symm
  have e2 : (d.drop k).takeWhile (fun e => Op.bytesLess e.1.toList s.toList) = [] := by
    cases hd : d.drop k with
    | nil => rfl
    | cons x r =>
      have hx : d[k]? = some x := by
        have := congrArg (fun l => l[0]?) hd
        simpa [List.getElem?_drop] using this
      rw [List.takeWhile_cons_of_neg]
      rw [he x hx]; simp
  conv => lhs; rw [e1]
  rw [List.takeWhile_append_of_pos (fun e he => h e he), e2, List.append_nil, List.length_take]
  omega
set_option maxHeartbeats 4000000 in
set_option maxRecDepth 100000 in
theorem rwith_ent (v : Value) (d : Sf.Dir) (B : Nat) (w : World) (hv : Lv eK w B v d) (hB : B ≤ w.heap.size) (s : ByteArray) (hs : s.size ≤ maxLen) (n : Nat) (hn : n < 2199023255552) (hd : d.length ≤ 1048576) :
    Calls Tryz.prog 80 #[v, .string s, .int .i64 (n : Nat)] w (IsL1 eK (Sf.with_ d s n) w) := by
  have H0 := Lib.hid hv
  obtain ⟨A, c, rfl, hc1, hc2, _, _⟩ := hv
  have HN : Hid (OwnL eK w w.heap.size (.slice none 0 0) []) := OwnL.nil_ _ _ _
  have HX : Hid (eK.ok (s, n)) := ⟨hs, hn⟩
  clear hc2
  go_enter Tryz.func80, Tryz.ntmps80
  go_wp2
  go_loop [7] (fun i => ∃ k : Nat, k ≤ d.length ∧ i = .int .i64 (k : Nat) ∧ Hid (∀ e ∈ d.take k, Op.bytesLess e.1.toList s.toList = true)) (fun i => d.length - (intOf i).toNat)
  case atStart => exact ⟨0, by omega, rfl, by simp [Hid]⟩
  case round =>
    obtain ⟨k, hk, rfl, HL⟩ := hrel
    have go : ∀ (he : ∀ x, d[k]? = some x → Op.bytesLess x.1.toList s.toList = false), True := fun _ => trivial
    have hki0 : (0 : Int) ≤ (k : Int) := by omega
    by_cases hmore : ∃ x, d[k]? = some x ∧ Op.bytesLess x.1.toList s.toList = true
    · obtain ⟨x, hq, hless⟩ := hmore
      have hlt : k < d.length := (List.getElem?_eq_some_iff.1 hq).1
      have hki : (k : Int) < (d.length : Int) := by omega
      have wk : IntKind.i64.wrap ((k : Int) + 1) = (k : Int) + 1 := by rw [IntKind.wrap_i64]; omega
      obtain ⟨b, off, x', rfl, hb, hx, hq', hc0, _⟩ := H0.out.ent_ hlt
      rw [hq] at hq'
      obtain rfl := Option.some.inj hq'
      have HL2 : Hid (∀ e ∈ d.take (k + 1), Op.bytesLess e.1.toList s.toList = true) := fun e he => by
        rw [List.take_add_one, hq] at he
        rcases List.mem_append.1 he with he | he
        · exact HL.out e he
        · simp at he; rw [he]; exact hless
      clear hq hx HL go hq'
      go_wp2
      go_round
      case rel => exact ⟨k + 1, by omega, by go_num, HL2⟩
      case measure => simp [intOf]; omega
    · have he : ∀ x, d[k]? = some x → Op.bytesLess x.1.toList s.toList = false := fun x hx => by
        cases hb : Op.bytesLess x.1.toList s.toList with
        | false => rfl
        | true => exact absurd ⟨x, hx, hb⟩ hmore
      have hah := ahead_eq HL.out hk he
      have HE : Hid (Sf.with_ d s n = d.take k ++ ((s, n) :: d.drop k)) := by unfold Hid Sf.with_; rw [hah]
      have k1 := fun w => cut_to eK rfl A d.length c k (by omega) w
      have k2 := fun w => cutAt_to eK rfl A d.length c k (by omega) w
      change ∀ w, (Instr.slice 50 (.slice A d.length c) none (some (.int .i64 (k : Nat))) none).run Tryz.prog w = .ok (.slice A k c) w at k1
      change ∀ w, (Instr.sliceAt 50 (.slice A d.length c) none (some (.int .i64 (k : Nat))) none).run Tryz.prog w = .ok (.slice A k c) w at k2
      obtain ⟨A5, p1, p2, p3, p4⟩ := cut_from eK rfl A d.length c k hk hc1
      change ∀ w, (Instr.slice 50 (.slice A d.length c) (some (.int .i64 (k : Nat))) none none).run Tryz.prog w = .ok (.slice A5 (d.length - k) (c - k)) w at p1
      change ∀ w, (Instr.sliceAt 50 (.slice A d.length c) (some (.int .i64 (k : Nat))) none none).run Tryz.prog w = .ok (.slice A5 (d.length - k) (c - k)) w at p2
      have HT := Lib.hid (H0.out.take_ (k := k) hk)
      have HTL : Hid ((d.take k).length = k) := by unfold Hid; rw [List.length_take]; omega
      have HD := Lib.hid (p3 w B d H0.out)
      have HDL : Hid ((d.drop k).length = d.length - k) := by unfold Hid; rw [List.length_drop]
      obtain ⟨T, hT⟩ : ∃ T, d.take k = T := ⟨_, rfl⟩
      obtain ⟨D, hD⟩ : ∃ D, d.drop k = D := ⟨_, rfl⟩
      rw [hT] at HT HTL HE
      rw [hD] at HD HDL HE
      obtain ⟨m, hm⟩ : ∃ m, d.length - k = m := ⟨_, rfl⟩
      rw [hm] at HD HDL p1 p2
      have hmd : m ≤ d.length := by omega
      have hend : (∃ x, d[k]? = some x) ∨ k = d.length := by
        by_cases h : k < d.length
        · exact .inl ⟨_, List.getElem?_eq_getElem h⟩
        · exact .inr (by omega)
      have HCOND : Hid ((k < d.length → ∃ b off x, A = some ⟨b, off, none⟩ ∧ w.cell? ⟨b, off + k * 2, none⟩ = some (.string x) ∧ Op.bytesLess x.toList s.toList = false)) := fun h => by
        obtain ⟨b, off, x, rfl, hb, hx, hq, hc0, _⟩ := H0.out.ent_ h
        exact ⟨b, off, x.1, rfl, hc0, he x hq⟩
      clear he hmore hah go HL p3 p4 hT hD hend hm
      have fin : ∀ {w1 : World} {A3 : Option Addr} {c3 : Nat}, True := fun {_} {_} {_} => trivial
      by_cases hlt : k < d.length
      · have hki : (k : Int) < (d.length : Int) := by omega
        obtain ⟨b, off, x, rfl, hc0, hless⟩ := HCOND.out hlt
        clear HCOND
        go_wp2_with (at_builtin; go_must (refine wpList_append_m _ eK rfl _ _ rfl w.heap.size _ rfl [] HN.out _ rfl B T HT.out (by rw [HTL.out]; show (0 + k) * 24 ≤ _; omega) (by rw [HTL.out]; simp only [maxLen, List.length_nil]; omega) (Nat.le_refl _) ?_))
        intro A3 c3 w2 hA hG hM
        have hb2 := (Below.refl w.heap.size w).grown hG (Nat.le_refl _) (by intro k hk; cases hk)
        have HA2 := Lib.hid hA
        have HB2 := Lib.hid hb2
        have HD2 := Lib.hid (HD.out.below_ hb2 hB)
        clear hA hG hM hb2 k1 k2 HT HN HD
        go_wp2_with (at_builtin; go_must (refine wpList_push_l _ eK rfl _ _ rfl w.heap.size _ rfl T HA2.out rfl (s, n) HX.out _ rfl _ rfl (by rw [HTL.out]; show (k + 1) * 24 ≤ _; omega) (by rw [HTL.out]; simp only [maxLen]; omega) HB2.out.size ?_))
        intro A4 c4 w3 hA hG
        have hb3 := HB2.out.grown hG HB2.out.size (fun k hk => (HA2.out.lt_ k hk).1)
        have HA3 := Lib.hid hA
        have HB3 := Lib.hid hb3
        have HD3 := Lib.hid (HD2.out.kept_ (row := (Value.slice A3 T.length c3).ownBlock) hG (Nat.le_trans hB HB2.out.size) (fun k hk => Nat.le_trans hB (HA2.out.lt_ k hk).1))
        clear hA hG hb3 HA2 HD2
        go_wp2_with (at_builtin; go_must (refine wpList_append_m _ eK rfl _ _ rfl w.heap.size _ rfl (T ++ [(s, n)]) (by first | exact HA3.out | (rw [List.length_append]; exact HA3.out)) _ rfl B D (by first | exact HD3.out | (rw [HDL.out]; exact HD3.out)) (by rw [List.length_append, HTL.out, HDL.out]; show (k + 1 + m) * 24 ≤ _; omega) (by rw [List.length_append, HTL.out, HDL.out]; simp only [maxLen, List.length_singleton]; omega) HB3.out.size ?_))
        intro A6 c6 w4 hA hG hM
        have hb4 := HB3.out.grown hG HB3.out.size (fun k hk => (HA3.out.lt_ k (by first | exact hk | simpa using hk)).1)
        have HA4 := Lib.hid hA
        have HB4 := Lib.hid hb4
        clear hA hG hM hb4
        go_wp2
        go_ret
        rw [HE.out]
        have h4 := HA4.out
        try simp only [List.append_assoc, List.singleton_append] at h4
        obtain ⟨A7, c7, e7, _⟩ := h4.form_
        exact ⟨A7, c7, by first | exact congrArg Ending.returned e7 | (rw [← e7]; rfl), by rw [← e7]; exact h4, HB4.out⟩
      · have hki : ¬ (k : Int) < (d.length : Int) := by omega
        clear HCOND
        go_wp2_with (at_builtin; go_must (refine wpList_append_m _ eK rfl _ _ rfl w.heap.size _ rfl [] HN.out _ rfl B T HT.out (by rw [HTL.out]; show (0 + k) * 24 ≤ _; omega) (by rw [HTL.out]; simp only [maxLen, List.length_nil]; omega) (Nat.le_refl _) ?_))
        intro A3 c3 w2 hA hG hM
        have hb2 := (Below.refl w.heap.size w).grown hG (Nat.le_refl _) (by intro k hk; cases hk)
        have HA2 := Lib.hid hA
        have HB2 := Lib.hid hb2
        have HD2 := Lib.hid (HD.out.below_ hb2 hB)
        clear hA hG hM hb2 k1 k2 HT HN HD
        go_wp2_with (at_builtin; go_must (refine wpList_push_l _ eK rfl _ _ rfl w.heap.size _ rfl T HA2.out rfl (s, n) HX.out _ rfl _ rfl (by rw [HTL.out]; show (k + 1) * 24 ≤ _; omega) (by rw [HTL.out]; simp only [maxLen]; omega) HB2.out.size ?_))
        intro A4 c4 w3 hA hG
        have hb3 := HB2.out.grown hG HB2.out.size (fun k hk => (HA2.out.lt_ k hk).1)
        have HA3 := Lib.hid hA
        have HB3 := Lib.hid hb3
        have HD3 := Lib.hid (HD2.out.kept_ (row := (Value.slice A3 T.length c3).ownBlock) hG (Nat.le_trans hB HB2.out.size) (fun k hk => Nat.le_trans hB (HA2.out.lt_ k hk).1))
        clear hA hG hb3 HA2 HD2
        go_wp2_with (at_builtin; go_must (refine wpList_append_m _ eK rfl _ _ rfl w.heap.size _ rfl (T ++ [(s, n)]) (by first | exact HA3.out | (rw [List.length_append]; exact HA3.out)) _ rfl B D (by first | exact HD3.out | (rw [HDL.out]; exact HD3.out)) (by rw [List.length_append, HTL.out, HDL.out]; show (k + 1 + m) * 24 ≤ _; omega) (by rw [List.length_append, HTL.out, HDL.out]; simp only [maxLen, List.length_singleton]; omega) HB3.out.size ?_))
        intro A6 c6 w4 hA hG hM
        have hb4 := HB3.out.grown hG HB3.out.size (fun k hk => (HA3.out.lt_ k (by first | exact hk | simpa using hk)).1)
        have HA4 := Lib.hid hA
        have HB4 := Lib.hid hb4
        clear hA hG hM hb4
        go_wp2
        go_ret
        rw [HE.out]
        have h4 := HA4.out
        try simp only [List.append_assoc, List.singleton_append] at h4
        obtain ⟨A7, c7, e7, _⟩ := h4.form_
        exact ⟨A7, c7, by first | exact congrArg Ending.returned e7 | (rw [← e7]; rfl), by rw [← e7]; exact h4, HB4.out⟩
end Go.Proofs.YtmcbjcbnckpfkaaGreat
namespace Go.Proofs.YtmcbjcbnckpfkaaGreat
open Go.RowKit
set_option linter.unusedVariables false
structure RawA where
  cut : Bool
  at_ : Nat
  sl : Sl
structure RawF where
  sure : Sl
  row : Sl
def aK : El Tryz.prog RawA where
  e := 101
  s := 94
  size := 3
  bytes := 40
  zero := .agg #[.bool false, .int .i64 0, .slice none 0 0]
  z := ⟨false, 0, ⟨none, 0, 0⟩⟩
  enc := fun x => [.bool x.cut, .int .i64 (x.at_ : Nat), .slice x.sl.A x.sl.n x.sl.c]
  ok := fun x => x.at_ ≤ 1048576
  len := fun _ => rfl
  one := fun x u hu => by simp at hu; rcases hu with rfl | rfl | rfl <;> rfl
  okz := by simp
  encz := rfl
  pos := by decide
  under := Tryz.underlying94
  info := by kernel_rfl
def fK : El Tryz.prog RawF where
  e := 96
  s := 49
  size := 2
  bytes := 48
  zero := .agg #[.slice none 0 0, .slice none 0 0]
  z := ⟨⟨none, 0, 0⟩, ⟨none, 0, 0⟩⟩
  enc := fun x => [.slice x.sure.A x.sure.n x.sure.c, .slice x.row.A x.row.n x.row.c]
  ok := fun _ => True
  len := fun _ => rfl
  one := fun x u hu => by simp at hu; rcases hu with rfl | rfl <;> rfl
  okz := trivial
  encz := rfl
  pos := by decide
  under := Tryz.underlying49
  info := by kernel_rfl
def rK : El Tryz.prog Sl where
  e := 50
  s := 51
  size := 1
  bytes := 24
  zero := .slice none 0 0
  z := ⟨none, 0, 0⟩
  enc := fun u => [.slice u.A u.n u.c]
  ok := fun _ => True
  len := fun _ => rfl
  one := fun x u hu => by simp at hu; subst hu; rfl
  okz := trivial
  encz := rfl
  pos := by decide
  under := Tryz.underlying51
  info := by kernel_rfl
/-- A file that is read, in blocks below B. -/
structure FileV (w : World) (B : Nat) (x : RawF) (f : Sf.File) : Prop where
  sure : Lv yK w B (slV x.sure) f.sure
  acts : ∃ ra : List RawA, ra.length = f.row.length ∧ Lv aK w B (slV x.row) ra ∧ ∀ (i : Nat) (r : RawA) (a : Sf.Act), ra[i]? = some r → f.row[i]? = some a → r.cut = a.cut ∧ r.at_ = a.at_ ∧ Lv yK w B (slV r.sl) a.b
theorem FileV.below_ {w w' : World} {B B' : Nat} {x : RawF} {f : Sf.File} (h : FileV w B x f) (hb : Below B' w w') (hB : B ≤ B') : FileV w' B x f := by
  obtain ⟨h1, ra, h2, h3, h4⟩ := h
  exact ⟨h1.below_ hb hB, ra, h2, h3.below_ hb hB, fun i r a hr ha => ⟨(h4 i r a hr ha).1, (h4 i r a hr ha).2.1, (h4 i r a hr ha).2.2.below_ hb hB⟩⟩
end Go.Proofs.YtmcbjcbnckpfkaaGreat
