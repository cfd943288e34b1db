/-
  Left: stookref00.Left: what Wide made is as it was, the room behind it, too.
  RNdA: stookref18: Find and Kid.
  RNdB: stookref18: Right, Wide, May.
-/
import Derived.Test.YtlefkaoibokjdaaPc17
import Derived.Test.YtlefkaoibokjdaaPc12
namespace Go.Proofs.Ytlefkaoibokjdaa
open Go.RowKit
set_option linter.unusedVariables false

set_option maxHeartbeats 1000000 in
set_option maxRecDepth 100000 in
theorem left_any (g : Nat) (l : List Nat) (v : Value) (B B' : Nat) (w : World) (h : Bv w B (.slice (some ⟨g, 0, none⟩) (l.length + 3) (l.length + 3)) (l ++ [7, 7, 7])) (h' : Bv w B' v l) :
    Calls Try.prog 20 #[.slice (some ⟨g, 0, none⟩) l.length (l.length + 3), v] w (IsBool true w) := by
  have h1 := h.take_ (k := l.length) (by simp)
  rw [List.take_left] at h1
  have HS := Lib.hid (same_bv _ _ _ _ _ _ w h1 h')
  obtain ⟨A0, c0, e0, _, hc0, _, hts⟩ := h
  injection e0 with e1 e2 e3
  subst e1 e3
  unfold maxLen at hc0
  have hcell : ∀ j, j < 3 → w.cell? ⟨g, l.length + j, none⟩ = some (.int .u8 7) := by
    intro j hj
    obtain ⟨b, off, e4, _, hc⟩ := hts.2 (by simp)
    injection e4 with e4
    injection e4 with e5 e6
    subst e5 e6
    have h2 : (l ++ [7, 7, 7])[l.length + j]? = some 7 := by
      rw [List.getElem?_append_right (by omega)]
      have e : l.length + j - l.length = j := by omega
      rw [e]
      match j, hj with
      | 0, _ => rfl
      | 1, _ => rfl
      | 2, _ => rfl
    have h3 := hc _ _ h2
    rw [Nat.zero_add] at h3
    exact h3
  have k0 := hcell 0 (by omega)
  have k1 := hcell 1 (by omega)
  have k2 := hcell 2 (by omega)
  rw [Nat.add_zero] at k0
  obtain ⟨A, c, rfl, _, _, _, _⟩ := h'
  clear h1 hts hcell e2
  go_enter Try.func20, Try.ntmps20
  go_wp2_with fail
  ((with_reducible refine HS.out.mono ?_); rintro e w1 ⟨he, hb⟩)
  simp only [decide_true] at he
  subst he
  have m0 : w1.cell? ⟨g, l.length, none⟩ = some (.int .u8 7) := (hb.cell (p := ⟨g, l.length, none⟩) (World.block_lt_of_cell? w _ k0)).trans k0
  have m1 : w1.cell? ⟨g, l.length + 1, none⟩ = some (.int .u8 7) := (hb.cell (p := ⟨g, l.length + 1, none⟩) (World.block_lt_of_cell? w _ k1)).trans k1
  have m2 : w1.cell? ⟨g, l.length + 2, none⟩ = some (.int .u8 7) := (hb.cell (p := ⟨g, l.length + 2, none⟩) (World.block_lt_of_cell? w _ k2)).trans k2
  have HB := Lib.hid hb
  clear HS k0 k1 k2 hb
  go_wp2
  go_ret
  exact ⟨rfl, HB.out⟩

end Go.Proofs.Ytlefkaoibokjdaa
namespace Go.Proofs.Ytlefkaoibokjdaa
open Go.RowKit
set_option linter.unusedVariables false

theorem name_eqN (x y : ByteArray) : (x.toList == y.toList) = decide (x = y) := by
  rw [Bool.eq_iff_iff, beq_iff_eq, decide_eq_true_eq]
  exact ⟨fun h => str_inj h, fun h => by rw [h]⟩

set_option maxHeartbeats 1000000 in
set_option maxRecDepth 100000 in
theorem rkid_any (n : Nd.Node) (key : ByteArray) (v : Value) (B : Nat) (w : World) (hv : NdIs w B v n) (hB : B ≤ w.heap.size) :
    Calls Try.prog 25 #[v, .string key] w (IsInt (Nd.kid n.keys key) w) := by
  obtain ⟨Ak, ck, Av, cv, Ai, ci, rfl, hk8, HK, HV, HI⟩ := hv
  have hl : n.keys.length ≤ 9223372036854775807 := by have := HK.len_; simp only [maxLen] at this; omega
  have H0 := Lib.hid (nd_in HK HV HI hB)
  have HB := Lib.hid hB
  obtain ⟨W, hW⟩ : ∃ W, w.alloc (ndB n Ak ck Av cv Ai ci) = W := ⟨_, rfl⟩
  have HbW : Hid (Below w.heap.size w W) := by unfold Hid; rw [← hW]; exact (Below.refl _ _).alloc (Nat.le_refl _) _
  rw [hW] at H0
  clear HK HV HI hk8 hB
  unfold ndB at hW
  unfold ndV
  go_enter Try.func25, Try.ntmps25
  go_wp2
  go_loopw [5, 6] (fun q i wr => ∃ k : Nat, k ≤ n.keys.length ∧ i = .int .i64 k ∧ q = .int .i64 ((Nd.kid (n.keys.take k) key : Nat) : Int) ∧ Hid (Below w.heap.size w wr) ∧ Hid (NdAt wr w.heap.size B n Ak ck Av cv Ai ci)) (fun _ i _ => n.keys.length - (intOf i).toNat)
  case atStart => exact ⟨0, by omega, rfl, rfl, HbW.out, H0.out⟩
  case round =>
    obtain ⟨k, hk, rfl, rfl, HBel, HL⟩ := hrel
    clear H0 HbW hW
    have hc1 := HL.out.c1
    have hq : Nd.kid (n.keys.take k) key ≤ k := by
      exact Nat.le_trans (List.countP_le_length) (by simp; omega)
    by_cases hlt : k < n.keys.length
    · obtain ⟨b1, o1, x, rfl, hb1, hx, hd, hcell⟩ := HL.out.keys.str_ hlt
      have HS := Lib.hid (Nd.count_succ (p := fun x => !(Nd.bl key x)) hd)
      clear hd hx
      cases hb : Op.bytesLess key.toList x.toList
      · go_wp2
        go_roundw
        case rel =>
          have e : Nd.kid (n.keys.take (k + 1)) key = Nd.kid (n.keys.take k) key + 1 := by
            have := HS.out; unfold Nd.kid; rw [this]; simp [Nd.bl, hb]
          exact ⟨k + 1, by omega, by go_num, by rw [e]; go_num, HBel.out, HL.out⟩
        case measure => simp [intOf]; omega
      · go_wp2
        go_roundw
        case rel =>
          have e : Nd.kid (n.keys.take (k + 1)) key = Nd.kid (n.keys.take k) key := by
            have := HS.out; unfold Nd.kid; rw [this]; simp [Nd.bl, hb]
          exact ⟨k + 1, by omega, by go_num, by rw [e], HBel.out, HL.out⟩
        case measure => simp [intOf]; omega
    · have ek : k = n.keys.length := by omega
      subst ek
      go_wp2
      go_ret
      rw [List.take_length]
      exact ⟨rfl, HBel.out⟩
set_option maxHeartbeats 1000000 in
set_option maxRecDepth 100000 in
theorem rfind_any (n : Nd.Node) (key : ByteArray) (v : Value) (B : Nat) (w : World) (hv : NdIs w B v n) (hB : B ≤ w.heap.size) :
    Calls Try.prog 23 #[v, .string key] w (IsIB (Nd.below n.keys key) (Nd.isAt n.keys key) w) := by
  obtain ⟨Ak, ck, Av, cv, Ai, ci, rfl, hk8, HK, HV, HI⟩ := hv
  have hl : n.keys.length ≤ 9223372036854775807 := by have := HK.len_; simp only [maxLen] at this; omega
  have H0 := Lib.hid (nd_in HK HV HI hB)
  have HB := Lib.hid hB
  obtain ⟨W, hW⟩ : ∃ W, w.alloc (ndB n Ak ck Av cv Ai ci) = W := ⟨_, rfl⟩
  have HbW : Hid (Below w.heap.size w W) := by unfold Hid; rw [← hW]; exact (Below.refl _ _).alloc (Nat.le_refl _) _
  rw [hW] at H0
  clear HK HV HI hk8 hB
  unfold ndB at hW
  unfold ndV
  go_enter Try.func23, Try.ntmps23
  go_wp2
  go_loopw [6, 7] (fun q i wr => ∃ k : Nat, k ≤ n.keys.length ∧ i = .int .i64 k ∧ q = .int .i64 ((Nd.below (n.keys.take k) key : Nat) : Int) ∧ Hid (Below w.heap.size w wr) ∧ Hid (NdAt wr w.heap.size B n Ak ck Av cv Ai ci)) (fun _ i _ => n.keys.length - (intOf i).toNat)
  case atStart => exact ⟨0, by omega, rfl, rfl, HbW.out, H0.out⟩
  case round =>
    obtain ⟨k, hk, rfl, rfl, HBel, HL⟩ := hrel
    clear H0 HbW hW
    have hc1 := HL.out.c1
    have hq : Nd.below (n.keys.take k) key ≤ k := by
      exact Nat.le_trans (List.countP_le_length) (by simp; omega)
    by_cases hlt : k < n.keys.length
    · obtain ⟨b1, o1, x, rfl, hb1, hx, hd, hcell⟩ := HL.out.keys.str_ hlt
      have HS := Lib.hid (Nd.count_succ (p := fun x => Nd.bl x key) hd)
      clear hd hx
      cases hb : Op.bytesLess x.toList key.toList
      · go_wp2
        go_roundw
        case rel =>
          have e : Nd.below (n.keys.take (k + 1)) key = Nd.below (n.keys.take k) key := by
            have := HS.out; unfold Nd.below; rw [this]; simp [Nd.bl, hb]
          exact ⟨k + 1, by omega, by go_num, by rw [e], HBel.out, HL.out⟩
        case measure => simp [intOf]; omega
      · go_wp2
        go_roundw
        case rel =>
          have e : Nd.below (n.keys.take (k + 1)) key = Nd.below (n.keys.take k) key + 1 := by
            have := HS.out; unfold Nd.below; rw [this]; simp [Nd.bl, hb]
          exact ⟨k + 1, by omega, by go_num, by rw [e]; go_num, HBel.out, HL.out⟩
        case measure => simp [intOf]; omega
    · have ek : k = n.keys.length := by omega
      subst ek
      rw [List.take_length] at hq ⊢
      obtain ⟨q, hq0⟩ : ∃ q, Nd.below n.keys key = q := ⟨_, rfl⟩
      have HQ := Lib.hid hq0
      rw [hq0] at hq ⊢
      clear hq0
      by_cases hlt2 : q < n.keys.length
      · obtain ⟨b1, o1, x, rfl, hb1, hx, hd, hcell⟩ := HL.out.keys.str_ hlt2
        have HD := Lib.hid hd
        clear hd hx
        have hli : (q : Int) < (n.keys.length : Int) := by omega
        obtain ⟨bq, hbq⟩ : ∃ b, (x.toList == key.toList) = b := ⟨_, rfl⟩
        go_wp2
        go_quiet (fail)
        go_wp2
        go_ret2
        refine ⟨?_, below_drewN HBel.out _⟩
        rw [← hbq, name_eqN]
        have e : Nd.isAt n.keys key = decide (x = key) := by
          unfold Nd.isAt; rw [HQ.out, HD.out]; simp
        rw [e, HQ.out]; rfl
      · have hli : ¬ (q : Int) < (n.keys.length : Int) := by omega
        go_wp2
        go_quiet (fail)
        go_wp2
        go_ret2
        refine ⟨?_, below_drewN HBel.out _⟩
        have e : Nd.isAt n.keys key = false := by
          unfold Nd.isAt; rw [HQ.out, List.getElem?_eq_none (by omega)]; simp
        rw [e, HQ.out]; rfl
end Go.Proofs.Ytlefkaoibokjdaa
namespace Go.Proofs.Ytlefkaoibokjdaa
open Go.RowKit
set_option linter.unusedVariables false

set_option maxHeartbeats 8000000 in
set_option maxRecDepth 100000 in
theorem rright_any (n : Nd.Node) (leaf inner : Nat) (v : Value) (B : Nat) (w : World) (hv : NdIs w B v n) (hB : B ≤ w.heap.size) (hle : leaf ≤ 100) (hin : inner ≤ 100) :
    Calls Try.prog 43 #[v, .int .i64 (leaf : Nat), .int .i64 (inner : Nat)] w (IsBool (Nd.rightB n leaf inner) w) := by
  obtain ⟨Ak, ck, Av, cv, Ai, ci, rfl, hk8, HK, HV, HI⟩ := hv
  have hl : n.keys.length ≤ 9223372036854775807 := by have := HK.len_; simp only [maxLen] at this; omega
  have hlv : n.vals.length ≤ 9223372036854775807 := by have := HV.len_; simp only [maxLen] at this; omega
  have hli : n.kids.length ≤ 9223372036854775807 := by have := HI.len_; simp only [maxLen] at this; omega
  have HKids := Lib.hid HI.ok_
  have H0 := Lib.hid (nd_in HK HV HI hB)
  have HB := Lib.hid hB
  obtain ⟨W, hW⟩ : ∃ W, w.alloc (ndB n Ak ck Av cv Ai ci) = W := ⟨_, rfl⟩
  have HbW : Hid (Below w.heap.size w W) := by unfold Hid; rw [← hW]; exact (Below.refl _ _).alloc (Nat.le_refl _) _
  rw [hW] at H0
  clear HK HV HI hB
  unfold ndB at hW
  unfold ndV
  go_enter Try.func43, Try.ntmps43
  go_wp2
  go_loopw [7] (fun i wr => ∃ k : Nat, k ≤ n.keys.length ∧ i = .int .i64 k ∧ Hid (Nd.KeysOk (n.keys.take k)) ∧ Hid (Below w.heap.size w wr) ∧ Hid (NdAt wr w.heap.size B n Ak ck Av cv Ai ci)) (fun i _ => n.keys.length - (intOf i).toNat)
  case atStart => exact ⟨0, by omega, rfl, by simpa [Hid] using Nd.keys_nil, HbW.out, H0.out⟩
  case round =>
    obtain ⟨k, hk, rfl, HG, HBel, HL⟩ := hrel
    clear H0 HbW hW
    have hc1 := HL.out.c1
    by_cases hlt : k < n.keys.length
    · obtain ⟨b1, o1, x, rfl, hb1, hx, hd, hcell⟩ := HL.out.keys.str_ hlt
      have HD := Lib.hid hd
      clear hd

      have hsz0 : x.size ≤ 9223372036854775807 := by simp only [maxLen] at hx; omega
      clear hx
      have HF : Hid (¬ (Nd.KeyOk x ∧ ∀ y, 0 < k → n.keys[k - 1]? = some y → Nd.bl y x = true) → Nd.rightB n leaf inner = false) := by
        intro h
        unfold Nd.rightB
        rw [decide_eq_false_iff_not]
        exact fun hr => h (hr.1.at_ HD.out)
      have HF2 : Hid ((Nd.KeyOk x ∧ ∀ y, 0 < k → n.keys[k - 1]? = some y → Nd.bl y x = true) → Nd.KeysOk (n.keys.take (k + 1))) := fun h => Nd.keys_succ HG.out HD.out h.1 h.2
      by_cases hz : x.size < 1
      · have hz1 : (x.size : Int) < 1 := by omega
        go_wp2
        go_quiet (fail)
        go_wp2
        go_ret
        refine ⟨?_, below_drewN HBel.out _⟩
        rw [HF.out fun h => by have := h.1.1; omega]; rfl
      · have hz1 : ¬ (x.size : Int) < 1 := by omega
        by_cases hz2 : 40 < x.size
        · have hz3 : (40 : Int) < (x.size : Int) := by omega
          have hd1 : decide ((x.size : Int) < 1) = false := by rw [decide_eq_false_iff_not]; exact hz1
          have hd2 : decide ((40 : Int) < (x.size : Int)) = true := by rw [decide_eq_true_eq]; exact hz3
          have hz4 : ¬ x.size = 0 := by omega
          go_wp2
          go_quiet (fail)
          go_wp2
          go_ret
          refine ⟨?_, below_drewN HBel.out _⟩
          rw [HF.out fun h => by have := h.1.2; omega]; rfl
        · have hz3 : ¬ (40 : Int) < (x.size : Int) := by omega
          have hd1 : decide ((x.size : Int) < 1) = false := by rw [decide_eq_false_iff_not]; exact hz1
          have hd2 : decide ((40 : Int) < (x.size : Int)) = false := by rw [decide_eq_false_iff_not]; exact hz3
          have hz4 : ¬ x.size = 0 := by omega
          by_cases hk0 : k = 0
          · have HF3 : Hid (Nd.KeysOk (n.keys.take (k + 1))) := HF2.out ⟨⟨by omega, by omega⟩, fun y h => by omega⟩
            clear HF HF2
            have hk1 : ¬ (0 : Int) < (k : Int) := by omega
            have hd3 : decide ((0 : Int) < (k : Int)) = false := by rw [decide_eq_false_iff_not]; exact hk1
            have hk2 : ¬ 0 < k := by omega
            clear hk0
            go_wp2
            go_quiet (fail)
            go_wp2
            go_roundw
            case rel => exact ⟨k + 1, by omega, by go_num, HF3.out, below_drewN HBel.out _, HL.out.drewN_ _⟩
            case measure => simp [intOf]; omega
          · obtain ⟨j, rfl⟩ : ∃ j, k = j + 1 := ⟨k - 1, by omega⟩
            clear hk0
            obtain ⟨b2, o2, y, hA, hb2, hy, hdy, hcell2⟩ := HL.out.keys.str_ (k := j) (by omega)
            obtain ⟨rfl, rfl⟩ : b1 = b2 ∧ o1 = o2 := by simpa using hA
            have HY := Lib.hid hdy
            clear hA hy hdy hb2
            have hd3 : decide ((0 : Int) < ((j + 1 : Nat) : Int)) = true := by rw [decide_eq_true_eq]; omega
            have hj1 : ((j + 1 : Nat) : Int) - 1 = (j : Int) := by omega
            have hj2 : (0 : Int) < ((j + 1 : Nat) : Int) := by omega
            have hj3 : j < n.keys.length := by omega
            cases hb : Op.bytesLess y.toList x.toList
            · have HR : Hid (Nd.rightB n leaf inner = false) := HF.out fun h => by
                have h2 := h.2 y (by omega) (by simpa using HY.out)
                unfold Nd.bl at h2
                rw [hb] at h2
                cases h2
              clear HF HF2
              go_wp2
              go_quiet (fail)
              go_wp2
              go_ret
              refine ⟨?_, below_drewN HBel.out _⟩
              rw [HR.out]; rfl
            · have HF3 : Hid (Nd.KeysOk (n.keys.take (j + 1 + 1))) := HF2.out ⟨⟨by omega, by omega⟩, fun z _ hz => by
                have e : z = y := by
                  have h2 := HY.out
                  simp only [Nat.add_sub_cancel] at hz
                  rw [hz] at h2; exact Option.some.inj h2
                subst e; exact hb⟩
              clear HF HF2
              go_wp2
              go_quiet (fail)
              go_wp2
              go_roundw
              case rel => exact ⟨j + 1 + 1, by omega, by go_num, HF3.out, below_drewN HBel.out _, HL.out.drewN_ _⟩
              case measure => simp [intOf]; omega
    · have ek : k = n.keys.length := by omega
      subst ek
      have HG2 : Hid (Nd.KeysOk n.keys) := by have := HG.out; rwa [List.take_length] at this
      have HB0 := Lib.hid HBel.out
      have H0 := Lib.hid HL.out
      clear HG HL HBel
      go_wp2
      clear hlt hc1 hk
      go_loopw [8] (fun i wx => ∃ k : Nat, k ≤ n.vals.length ∧ i = .int .i64 k ∧ Hid (∀ v ∈ n.vals.take k, v.size ≤ 40) ∧ Hid (Below w.heap.size w wx) ∧ Hid (NdAt wx w.heap.size B n Ak ck Av cv Ai ci)) (fun i _ => n.vals.length - (intOf i).toNat)
      case atStart => exact ⟨0, by omega, rfl, by simp [Hid], HB0.out, H0.out⟩
      case round =>
        obtain ⟨k, hk, rfl, HG, HBel, HL⟩ := hrel
        clear H0 HB0
        have hc1 := HL.out.c2
        by_cases hlt : k < n.vals.length
        · obtain ⟨b1, o1, x, rfl, hb1, hx, hd, hcell⟩ := HL.out.vals.str_ hlt
          have HD := Lib.hid hd
          clear hd
          have hsz0 : x.size ≤ 9223372036854775807 := by simp only [maxLen] at hx; omega
          clear hx
          by_cases hz2 : 40 < x.size
          · have hz3 : (40 : Int) < (x.size : Int) := by omega
            have hd2 : decide ((40 : Int) < (x.size : Int)) = true := by rw [decide_eq_true_eq]; exact hz3
            have HR : Hid (Nd.rightB n leaf inner = false) := by
              unfold Hid Nd.rightB
              rw [decide_eq_false_iff_not]
              intro hr
              have := hr.2.1 x (List.mem_of_getElem? HD.out)
              omega
            go_wp2
            go_ret
            refine ⟨?_, HBel.out⟩
            rw [HR.out]; rfl
          · have hz3 : ¬ (40 : Int) < (x.size : Int) := by omega
            have hd2 : decide ((40 : Int) < (x.size : Int)) = false := by rw [decide_eq_false_iff_not]; exact hz3
            have HF3 := Lib.hid (Nd.all_succ (p := fun v => v.size ≤ 40) HG.out HD.out (by omega))
            go_wp2
            go_roundw
            case rel => exact ⟨k + 1, by omega, by go_num, HF3.out, HBel.out, HL.out⟩
            case measure => simp [intOf]; omega
        · have ek : k = n.vals.length := by omega
          subst ek
          have HV2 : Hid (∀ v ∈ n.vals, v.size ≤ 40) := by have := HG.out; rwa [List.take_length] at this
          have HB0 := Lib.hid HBel.out
          have H0 := Lib.hid HL.out
          clear HG HL HBel
          go_wp2
          clear hlt hc1 hk
          go_loopw [9] (fun i wx => ∃ k : Nat, k ≤ n.kids.length ∧ i = .int .i64 k ∧ Hid (∀ v ∈ n.kids.take k, 2 ≤ v ∧ v ≤ 65535) ∧ Hid (Below w.heap.size w wx) ∧ Hid (NdAt wx w.heap.size B n Ak ck Av cv Ai ci)) (fun i _ => n.kids.length - (intOf i).toNat)
          case atStart => exact ⟨0, by omega, rfl, by simp [Hid], HB0.out, H0.out⟩
          case round =>
            obtain ⟨k, hk, rfl, HG, HBel, HL⟩ := hrel
            clear H0 HB0
            have hc1 := HL.out.c3
            by_cases hlt : k < n.kids.length
            · obtain ⟨b1, o1, x, rfl, hb1, hx, hd, hcell⟩ := HL.out.kids.int_ hlt
              have HD := Lib.hid hd
              clear hd hx
              have HF : Hid (¬ (2 ≤ x ∧ x ≤ 65535) → Nd.rightB n leaf inner = false) := by
                intro h
                unfold Nd.rightB
                rw [decide_eq_false_iff_not]
                exact fun hr => h (hr.2.2.1 x (List.mem_of_getElem? HD.out))
              by_cases hz1 : x < 2
              · have HR : Hid (Nd.rightB n leaf inner = false) := HF.out (by omega)
                have hd1 : decide (x < 2) = true := by rw [decide_eq_true_eq]; exact hz1
                go_wp2
                go_ret
                refine ⟨?_, HBel.out⟩
                rw [HR.out]; rfl
              · have hd1 : decide (x < 2) = false := by rw [decide_eq_false_iff_not]; exact hz1
                by_cases hz2 : 65535 < x
                · have HR : Hid (Nd.rightB n leaf inner = false) := HF.out (by omega)
                  have hd2 : decide (65535 < x) = true := by rw [decide_eq_true_eq]; exact hz2
                  go_wp2
                  go_ret
                  refine ⟨?_, HBel.out⟩
                  rw [HR.out]; rfl
                · have hd2 : decide (65535 < x) = false := by rw [decide_eq_false_iff_not]; exact hz2
                  have HF3 := Lib.hid (Nd.all_succ (p := fun v : Int => 2 ≤ v ∧ v ≤ 65535) HG.out HD.out (by omega))
                  clear HF
                  go_wp2
                  go_roundw
                  case rel => exact ⟨k + 1, by omega, by go_num, HF3.out, HBel.out, HL.out⟩
                  case measure => simp [intOf]; omega
            · have ek : k = n.kids.length := by omega
              subst ek
              have HI2 : Hid (∀ v ∈ n.kids, 2 ≤ v ∧ v ≤ 65535) := by have := HG.out; rwa [List.take_length] at this
              have HRT : Hid (Nd.rightB n leaf inner = decide (Nd.Shape n leaf inner)) := by
                unfold Hid Nd.rightB
                rw [decide_eq_decide]
                exact ⟨fun h => h.2.2.2, fun h => ⟨HG2.out, HV2.out, HI2.out, h⟩⟩
              have hc0 := HL.out.c0
              have hc1 := HL.out.c1
              have hc2 := HL.out.c2
              have hc3 := HL.out.c3
              clear HG HG2 HV2 HI2
              by_cases hkd : n.kind = 1
              · have hkdi : (((n.kind : Nat) : Int) == 1) = true := by rw [beq_iff_eq]; omega
                by_cases a1 : n.keys.length ≤ leaf
                · have a1i : decide (((n.keys.length : Nat) : Int) ≤ (leaf : Nat)) = true := by rw [decide_eq_true_eq]; omega
                  have a1j : ((n.keys.length : Nat) : Int) ≤ (leaf : Nat) := by omega
                  by_cases a2 : n.vals.length = n.keys.length
                  · have a2i : (((n.vals.length : Nat) : Int) == (n.keys.length : Nat)) = true := by rw [beq_iff_eq]; omega
                    have a2j : decide (((n.vals.length : Nat) : Int) = (n.keys.length : Nat)) = true := by rw [decide_eq_true_eq]; omega
                    by_cases a3 : n.kids.length = 0
                    · have a3i : (((n.kids.length : Nat) : Int) == 0) = true := by rw [beq_iff_eq]; omega
                      have a3j : decide (((n.kids.length : Nat) : Int) = 0) = true := by rw [decide_eq_true_eq]; omega
                      have HS : Hid (decide (Nd.Shape n leaf inner) = true) := by unfold Hid; rw [decide_eq_true_eq]; unfold Nd.Shape; omega
                      go_wp2
                      go_ret
                      refine ⟨?_, HBel.out⟩
                      rw [HRT.out, HS.out]; rfl
                    · have a3i : (((n.kids.length : Nat) : Int) == 0) = false := by rw [beq_eq_false_iff_ne]; omega
                      have a3j : decide (((n.kids.length : Nat) : Int) = 0) = false := by rw [decide_eq_false_iff_not]; omega
                      have HS : Hid (decide (Nd.Shape n leaf inner) = false) := by unfold Hid; rw [decide_eq_false_iff_not]; unfold Nd.Shape; omega
                      go_wp2
                      go_ret
                      refine ⟨?_, HBel.out⟩
                      rw [HRT.out, HS.out]; rfl
                  · have a2i : (((n.vals.length : Nat) : Int) == (n.keys.length : Nat)) = false := by rw [beq_eq_false_iff_ne]; omega
                    have a2j : decide (((n.vals.length : Nat) : Int) = (n.keys.length : Nat)) = false := by rw [decide_eq_false_iff_not]; omega
                    have HS : Hid (decide (Nd.Shape n leaf inner) = false) := by unfold Hid; rw [decide_eq_false_iff_not]; unfold Nd.Shape; omega
                    go_wp2
                    go_ret
                    refine ⟨?_, HBel.out⟩
                    rw [HRT.out, HS.out]; rfl
                · have a1i : decide (((n.keys.length : Nat) : Int) ≤ (leaf : Nat)) = false := by rw [decide_eq_false_iff_not]; omega
                  have a1j : ¬ ((n.keys.length : Nat) : Int) ≤ (leaf : Nat) := by omega
                  have HS : Hid (decide (Nd.Shape n leaf inner) = false) := by unfold Hid; rw [decide_eq_false_iff_not]; unfold Nd.Shape; omega
                  go_wp2
                  go_ret
                  refine ⟨?_, HBel.out⟩
                  rw [HRT.out, HS.out]; rfl
              · have hkdi : (((n.kind : Nat) : Int) == 1) = false := by rw [beq_eq_false_iff_ne]; omega
                by_cases a0 : n.kind = 2
                · have a0i : (((n.kind : Nat) : Int) == 2) = true := by rw [beq_iff_eq]; omega
                  have a0j : decide (((n.kind : Nat) : Int) = 2) = true := by rw [decide_eq_true_eq]; omega
                  by_cases a1 : 1 ≤ n.keys.length
                  · have a1i : decide ((1 : Int) ≤ (n.keys.length : Nat)) = true := by rw [decide_eq_true_eq]; omega
                    have a1j : (1 : Int) ≤ (n.keys.length : Nat) := by omega
                    by_cases a2 : n.keys.length ≤ inner
                    · have a2i : decide (((n.keys.length : Nat) : Int) ≤ (inner : Nat)) = true := by rw [decide_eq_true_eq]; omega
                      have a2j : ((n.keys.length : Nat) : Int) ≤ (inner : Nat) := by omega
                      by_cases a3 : n.kids.length = n.keys.length + 1
                      · have a3i : (((n.kids.length : Nat) : Int) == (n.keys.length : Nat) + 1) = true := by rw [beq_iff_eq]; omega
                        have a3j : decide (((n.kids.length : Nat) : Int) = (n.keys.length : Nat) + 1) = true := by rw [decide_eq_true_eq]; omega
                        by_cases a4 : n.vals.length = 0
                        · have a4i : (((n.vals.length : Nat) : Int) == 0) = true := by rw [beq_iff_eq]; omega
                          have a4j : decide (((n.vals.length : Nat) : Int) = 0) = true := by rw [decide_eq_true_eq]; omega
                          have HS : Hid (decide (Nd.Shape n leaf inner) = true) := by unfold Hid; rw [decide_eq_true_eq]; unfold Nd.Shape; omega
                          go_wp2
                          go_ret
                          refine ⟨?_, HBel.out⟩
                          rw [HRT.out, HS.out]; rfl
                        · have a4i : (((n.vals.length : Nat) : Int) == 0) = false := by rw [beq_eq_false_iff_ne]; omega
                          have a4j : decide (((n.vals.length : Nat) : Int) = 0) = false := by rw [decide_eq_false_iff_not]; omega
                          have HS : Hid (decide (Nd.Shape n leaf inner) = false) := by unfold Hid; rw [decide_eq_false_iff_not]; unfold Nd.Shape; omega
                          go_wp2
                          go_ret
                          refine ⟨?_, HBel.out⟩
                          rw [HRT.out, HS.out]; rfl
                      · have a3i : (((n.kids.length : Nat) : Int) == (n.keys.length : Nat) + 1) = false := by rw [beq_eq_false_iff_ne]; omega
                        have a3j : decide (((n.kids.length : Nat) : Int) = (n.keys.length : Nat) + 1) = false := by rw [decide_eq_false_iff_not]; omega
                        have HS : Hid (decide (Nd.Shape n leaf inner) = false) := by unfold Hid; rw [decide_eq_false_iff_not]; unfold Nd.Shape; omega
                        go_wp2
                        go_ret
                        refine ⟨?_, HBel.out⟩
                        rw [HRT.out, HS.out]; rfl
                    · have a2i : decide (((n.keys.length : Nat) : Int) ≤ (inner : Nat)) = false := by rw [decide_eq_false_iff_not]; omega
                      have a2j : ¬ ((n.keys.length : Nat) : Int) ≤ (inner : Nat) := by omega
                      have HS : Hid (decide (Nd.Shape n leaf inner) = false) := by unfold Hid; rw [decide_eq_false_iff_not]; unfold Nd.Shape; omega
                      go_wp2
                      go_ret
                      refine ⟨?_, HBel.out⟩
                      rw [HRT.out, HS.out]; rfl
                  · have a1i : decide ((1 : Int) ≤ (n.keys.length : Nat)) = false := by rw [decide_eq_false_iff_not]; omega
                    have a1j : ¬ (1 : Int) ≤ (n.keys.length : Nat) := by omega
                    have HS : Hid (decide (Nd.Shape n leaf inner) = false) := by unfold Hid; rw [decide_eq_false_iff_not]; unfold Nd.Shape; omega
                    go_wp2
                    go_ret
                    refine ⟨?_, HBel.out⟩
                    rw [HRT.out, HS.out]; rfl
                · have a0i : (((n.kind : Nat) : Int) == 2) = false := by rw [beq_eq_false_iff_ne]; omega
                  have a0j : decide (((n.kind : Nat) : Int) = 2) = false := by rw [decide_eq_false_iff_not]; omega
                  have HS : Hid (decide (Nd.Shape n leaf inner) = false) := by unfold Hid; rw [decide_eq_false_iff_not]; unfold Nd.Shape; omega
                  go_wp2
                  go_ret
                  refine ⟨?_, HBel.out⟩
                  rw [HRT.out, HS.out]; rfl
end Go.Proofs.Ytlefkaoibokjdaa
