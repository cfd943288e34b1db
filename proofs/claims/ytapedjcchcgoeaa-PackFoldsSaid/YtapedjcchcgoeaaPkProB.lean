/-
  pack: differences.
-/
import Derived.Test.YtapedjcchcgoeaaPkProA
import Derived.Test.YtapedjcchcgoeaaPkDif
import Derived.Test.YtapedjcchcgoeaaLAns
import Derived.BigRegion
namespace Go.Proofs.Ytapedjcchcgoeaa
open Go.RowKit
set_option linter.unusedVariables false
set_option maxHeartbeats 2000000 in
set_option maxRecDepth 100000 in
theorem pdif_any (v : Value) (l : List Int) (B : Nat) (w : World) (hB : B ≤ w.heap.size) (h : Lv iK w B v l) :
    Calls Try.prog 27 #[v] w (IsLE wK (Pk.difE l) w) := by
  have H0 := Lib.hid h
  obtain ⟨A, c, rfl, hc1, hc2, _, _⟩ := h
  have hl : l.length ≤ 9223372036854775807 := by simp only [maxLen] at hc2; omega
  by_cases hbig : 65536 < l.length
  · have hbi : (65536 : Int) < (l.length : Int) := by omega
    have HE : Hid (Pk.difE l = ([], 3)) := if_pos hbig
    clear hbig hc1 hc2
    go_enter Try.func27, Try.ntmps27
    go_wp2
    go_ret2
    exact IsLE.none_b HE.out rfl (Below.refl _ _)
  · have hbi : ¬ (65536 : Int) < (l.length : Int) := by omega
    have HPE : Hid (Pk.difE l = if ∀ t ∈ l, Pk.Tok t then (Pk.dif 0 l, 0) else ([], 2)) := if_neg hbig
    clear hc1 hc2
    go_enter Try.func27, Try.ntmps27
    go_wp2_with (at_make; go_must (refine wpList_make_l _ wK rfl _ _ rfl w.heap.size .i64 .i64 _ _ 0 l.length rfl rfl rfl rfl (Nat.zero_le _) (by show 8 * _ ≤ _; omega) (by simp only [maxLen]; omega) (Nat.le_refl _) ?_; intro w1 hO hG))
    have HO : Hid (OwnL wK w1 w.heap.size (.slice (some ⟨w.heap.size, 0, none⟩) 0 l.length) []) := hO
    have HB : Hid (Below w.heap.size w w1) := (Below.refl _ _).grown hG (Nat.le_refl _) (by intro k hk; cases hk)
    clear hO hG
    go_loopw [4, 5, 7, 16] (fun u ws tk i wr => ∃ (k : Nat) (y : List Nat) (was : Int), k ≤ l.length ∧ i = .int .i64 (k : Nat) ∧ ws = .int .i64 was ∧ Hid (was = (l.take k).getLastD 0 ∧ Pk.Tok was ∧ ∀ t ∈ l.take k, Pk.Tok t) ∧ Hid (OwnL wK wr w.heap.size u y) ∧ Hid (y = Pk.dif 0 (l.take k)) ∧ Below w.heap.size w wr) (fun _ _ _ i _ => l.length - (intOf i).toNat)
    case atStart => exact ⟨0, [], 0, by omega, rfl, rfl, ⟨rfl, by unfold Pk.Tok; omega, by simp⟩, HO.out, by simp [Hid, Pk.dif], HB.out⟩
    case round =>
      obtain ⟨k, y, was, hk, rfl, rfl, HT, HY, HE, hbr⟩ := hrel
      have hbase : w.heap.size ≤ wr.heap.size := hbr.size
      clear HO HB
      by_cases hlt : k < l.length
      · have hki : (k : Int) < (l.length : Int) := by omega
        have hk0 : (0 : Int) ≤ (k : Int) := by omega
        have wk : IntKind.i64.wrap ((k : Int) + 1) = (k : Int) + 1 := by rw [IntKind.wrap_i64]; omega
        obtain ⟨b, off, x, rfl, hb, hx, hq, hcell0⟩ := H0.out.int_ hlt
        have DX0 : Hid (∀ w', Below w.heap.size w w' → w'.cell? ⟨b, off + k, none⟩ = some (.int .i64 x)) := fun w' hb' => (hb'.cell (p := ⟨b, off + k, none⟩) (by show b < _; omega)).trans hcell0
        have hcell := DX0.out wr hbr
        clear hcell0
        by_cases htk : Pk.Tok x
        · have hx0 : ¬ x < 0 := by unfold Pk.Tok at htk; omega
          have hx1 : ¬ 1048575 < x := by unfold Pk.Tok at htk; omega
          have hwt := HT.out.2.1
          have hf := Pk.fold_tok htk hwt
          have wsb : IntKind.i64.wrap (x - was) = x - was := by unfold Pk.Tok at htk hwt; rw [IntKind.wrap_i64]; omega
          have HF := Lib.hid (pfold_any (x - was) (by unfold Pk.Tok at htk hwt; unfold I64; omega) wr)
          have HT2 : Hid (x = (l.take (k + 1)).getLastD 0 ∧ Pk.Tok x ∧ ∀ t ∈ l.take (k + 1), Pk.Tok t) := by
            unfold Hid
            rw [Pk.take_more hq]
            refine ⟨(Pk.getLastD_snoc _ _ _).symm, htk, fun t ht => ?_⟩
            rcases List.mem_append.1 ht with h | h
            · exact HT.out.2.2 t h
            · rw [List.mem_singleton.1 h]; exact htk
          have HE2 : Hid (y ++ [Pk.fold (x - was)] = Pk.dif 0 (l.take (k + 1))) := by
            unfold Hid
            rw [Pk.dif_more hq, HE.out, ← HT.out.1]
          have hyl : y.length = k := by
            rw [HE.out, Pk.dif_len, List.length_take]
            omega
          have HKx : Hid (U64 (Pk.fold (x - was))) := by unfold Hid U64; omega
          have HYL := Lib.hid hyl
          clear hq hb hx htk hwt hf HT HE hyl
          go_wp2_with fail
          ((with_reducible refine HF.out.mono ?_); rintro e w2 ⟨rfl, rfl⟩)
          go_wp2_with (at_builtin; go_must (refine wpList_push_l _ wK rfl _ _ rfl w.heap.size _ rfl y HY.out rfl (Pk.fold (x - was)) HKx.out _ rfl _ rfl (by have := HYL.out; show _ * 8 ≤ _; omega) (by have := HYL.out; simp only [maxLen]; omega) hbase ?_; intro A3 c3 w5 hA hG; have dz : w5.cell? ⟨b, off + k, none⟩ = some (.int .i64 x) := DX0.out w5 (hbr.grown hG hbase (fun k hk => (HY.out.lt_ k hk).1))))
          go_roundw
          case rel => exact ⟨k + 1, y ++ [Pk.fold (x - was)], x, by omega, by go_num, rfl, HT2.out, hA, HE2.out, hbr.grown hG hbase (fun k hk => (HY.out.lt_ k hk).1)⟩
          case measure => simp [intOf]; omega
        · have HEE : Hid (Pk.difE l = ([], 2)) := by
            unfold Hid
            rw [HPE.out, if_neg (fun h => htk (h x (List.mem_of_getElem? hq)))]
          by_cases hx0 : x < 0
          · clear hq hb hx htk HT HE HPE
            go_wp2
            go_ret2
            exact IsLE.none_b HEE.out rfl hbr
          · have hx1 : 1048575 < x := by unfold Pk.Tok at htk; omega
            clear hq hb hx htk HT HE HPE
            go_wp2
            go_ret2
            exact IsLE.none_b HEE.out rfl hbr
      · have hki : ¬ (k : Int) < (l.length : Int) := by omega
        have hkk : k = l.length := by omega
        have HEE : Hid (Pk.difE l = (y, 0)) := by
          unfold Hid
          have ht : l.take k = l := by rw [hkk, List.take_length]
          rw [HPE.out, HE.out]
          have h2 := HT.out.2.2
          rw [ht] at h2 ⊢
          rw [if_pos h2]
        obtain ⟨A2, c2, ev, _⟩ := HY.out.form_
        clear HE HT HPE
        subst ev
        go_wp2
        go_ret2
        exact IsLE.of HEE.out rfl rfl HY.out hbr
end Go.Proofs.Ytapedjcchcgoeaa
