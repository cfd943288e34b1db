/-
  stookref12.Put.
-/
import Derived.Test.YtapedjcchcgoeaaRPkA
import Derived.Test.YtapedjcchcgoeaaRPut
import Derived.Test.YtapedjcchcgoeaaAppS
import Derived.BigRegion
namespace Go.Proofs.Ytapedjcchcgoeaa
open Go.RowKit
set_option linter.unusedVariables false
/-- A call that answers bytes, in new memory, and an error. -/
def IsPB (r : List Nat × Nat) (w : World) (e : Ending) (w' : World) : Prop :=
  ∃ A c, e = .returned (.tuple #[.slice A r.1.length c, .int .i64 (r.2 : Nat)]) ∧ OwnB w' w.heap.size (.slice A r.1.length c) r.1 ∧ Below w.heap.size w w'
theorem IsPB.none_b {w w' : World} {r : List Nat × Nat} {e : Nat} {x : Int} (h : r = ([], e)) (hx : x = (e : Nat)) (hb : Below w.heap.size w w') : IsPB r w (.returned (.tuple #[.slice none 0 0, .int .i64 x])) w' := by
  subst h hx; exact ⟨none, 0, rfl, OwnB.nil_ _ _, hb⟩
theorem IsPB.of {w w' : World} {r : List Nat × Nat} {y : List Nat} {v : Value} {x : Int} (h : r = (y, 0)) (hx : x = 0) (ho : OwnB w' w.heap.size v y) (hb : Below w.heap.size w w') : IsPB r w (.returned (.tuple #[v, .int .i64 x])) w' := by
  subst h hx
  obtain ⟨A, c, e, _⟩ := ho.form_
  subst e
  exact ⟨A, c, rfl, ho, hb⟩

set_option maxHeartbeats 2000000 in
set_option maxRecDepth 100000 in
theorem rpput_any (v : Value) (l : List Int) (B : Nat) (w : World) (hB : B ≤ w.heap.size) (h : Lv iK w B v l) :
    Calls Try.prog 16 #[v] w (IsPB (Pk.putE l) w) := by
  have H0 := Lib.hid h
  obtain ⟨A, c, rfl, hc1, hc2, _, _⟩ := h
  have hl : l.length ≤ 9223372036854775807 := by simp only [maxLen] at hc2; omega
  by_cases hbig : 65536 < l.length
  · have hbi : (65536 : Int) < (l.length : Int) := by omega
    have HE : Hid (Pk.putE l = ([], 3)) := if_pos hbig
    clear hbig hc1 hc2
    go_enter Try.func16, Try.ntmps16
    go_wp2
    go_ret2
    exact IsPB.none_b HE.out rfl (Below.refl _ _)
  · have hbi : ¬ (65536 : Int) < (l.length : Int) := by omega
    have HPE : Hid (Pk.putE l = if ∀ t ∈ l, Pk.Tok t then (Mt.put l.length ++ Pk.bytes 0 l, 0) else ([], 2)) := if_neg hbig
    have HP := Lib.hid (rput_any 9 l.length w (by omega) (by unfold Mt.B64; omega))
    have hlen := Mt.put_len_le l.length
    have HW : Hid (IntKind.u64.wrap (l.length : Int) = (l.length : Int)) := by unfold Hid; rw [IntKind.wrap_u64]; omega
    clear hc1 hc2
    go_enter Try.func16, Try.ntmps16
    go_wp2_with fail
    try rw [HW.out]
    ((with_reducible refine HP.out.mono ?_); rintro e w1 ⟨A1, c1, rfl, ho, hb1⟩)
    have HO := Lib.hid ho
    have HB := Lib.hid hb1
    clear ho hb1 HP HW
    go_wp2_with fail
    go_loopw [4, 5, 6, 7] (fun u ws i _ wr => ∃ (k : Nat) (y : List Nat) (was : Int), k ≤ l.length ∧ i = .int .i64 (k : Nat) ∧ ws = .int .i64 was ∧ Hid (was = (l.take k).getLastD 0 ∧ Pk.Tok was ∧ ∀ t ∈ l.take k, Pk.Tok t) ∧ Hid (OwnB wr w.heap.size u y) ∧ Hid (y = Mt.put l.length ++ Pk.bytes 0 (l.take k)) ∧ Below w.heap.size w wr) (fun _ _ i _ _ => l.length - (intOf i).toNat)
    case atStart => exact ⟨0, Mt.put l.length, 0, by omega, rfl, rfl, ⟨rfl, by unfold Pk.Tok; omega, by simp⟩, HO.out, by simp [Hid, Pk.bytes], HB.out⟩
    case round =>
      obtain ⟨k, y, was, hk, rfl, rfl, HT, HY, HE, hbr⟩ := hrel
      have hbase : w.heap.size ≤ wr.heap.size := hbr.size
      clear HO HB
      by_cases hlt : k < l.length
      · have hki : (k : Int) < (l.length : Int) := by omega
        have hk0 : (0 : Int) ≤ (k : Int) := by omega
        have wk : IntKind.i64.wrap ((k : Int) + 1) = (k : Int) + 1 := by rw [IntKind.wrap_i64]; omega
        obtain ⟨b, off, x, rfl, hb, hx, hq, hcell0⟩ := H0.out.int_ hlt
        have DX0 : Hid (∀ w', Below w.heap.size w w' → w'.cell? ⟨b, off + k, none⟩ = some (.int .i64 x)) := fun w' hb' => (hb'.cell (p := ⟨b, off + k, none⟩) (by show b < _; omega)).trans hcell0
        have hcell := DX0.out wr hbr
        clear hcell0
        by_cases htk : Pk.Tok x
        · have hx0 : ¬ x < 0 := by unfold Pk.Tok at htk; omega
          have hx1 : ¬ 1048575 < x := by unfold Pk.Tok at htk; omega
          have hwt := HT.out.2.1
          have hf := Pk.fold_tok htk hwt
          have wsb : IntKind.i64.wrap (x - was) = x - was := by unfold Pk.Tok at htk hwt; rw [IntKind.wrap_i64]; omega
          have DX : Hid (∀ w', Below w.heap.size w w' → w'.cell? ⟨b, off + k, none⟩ = some (.int .i64 x)) := fun w' hb' => DX0.out w' hb'
          have HF := Lib.hid (rfold_any (x - was) (by unfold Pk.Tok at htk hwt; unfold I64; omega) wr)
          have HX := Lib.hid (rput_any 9 (Pk.fold (x - was)) wr (by omega) (by unfold Mt.B64; omega))
          have hxl := Mt.put_len_le (Pk.fold (x - was))
          have HT2 : Hid (x = (l.take (k + 1)).getLastD 0 ∧ Pk.Tok x ∧ ∀ t ∈ l.take (k + 1), Pk.Tok t) := by
            unfold Hid
            rw [Pk.take_more hq]
            refine ⟨(Pk.getLastD_snoc _ _ _).symm, htk, fun t ht => ?_⟩
            rcases List.mem_append.1 ht with h | h
            · exact HT.out.2.2 t h
            · rw [List.mem_singleton.1 h]; exact htk
          have HE2 : Hid (y ++ Mt.put (Pk.fold (x - was)) = Mt.put l.length ++ Pk.bytes 0 (l.take (k + 1))) := by
            unfold Hid
            rw [Pk.bytes_more hq, HE.out, ← HT.out.1, List.append_assoc]
          have hyl : y.length ≤ 10 + 10 * k := by
            have h1 := Pk.bytes_len (l.take k) 0
            have h2 : (l.take k).length ≤ k := List.length_take_le _ _
            rw [HE.out, List.length_append]
            omega
          clear hq hb hx htk hwt hf HT HE
          go_wp2_with fail
          ((with_reducible refine HF.out.mono ?_); rintro e w2 ⟨rfl, rfl⟩)
          go_wp2_with fail
          ((with_reducible refine HX.out.mono ?_); rintro e w3 ⟨A2, c2, rfl, ho2, hb2⟩)
          have HY2 := Lib.hid (HY.out.below_ hb2 (Nat.le_refl _))
          have HS := Lib.hid ho2.form_
          have hbr2 := hbr.trans (hb2.mono hbase)
          have hbase2 : w.heap.size ≤ w3.heap.size := hbr2.size
          clear ho2 hb2 HY HX HF hbr
          have dx : w3.cell? ⟨b, off + k, none⟩ = some (.int .i64 x) := DX.out w3 hbr2
          go_wp2_with (at_builtin; go_must (refine wpList_append_bytes _ rfl _ _ rfl rfl w.heap.size _ rfl y HY2.out _ rfl _ (Mt.put (Pk.fold (x - was))) HS.out (by omega) hbase2 ?_; intro A3 c3 w4 hA; have dz : w4.cell? ⟨b, off + k, none⟩ = some (.int .i64 x) := DX.out w4 (hbr2.grown hA.grown hbase2 (fun k hk => (HY2.out.lt_ k hk).1))))
          go_roundw
          case rel => exact ⟨k + 1, y ++ Mt.put (Pk.fold (x - was)), x, by omega, by go_num, rfl, HT2.out, (by simpa [Hid] using hA.own), HE2.out, hbr2.grown hA.grown hbase2 (fun k hk => (HY2.out.lt_ k hk).1)⟩
          case measure => simp [intOf]; omega
        · have HEE : Hid (Pk.putE l = ([], 2)) := by
            unfold Hid
            rw [HPE.out, if_neg (fun h => htk (h x (List.mem_of_getElem? hq)))]
          by_cases hx0 : x < 0
          · clear hq hb hx htk HT HE HPE
            go_wp2
            go_ret2
            exact IsPB.none_b HEE.out rfl hbr
          · have hx1 : 1048575 < x := by unfold Pk.Tok at htk; omega
            clear hq hb hx htk HT HE HPE
            go_wp2
            go_ret2
            exact IsPB.none_b HEE.out rfl hbr
      · have hki : ¬ (k : Int) < (l.length : Int) := by omega
        have hkk : k = l.length := by omega
        have HEE : Hid (Pk.putE l = (y, 0)) := by
          unfold Hid
          have ht : l.take k = l := by rw [hkk, List.take_length]
          rw [HPE.out, HE.out]
          have h2 := HT.out.2.2
          rw [ht] at h2 ⊢
          rw [if_pos h2]
        clear HE HT HPE
        go_wp2
        go_ret2
        exact IsPB.of HEE.out rfl HY.out hbr
end Go.Proofs.Ytapedjcchcgoeaa
