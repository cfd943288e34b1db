/-
  BpLaw: stooklaw10.works.
  FrameV: From what a row says of a vocabulary (api.Vocab by value) to a list of pieces.
-/
import Derived.Test.YtaedhccmdbodlaaPk27
import Derived.Test.YtaedhccmdbodlaaPk28
import Derived.Lib.SlBytesConst
import Derived.Test.YtaedhccmdbodlaaPk11
import Derived.Test.YtaedhccmdbodlaaPk02
namespace Go.Proofs.Ytaedhccmdbodlaa
open Go.RowKit
set_option linter.unusedVariables false

namespace Bp
open Vo (ex)
theorem enc_ex : encE ex [97, 98, 99, 97, 98] = ([257, 256], 0) := by
  unfold encE
  rw [if_pos Vo.may_ex, if_neg (by decide)]
  have h : enc ex [97, 98, 99, 97, 98] = [257, 256] := by decide +kernel
  rw [h]
theorem dec_ex : decE ex [257, 256] = ([97, 98, 99, 97, 98], 0) := by
  have h : enc ex [97, 98, 99, 97, 98] = [257, 256] := by decide +kernel
  have hok : ∀ q ∈ ex, q.byte < 256 := by decide +kernel
  have := dec_enc Vo.may_ex hok (b := [97, 98, 99, 97, 98]) (by decide) (by decide)
  rwa [h] at this
end Bp
/-- The bytes of a constant. -/
theorem const_lv (w : World) (l : List Nat) (hl : ∀ x ∈ l, x < 256) (hm : l.length ≤ maxLen) (cs : Array Value) (hcs : cs = (yK.flat l).toArray) (n : Nat) (hn : n = l.length) (t : TypeId) (f : Nat × Nat) :
    Lv yK (w.alloc (.cells cs t f)) (w.heap.size + 1) (.slice (some ⟨w.heap.size, 0, none⟩) n n) l := by
  subst hn hcs
  refine ⟨_, _, rfl, Nat.le_refl _, hm, by simp, hl, fun _ => ⟨w.heap.size, 0, rfl, by omega, fun j u hj => ?_⟩⟩
  rw [Nat.zero_add, World.cell?_alloc_mark, List.getElem?_toArray]
  exact hj

set_option maxRecDepth 100000 in
set_option maxHeartbeats 4000000 in
theorem works_bp (w : World) : Calls Try.prog 14 #[] w (IsBool true w) := by
  have HP := Lib.hid (rplain_any w)
  go_enter Try.func14, Try.ntmps14
  go_wp2_with (fail)
  refine (HP.out).mono ?_
  rintro e w1 ⟨A, c, rfl, ho, hb⟩
  rw [Vo.plain_len] at ho ⊢
  have hb1 := hb.size
  obtain ⟨W1, hW1⟩ : ∃ W1, w1.alloc (.cells #[.slice A 256 c] 24) = W1 := ⟨_, rfl⟩
  obtain ⟨hc1, hs1, hbx⟩ := boxed hW1
  have hh1 : W1.heap[w1.heap.size]? = some (.cells #[.slice A 256 c] 24 (0, 0)) := by rw [← hW1]; exact heap_alloc_new w1 _
  have HO1 : Hid (OwnL pK W1 w.heap.size (.slice A 256 c) (Vo.plain 256)) := by unfold Hid; rw [← hW1]; exact ho.alloc_ _
  have HLT : Hid (∀ k, (Value.slice A 256 c).ownBlock = some k → k < w1.heap.size) := fun k hk => (ho.lt_ k hk).2
  have HB1 := Lib.hid (hb.trans (hbx.mono hb1))
  have HH1 := Lib.hid hh1
  have hbase : w.heap.size ≤ W1.heap.size := by omega
  have HL : Hid ((Vo.plain 256).length = 256) := Vo.plain_len 256
  have HKA : Hid (PcOk Vo.jA) := by simp [Hid, PcOk, Vo.jA, I64]
  have HKB : Hid (PcOk Vo.jB) := by simp [Hid, PcOk, Vo.jB, I64]
  clear ho hb hbx HP hh1
  have HAP3 : Hid (∀ k, (Value.slice A 256 c).ownBlock = some k → k ≠ w1.heap.size) := fun k hk e => by have := HLT.out k hk; omega
  go_wp2_with (at_builtin; go_must (refine wpList_push_m _ pK rfl _ _ rfl w.heap.size _ rfl (Vo.plain 256) HO1.out (by rw [hs1]; rfl) Vo.jA HKA.out _ rfl _ rfl (by rw [HL.out]; show _ * 32 ≤ _; omega) (by rw [HL.out]; simp only [maxLen]; omega) hbase ?_))
  intro A3 c3 w3 hA hG hM
  rw [HL.out] at hA hM ⊢
  have hh := (hG.block w1.heap.size (by omega) (fun e => (HAP3.out _ e.symm) rfl)).trans HH1.out
  have hcb : w3.cell? ⟨w1.heap.size, 0, none⟩ = some (.slice A 256 c) := by rw [cell_of_row _ _ 0 _ _ _ hh]; rfl
  have hfb : w3.frozen? ⟨w1.heap.size, 0, none⟩ = false := frozen_of_row w3 _ 0 _ _ hh
  obtain ⟨V3, hV3⟩ : ∃ V, w3.setCell ⟨w1.heap.size, 0, none⟩ (.slice A3 257 c3) = V := ⟨_, rfl⟩
  have hh' := heap_setCell_same w3 w1.heap.size 0 _ _ (.slice A3 257 c3) hh
  rw [hV3] at hh'
  have hcv3 : V3.cell? ⟨w1.heap.size, 0, none⟩ = some (.slice A3 257 c3) := by rw [cell_of_row _ _ 0 _ _ _ hh']; rfl
  have hap : ∀ k, (Value.slice A3 257 c3).ownBlock = some k → k ≠ w1.heap.size := fun k hk e => by
    rcases hM k hk with h | h
    · exact HAP3.out k h e
    · omega
  have HOV3 : Hid (OwnL pK V3 w.heap.size (.slice A3 257 c3) (Vo.plain 256 ++ [Vo.jA])) := by unfold Hid; rw [← hV3]; exact hA.of_block (fun k hk => heap_setCell_other _ _ _ _ (fun e => hap k hk e))
  have HHV3 := Lib.hid hh'
  have HBV3 : Hid (Below w.heap.size w V3) := by unfold Hid; rw [← hV3]; exact (HB1.out.grown hG hbase (fun k hk => (HO1.out.lt_ k hk).1)).setCell (p := ⟨w1.heap.size, 0, none⟩) hb1 _
  have hzV3 : w1.heap.size + 1 ≤ V3.heap.size := by rw [← hV3]; have := hG.size; simp; omega
  have HAPV3 := Lib.hid hap
  have hbase3 : w.heap.size ≤ V3.heap.size := by omega
  clear hA hG hM hh hh' hap
  obtain ⟨L4, hL4⟩ : ∃ L, Vo.plain 256 ++ [Vo.jA] = L := ⟨_, rfl⟩
  have HL4 : Hid (L4.length = 257) := by unfold Hid; rw [← hL4]; exact Vo.len_A
  have HEX : Hid (L4 ++ [Vo.jB] = Vo.ex) := by unfold Hid; rw [← hL4]; rfl
  rw [hL4] at HOV3
  clear hL4
  have HAP4 := HAPV3
  clear HAP3 HAPV3 HH1 hs1 hc1 HO1 HB1 HLT
  go_wp2_with (at_builtin; go_must (refine wpList_push_m _ pK rfl _ _ rfl w.heap.size _ rfl (L4) HOV3.out rfl Vo.jB HKB.out _ rfl _ rfl (by rw [HL4.out]; show _ * 32 ≤ _; omega) (by rw [HL4.out]; simp only [maxLen]; omega) hbase3 ?_))
  intro A4 c4 w4 hA hG hM
  rw [HL4.out] at hA hM ⊢
  have hh := (hG.block w1.heap.size (by omega) (fun e => (HAP4.out _ e.symm) rfl)).trans HHV3.out
  have hcb : w4.cell? ⟨w1.heap.size, 0, none⟩ = some (.slice A3 257 c3) := by rw [cell_of_row _ _ 0 _ _ _ hh]; rfl
  have hfb : w4.frozen? ⟨w1.heap.size, 0, none⟩ = false := frozen_of_row w4 _ 0 _ _ hh
  obtain ⟨V4, hV4⟩ : ∃ V, w4.setCell ⟨w1.heap.size, 0, none⟩ (.slice A4 258 c4) = V := ⟨_, rfl⟩
  have hh' := heap_setCell_same w4 w1.heap.size 0 _ _ (.slice A4 258 c4) hh
  rw [hV4] at hh'
  have hcv4 : V4.cell? ⟨w1.heap.size, 0, none⟩ = some (.slice A4 258 c4) := by rw [cell_of_row _ _ 0 _ _ _ hh']; rfl
  have hap : ∀ k, (Value.slice A4 258 c4).ownBlock = some k → k ≠ w1.heap.size := fun k hk e => by
    rcases hM k hk with h | h
    · exact HAP4.out k h e
    · omega
  have HOV4 : Hid (OwnL pK V4 w.heap.size (.slice A4 258 c4) (L4 ++ [Vo.jB])) := by unfold Hid; rw [← hV4]; exact hA.of_block (fun k hk => heap_setCell_other _ _ _ _ (fun e => hap k hk e))
  have HHV4 := Lib.hid hh'
  have HBV4 : Hid (Below w.heap.size w V4) := by unfold Hid; rw [← hV4]; exact (HBV3.out.grown hG hbase3 (fun k hk => (HOV3.out.lt_ k hk).1)).setCell (p := ⟨w1.heap.size, 0, none⟩) hb1 _
  have hzV4 : w1.heap.size + 1 ≤ V4.heap.size := by rw [← hV4]; have := hG.size; simp; omega
  have HAPV4 := Lib.hid hap
  have hbase4 : w.heap.size ≤ V4.heap.size := by omega
  clear hA hG hM hh hh' hap
  rw [HEX.out] at HOV4
  have kc := Lib.run_convert_bytes_const (P := Try.prog) V4 25 5 #[.int .u8 97, .int .u8 98, .int .u8 99, .int .u8 97, .int .u8 98] 5 5 Try.underlying25 Try.underlying5
  have hz1 := const_lv V4 [97, 98, 99, 97, 98] (by decide) (by decide) _ rfl 5 rfl 5 (5, 6)
  have hzb : Below V4.heap.size V4 (V4.alloc (.cells #[.int .u8 97, .int .u8 98, .int .u8 99, .int .u8 97, .int .u8 98] 5 (5, 6))) := (Below.refl _ _).alloc (Nat.le_refl _) _
  obtain ⟨Z, hZ⟩ : ∃ Z, V4.alloc (.cells #[.int .u8 97, .int .u8 98, .int .u8 99, .int .u8 97, .int .u8 98] 5 (5, 6)) = Z := ⟨_, rfl⟩
  change Lv yK (V4.alloc (.cells #[.int .u8 97, .int .u8 98, .int .u8 99, .int .u8 97, .int .u8 98] 5 (5, 6))) _ _ _ at hz1
  rw [hZ] at hz1 hzb
  change _ = Result.ok _ (V4.alloc (.cells #[.int .u8 97, .int .u8 98, .int .u8 99, .int .u8 97, .int .u8 98] 5 (5, 6))) at kc
  rw [hZ] at kc
  have hzs : Z.heap.size = V4.heap.size + 1 := by rw [← hZ]; simp
  have HOZ := Lib.hid (HOV4.out.below_ hzb (Nat.le_refl _))
  have HE := Lib.hid (pencode_any Vo.ex _ [97, 98, 99, 97, 98] _ Z.heap.size Z HOZ.out.form_ (hz1.mono_ (by omega)) (Nat.le_refl _) (by rw [Vo.len_ex]; omega) (.inl (by decide)))
  rw [Bp.enc_ex] at HE
  have HBZ : Hid (Below w.heap.size w Z) := HBV4.out.trans (hzb.mono HBV4.out.size)
  have hcz := (hzb.cell (p := ⟨w1.heap.size, 0, none⟩) (by show w1.heap.size < _; omega)).trans hcv4
  have hz5 : w1.heap.size < Z.heap.size := by omega
  clear hz1 hzb HOV3 HOV4 HHV3 HHV4 HAPV4 HAP4 hcv3 HBV3 HBV4 hzs
  go_wp2_with (fail)
  refine (HE.out).mono ?_
  rintro e w5 ⟨A5, c5, rfl, ho5, hb5⟩
  have HO5 := Lib.hid ho5.form_
  have HB5 := Lib.hid (HBZ.out.trans (hb5.mono HBZ.out.size))
  have HP5 := Lib.hid (HOZ.out.below_ hb5 (Nat.le_refl _))
  have hcw5 := (hb5.cell (p := ⟨w1.heap.size, 0, none⟩) (by show w1.heap.size < _; omega)).trans hcz
  have k2 : ∀ x ∈ [(257 : Int), 256], iK.ok x := fun x hx => by
    simp at hx
    rcases hx with rfl | rfl <;> (show I64 _; simp [I64])
  have hs5 : Z.heap.size ≤ w5.heap.size := hb5.size
  have hla := Lv.build_ iK w5 [257, 256] k2 (by simp [maxLen]) 2 rfl _ rfl _ rfl
  have hab := (Below.refl w5.heap.size w5).alloc (Nat.le_refl _) (.cells #[.int .i64 257, .int .i64 256] 3)
  obtain ⟨Y, hY⟩ : ∃ Y, w5.alloc (.cells #[.int .i64 257, .int .i64 256] 3) = Y := ⟨_, rfl⟩
  change Lv iK (w5.alloc (.cells #[.int .i64 257, .int .i64 256] 3)) _ _ _ at hla
  rw [hY] at hla hab
  have hys : Y.heap.size = w5.heap.size + 1 := by rw [← hY]; simp
  have HPY := Lib.hid (HP5.out.below_ hab (Nat.le_refl _))
  have HBY := Lib.hid (HB5.out.trans (hab.mono HB5.out.size))
  have HOY := Lib.hid (HO5.out.below_ hab (Nat.le_refl _))
  have hcy := (hab.cell (p := ⟨w1.heap.size, 0, none⟩) (by show w1.heap.size < _; omega)).trans hcw5
  have HD := Lib.hid (pdecode_any Vo.ex _ [257, 256] _ Y.heap.size Y HPY.out.form_ (hla.mono_ (by omega)) (Nat.le_refl _) (by rw [Vo.len_ex]; omega) (.inl (by decide)))
  rw [Bp.dec_ex] at HD
  have HK2 := Lib.hid k2
  have HYS := Lib.hid hys
  clear ho5 hb5 HE HOZ HBZ hcv4 kc hZ HO5 HB5 HP5 hla hab k2 hys
  go_wp2_with (fail)
  refine (HD.out).mono ?_
  rintro e w6 ⟨A6, c6, rfl, ho6, hb6⟩
  have HO6 : Hid (Lv yK w6 w6.heap.size (.slice A6 5 c6) [97, 98, 99, 97, 98]) := ho6.form_
  have hy6 := hb6.size
  have HL6 : Hid (Lv iK w6 w5.heap.size (.slice A5 2 c5) [257, 256]) := HOY.out.below_ hb6 (by have := HYS.out; omega)
  have HB6 := Lib.hid (HBY.out.trans (hb6.mono HBY.out.size))
  have ha7 := (Below.refl w6.heap.size w6).alloc (Nat.le_refl _) (.cells #[.int .i64 257, .int .i64 256] 3)
  have htx : strOfNums ([97, 98, 99, 97, 98].map (fun x : Nat => (x : Int))) = { data := #[97, 98, 99, 97, 98] } := by decide
  have hla := Lv.build_ iK w6 [257, 256] HK2.out (by simp [maxLen]) 2 rfl _ rfl _ rfl
  obtain ⟨X, hX⟩ : ∃ X, w6.alloc (.cells #[.int .i64 257, .int .i64 256] 3) = X := ⟨_, rfl⟩
  change Lv iK (w6.alloc (.cells #[.int .i64 257, .int .i64 256] 3)) _ _ _ at hla
  rw [hX] at hla ha7
  have hxs : X.heap.size = w6.heap.size + 1 := by rw [← hX]; simp
  have HOX := Lib.hid (HO6.out.below_ ha7 (Nat.le_refl _))
  have HBX := Lib.hid (HB6.out.trans (ha7.mono HB6.out.size))
  have HI := Lib.hid (ints_lv _ _ _ _ _ _ _ (HL6.out.below_ ha7 (by have := HYS.out; omega)) hla)
  simp only [decide_true] at HI
  clear ho6 hb6 HD hla ha7 HO6 HL6 HB6 HOY HPY HBY hcy
  go_wp2_with (fail)
  refine (HI.out).mono ?_
  rintro e w8 ⟨rfl, hb8⟩
  have HO8 := Lib.hid (HOX.out.below_ hb8 (by omega))
  have HB8 := Lib.hid (HBX.out.trans (hb8.mono HBX.out.size))
  have hcv : (convert 25 9 (.slice A6 5 c6)).run Try.prog w8 = .ok (.string { data := #[97, 98, 99, 97, 98] }) w8 := by
    have h := text_of HO8.out (by simp)
    rw [htx] at h
    exact h
  clear hb8 HI HOX HBX HO8
  go_wp2
  go_ret
  exact ⟨rfl, HB8.out⟩
end Go.Proofs.Ytaedhccmdbodlaa
namespace Go.Proofs.Ytaedhccmdbodlaa
open Go.ChangeShapes Go.WideShapes Go.RowKit Go.Deep
set_option linter.unusedVariables false

/-- The pieces of a vocabulary by value. -/
theorem pieces_field (u : Value) (w : World) : (Instr.field 24 (.agg #[u]) 0).run Try.prog w = .ok u w := by
  simp [Instr.field, go_sem, part, run_underlying Try.underlying24, asAgg]
theorem bounds_i64' {a : Int} (h : (Lit.int .i64 a).wf = true) : I64 a := by
  have := bounds_i64 h
  unfold I64
  omega
set_option maxRecDepth 100000 in
theorem voc_in {H : Type} {enc : TypeId × Value → H} {w : World} {b : Nat} {sp : Nat → Bool} {held : Bool} {v : Value} {d : DataW H} {p : List MemPlace}
    (hok : Value.okWide Try.prog w .any b 24 v) (h : DataW.Trod enc Try.prog w 0 sp held 24 v d p) : ∃ (u : Value) (l : List Vo.Pc), v = .agg #[u] ∧ Lv pK w w.heap.size u l := by
  obtain ⟨cs, rfl, hsz⟩ := okWide_struct Try.underlying24 hok
  obtain ⟨fuel, hf⟩ := h
  obtain ⟨hl, hx⟩ := dec_fields Try.underlying24 (by kernel_rfl) (by kernel_rfl) hf
  obtain ⟨n0, v0, y0, h0, g0⟩ := hx 0 _ rfl
  have hsz1 : cs.size = 1 := hl
  have hcs : cs = #[v0] := by
    apply Array.ext_getElem?
    intro i
    cases i with
    | zero => simpa [Value.cells] using h0
    | succ i => rw [Array.getElem?_eq_none (by omega), Array.getElem?_eq_none (by simp)]
  subst hcs
  have hv0 : ∃ a n c, v0 = .slice a n c := by
    rcases open_slice Try.underlying22 g0 with ⟨h1, _⟩ | ⟨_, _, _, _, _, _, _, h1, _⟩
    · exact ⟨_, _, _, by simpa using h1⟩
    · exact ⟨_, _, _, by simpa using h1⟩
  obtain ⟨a, n, c, rfl⟩ := hv0
  obtain ⟨l, _, hb⟩ := pieces_in g0
  exact ⟨_, l, rfl, hb⟩
end Go.Proofs.Ytaedhccmdbodlaa
