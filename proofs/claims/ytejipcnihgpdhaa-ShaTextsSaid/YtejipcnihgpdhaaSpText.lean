/-
  sha.Text.
-/
import Derived.Test.YtejipcnihgpdhaaShText
import Derived.Test.YtejipcnihgpdhaaShParse
namespace Go.Proofs.Ytejipcnihgpdhaa
open Go.RowKit
set_option linter.unusedVariables false

/-- The sixteen digits, as Go's text. -/
abbrev dgs : ByteArray := { data := #[48, 49, 50, 51, 52, 53, 54, 55, 56, 57, 97, 98, 99, 100, 101, 102] }
theorem digits_at {p : Nat} (hp : p < 16) (w : World) : (Instr.index 9 (.string dgs) (.int .u8 (p : Nat))).run Try.prog w = .ok (.int .u8 (Sh.dig p : Nat)) w := by
  have h' : p = 0 ∨ p = 1 ∨ p = 2 ∨ p = 3 ∨ p = 4 ∨ p = 5 ∨ p = 6 ∨ p = 7 ∨ p = 8 ∨ p = 9 ∨ p = 10 ∨ p = 11 ∨ p = 12 ∨ p = 13 ∨ p = 14 ∨ p = 15 := by omega
  rcases h' with rfl | rfl | rfl | rfl | rfl | rfl | rfl | rfl | rfl | rfl | rfl | rfl | rfl | rfl | rfl | rfl <;> simp [go_sem, Instr.index] <;> rfl
theorem and15 {c : Nat} (hc : c < 256) : bits BinOp.and IntKind.u8 (c : Int) 15 = ((c % 16 : Nat) : Int) := by
  have h := bits_mask .u8 8 (by decide) wraps_u8 4 (by decide) (c : Int) (by omega) (by omega)
  refine h.trans ?_
  simp

set_option maxHeartbeats 4000000 in
set_option maxRecDepth 100000 in
theorem text_any (d : List Nat) (hl : d.length = 32) (h8 : ∀ x ∈ d, x < 256) (w : World) :
    Calls Try.prog 20 #[.agg (bvs d)] w (fun e w' => e = .returned (.string (txt (Sh.text d))) ∧ Below w.heap.size w w') := by
  have HL := Lib.hid hl
  have H8 := Lib.hid h8
  have hsz := size35l hl
  have hbd : Hid (∀ k x : Nat, d[k]? = some x → (bvs d)[k]? = some (.int .u8 (x : Nat))) := fun k x h => bvs_some h
  obtain ⟨c, hc⟩ : ∃ c, bvs d = c := ⟨_, rfl⟩
  rw [hc] at hsz hbd ⊢
  clear hl h8 hc
  obtain ⟨i0, hi, hz0, hz1, hz2⟩ := info_parts info5
  have hby : i0.bytes * 64 ≤ 281474976710656 := by rw [hz2]; decide
  have hml : 64 ≤ maxLen := by simp [maxLen]
  go_enter Try.func20, Try.ntmps20
  have HR0 : Hid (Rw (w.alloc (.cells c 35)) w.heap.size 35 c) := Rw.new w _ _
  have HB0 := Lib.hid ((Below.refl w.heap.size w).alloc (Nat.le_refl _) (.cells c 35))
  obtain ⟨w0, hw0⟩ : ∃ w0, w.alloc (.cells c 35) = w0 := ⟨_, rfl⟩
  have HSZ : Hid (w.heap.size + 1 ≤ w0.heap.size) := by unfold Hid; rw [← hw0]; simp
  rw [hw0] at HR0 HB0
  go_wp2_with (first
    | (at_make; go_must (refine wpList_make_own _ rfl _ _ 28 rfl (w.heap.size + 1) 5 i0 (.int .u8 0) 1 Try.underlying28 hi hz0 hz1 .i64 .i64 _ 64 rfl rfl rfl hby hml HSZ.out ?_; intro w1 hown hgrow); have HO1 : Hid (OwnB w1 (w.heap.size + 1) (.slice (some ⟨w0.heap.size, 0, none⟩) 0 64) []) := ⟨by simp, hown⟩; have HB1 : Hid (Below (w.heap.size + 1) w0 w1) := (Below.refl _ _).grown hgrow HSZ.out (by intro k hk; cases hk); clear hown hgrow)
    | (refine wpList_load_row rfl _ _ rfl w.heap.size rfl 35 c (0, 0) _ (HR0.out.below HB1.out (Nat.lt_succ_self _)) Try.underlying35 rfl hsz ?_))
  have HR1 := Lib.hid (HR0.out.below HB1.out (Nat.lt_succ_self _))
  have HBB1 := Lib.hid (HB0.out.trans (HB1.out.mono (Nat.le_succ _)))
  clear HR0 HB0 HB1 hw0 hby hml hi hz0 hz1 hz2
  go_loopw [3, 8] (fun v i wr => ∃ k : Nat, k ≤ 32 ∧ i = .int .i64 k ∧ Hid (OwnB wr (w.heap.size + 1) v (Sh.text (d.take k))) ∧ Below w.heap.size w wr ∧ w.heap.size + 1 ≤ wr.heap.size) (fun _ i _ => 32 - (intOf i).toNat)
  case atStart => exact ⟨0, by omega, rfl, HO1.out, HBB1.out, HR1.out.lt⟩
  case round =>
    obtain ⟨k, hk, rfl, HO, hbr, hsw⟩ := hrel
    clear HO1 HBB1 HR1
    by_cases h32 : k < 32
    · obtain ⟨x, hx⟩ : ∃ x, d[k]? = some x := ⟨_, List.getElem?_eq_getElem (by rw [HL.out]; exact h32)⟩
      have hx8 := H8.out x (List.mem_of_getElem? hx)
      have hix := index32 c k _ h32 (hbd.out k x hx)
      have hts := Sh.text_snoc hx
      obtain ⟨L, hL⟩ : ∃ L, Sh.text (d.take k) = L := ⟨_, rfl⟩
      have hLl : L.length = 2 * k := by rw [← hL, Sh.text_len, List.length_take, HL.out]; omega
      rw [hL] at HO hts
      obtain ⟨p, hp⟩ : ∃ p, x / 16 = p := ⟨_, rfl⟩
      obtain ⟨q, hq⟩ : ∃ q, x % 16 = q := ⟨_, rfl⟩
      have e1 : (x : Int) / 16 = (p : Nat) := by omega
      have e2 : bits BinOp.and IntKind.u8 (x : Int) 15 = (q : Nat) := by rw [and15 hx8, hq]
      have hu := Sh.dig_lt (n := p) (by omega)
      have hv := Sh.dig_lt (n := q) (by omega)
      have hip := digits_at (p := p) (by omega)
      have hiq := digits_at (p := q) (by omega)
      have htwo : Sh.two x = [Sh.dig p, Sh.dig q] := by unfold Sh.two; rw [hp, hq]
      rw [htwo] at hts
      obtain ⟨u, hue⟩ : ∃ u, Sh.dig p = u := ⟨_, rfl⟩
      obtain ⟨v, hve⟩ : ∃ v, Sh.dig q = v := ⟨_, rfl⟩
      rw [hue] at hip hu hts
      rw [hve] at hiq hv hts
      have HT := Lib.hid hts
      have HLl := Lib.hid hLl
      have hown1 : OwnB (wr.alloc (.cells #[.int .u8 (u : Int), .int .u8 (v : Int)] 5)).drew (w.heap.size + 1) _ L := HO.out.alloc_ (.cells #[.int .u8 (u : Int), .int .u8 (v : Int)] 5)
      have hsrc : Bv (wr.alloc (.cells #[.int .u8 (u : Int), .int .u8 (v : Int)] 5)).drew (wr.heap.size + 1) (.slice (some ⟨wr.heap.size, 0, none⟩) 2 2) [u, v] := two_bytes wr hu hv
      have hbel1 := (hbr.alloc hbr.size (.cells #[.int .u8 (u : Int), .int .u8 (v : Int)] 5)).drew
      have HO1 := Lib.hid hown1
      have HS1 := Lib.hid hsrc
      have HB1 := Lib.hid hbel1
      have hsz : L.length + [u, v].length ≤ 140737488355328 := by simp; omega
      have hbs : w.heap.size + 1 ≤ (wr.alloc (.cells #[.int .u8 (u : Int), .int .u8 (v : Int)] 5)).drew.heap.size := by simp [World.drew]; omega
      have i1 : (k : Int) < 32 := by omega
      have i2 : (p : Int) < 16 := by omega
      have i3 : (q : Int) < 16 := by omega
      clear hown1 hsrc hbel1 hx hL hp hq htwo hue hve hts hLl HO
      go_wp2
      go_region_held3 (fun _ => True) (trivial)
        ((refine step_append_bytes _ rfl _ _ rfl rfl (w.heap.size + 1) _ rfl L HO1.out _ rfl _ [u, v] HS1.out hsz hbs ?_; intro A' c' w' hA; have HB2 := Lib.hid (HB1.out.grown hA.grown (Nat.le_trans (by omega) hbs) (fun j hj => by have := (HO1.out.lt_ j hj).1; omega)); have HSW := Lib.hid (Nat.le_trans hbs hA.grown.size); have HA := Lib.hid hA.own; clear hA))
      all_goals (
        have e4 : (L ++ [u, v]).length = L.length + 2 := by simp
        have ho4 := HA.out
        rw [← HT.out, HT.out, e4] at ho4
        go_wp2
        all_goals exact ⟨⟨k + 1, by omega, by go_num, (by rw [HT.out]; exact ho4), HB2.out, HSW.out⟩, by simp [intOf]; omega⟩)
    · have hk32 : k = 32 := by omega
      subst hk32
      have ht : d.take 32 = d := List.take_of_length_le (by rw [HL.out]; omega)
      rw [ht] at HO
      have hlen : (Sh.text d).length = 64 := by rw [Sh.text_len, HL.out]
      obtain ⟨A, c', rfl, _⟩ := HO.out.form_
      have hcv := text_bytes HO.out.form_ (by omega)
      clear ht hlen
      rw [show ((32 : Nat) : Int) = (32 : Int) from rfl]
      go_wp2
      go_ret
      exact ⟨rfl, hbr⟩
end Go.Proofs.Ytejipcnihgpdhaa
