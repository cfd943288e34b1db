/-
  sha.digest: the words' bytes.
-/
import Derived.Test.YtejipcnihgpdhaaShParse
namespace Go.Proofs.Ytejipcnihgpdhaa
open Go.RowKit
set_option linter.unusedVariables false

theorem St.byte_of (s : Sh.St) {i : Nat} (h : i < 32) : s.bytes.getD i 0 = nt (s.list.getD (i / 4) 0) / 2 ^ (24 - 8 * (i % 4)) % 256 := by
  have h' : i = 0 ∨ i = 1 ∨ i = 2 ∨ i = 3 ∨ i = 4 ∨ i = 5 ∨ i = 6 ∨ i = 7 ∨ i = 8 ∨ i = 9 ∨ i = 10 ∨ i = 11 ∨ i = 12 ∨ i = 13 ∨ i = 14 ∨ i = 15 ∨ i = 16 ∨ i = 17 ∨ i = 18 ∨ i = 19 ∨ i = 20 ∨ i = 21 ∨ i = 22 ∨ i = 23 ∨ i = 24 ∨ i = 25 ∨ i = 26 ∨ i = 27 ∨ i = 28 ∨ i = 29 ∨ i = 30 ∨ i = 31 := by omega
  obtain ⟨a, b, c, d, e, f, g, k⟩ := s
  rcases h' with rfl | rfl | rfl | rfl | rfl | rfl | rfl | rfl | rfl | rfl | rfl | rfl | rfl | rfl | rfl | rfl | rfl | rfl | rfl | rfl | rfl | rfl | rfl | rfl | rfl | rfl | rfl | rfl | rfl | rfl | rfl | rfl
  all_goals first | rfl | (show _ = _ / 1 % 256; rw [Nat.div_one]; rfl)
theorem St.bytes_len (s : Sh.St) : s.bytes.length = 32 := by obtain ⟨a, b, c, d, e, f, g, k⟩ := s; rfl
theorem St.bytes_lt (s : Sh.St) : ∀ x ∈ s.bytes, x < 256 := by
  intro x hx
  unfold Sh.St.bytes at hx
  obtain ⟨y, _, hy⟩ := List.mem_flatMap.1 hx
  simp only [Sh.hi, List.mem_cons, List.not_mem_nil, or_false] at hy
  omega
/-- The digest's array, the first k bytes of it written. -/
def dg (l : List Nat) (k : Nat) : Array Value := bvs (l.take k ++ List.replicate (32 - k) 0)
theorem dg_zero (l : List Nat) : dg l 0 = none32 := by unfold dg none32; rw [List.take_zero]; rfl
theorem dg_end {l : List Nat} (h : l.length = 32) : dg l 32 = bvs l := by unfold dg; rw [List.take_of_length_le (by omega)]; simp
theorem dg_old (l : List Nat) {k : Nat} (h : k < 32) (hl : l.length = 32) : (dg l k)[k]? = some (.int .u8 (0 : Nat)) := by
  refine bvs_some ?_
  have hk : (l.take k).length = k := by rw [List.length_take]; omega
  rw [List.getElem?_append_right (by omega), hk, Nat.sub_self]
  obtain ⟨m, hm⟩ : ∃ m, 32 - k = m + 1 := ⟨31 - k, by omega⟩
  rw [hm]; rfl
theorem dg_set (l : List Nat) {k x : Nat} (h : k < 32) (hl : l.length = 32) (hx : l.getD k 0 = x) : (dg l k).setIfInBounds k (.int .u8 (x : Nat)) = dg l (k + 1) := by
  unfold dg bvs
  apply Array.ext'
  have hm : 32 - k = (32 - (k + 1)) + 1 := by omega
  have hg : l[k]? = some x := by rw [List.getElem?_eq_getElem (by omega), ← hx, List.getD_eq_getElem?_getD, List.getElem?_eq_getElem (by omega)]; rfl
  have hk : (l.take k).length = k := by rw [List.length_take]; omega
  rw [Array.toList_setIfInBounds, hm, List.replicate_succ, List.take_add_one, hg]
  simp only [List.map_append, List.map_cons]
  rw [List.set_append_right _ _ (by rw [List.length_map]; omega)]
  simp [u8]
  rw [show k - min k l.length = 0 by omega, List.set_cons_zero]
theorem stv_at (s : Sh.St) {j : Nat} (h : j < 8) : (stv s)[j]? = some (.int .u32 (nt (s.list.getD j 0) : Nat)) := wvs_at s.list h

set_option maxHeartbeats 1000000 in
set_option maxRecDepth 100000 in
theorem digest_any (s : Sh.St) (w : World) : Calls Try.prog 40 #[.agg (stv s)] w (fun e w' => e = .returned (.agg (bvs s.bytes)) ∧ Below w.heap.size w w') := by
  have HSA : Hid (∀ j, j < 8 → (stv s)[j]? = some (.int .u32 (nt (s.list.getD j 0) : Nat))) := fun j hj => stv_at s hj
  obtain ⟨sc, hsc⟩ : ∃ c, stv s = c := ⟨_, rfl⟩
  rw [hsc] at HSA ⊢
  clear hsc
  have HBY : Hid (∀ i, i < 32 → s.bytes.getD i 0 = nt (s.list.getD (i / 4) 0) / 2 ^ (24 - 8 * (i % 4)) % 256) := fun i hi => St.byte_of s hi
  have HL := Lib.hid (St.bytes_len s)
  obtain ⟨l, hl⟩ : ∃ l, s.bytes = l := ⟨_, rfl⟩
  rw [hl] at HBY HL ⊢
  clear hl
  have hzero : ∀ w, (zeroValue 35).run Try.prog w = .ok (.agg none32) w := (zero_of_info (n := 32) (by kernel_rfl)).1
  go_enter Try.func40, Try.ntmps40
  go_wp2
  go_loopw [5] (fun i wr => ∃ k : Nat, k ≤ 32 ∧ i = .int .i64 k ∧ Hid (Rw wr w.heap.size 23 sc) ∧ Hid (Rw wr (w.heap.size + 1) 35 none32) ∧ Hid (Rw wr (w.heap.size + 2) 35 (dg l k)) ∧ Hid (Below w.heap.size w wr)) (fun i _ => 32 - (intOf i).toNat)
  case atStart =>
    refine ⟨0, by omega, rfl, ?_, ?_, ?_, ?_⟩
    · exact ((Rw.at_ rfl _ _).old _).old _
    · exact (Rw.at_ (by simp) _ _).old _
    · rw [dg_zero]; exact Rw.at_ (by simp) _ _
    · exact (((Below.refl w.heap.size w).alloc (Nat.le_refl _) _).alloc (by simp) _).alloc (by simp; omega) _
  case round =>
    obtain ⟨k, hk, rfl, HS, HN, HD, HB⟩ := hrel
    by_cases h32 : k < 32
    · obtain ⟨x, hx⟩ : ∃ x, s.list.getD (k / 4) 0 = x := ⟨_, rfl⟩
      obtain ⟨q, hq⟩ : ∃ q, 24 - 8 * (k % 4) = q := ⟨_, rfl⟩
      obtain ⟨y, hy⟩ : ∃ y, nt x / 2 ^ q % 256 = y := ⟨_, rfl⟩
      have hby := HBY.out k h32
      rw [hx, hq, hy] at hby
      have hy8 : y < 256 := by omega
      have hyi : ((nt x : Nat) : Int) / 2 ^ q % 256 = (y : Nat) := by rw [← hy]; simp
      have HST := Lib.hid (dg_set l h32 HL.out hby)
      have c0 : wr.cell? ⟨w.heap.size, k / 4, none⟩ = some (.int .u32 (nt x : Nat)) := by rw [← hx]; exact (HS.out.cell _).trans (HSA.out _ (by omega))
      have co : wr.cell? ⟨w.heap.size + 2, k, none⟩ = some (.int .u8 (0 : Nat)) := (HD.out.cell _).trans (dg_old l h32 HL.out)
      have cf : wr.frozen? ⟨w.heap.size + 2, k, none⟩ = false := HD.out.frozen _
      have i0 : (k : Int) < 32 := by omega
      have i1 : (0 : Int) ≤ (k : Int) / 4 := by omega
      have i2 : (k : Int) / 4 < 8 := by omega
      have i3 : ((k : Int) / 4).toNat = k / 4 := by omega
      have i5 : (24 : Int) - 8 * ((k : Int) % 4) = (q : Nat) := by omega
      clear hx hq hy hby
      go_wp2
      have hd := HD.out.set k (.int .u8 (y : Nat))
      rw [HST.out] at hd
      exact ⟨⟨k + 1, by omega, by go_num, HS.out.setOther (by omega) _ _, HN.out.setOther (by omega) _ _, hd, HB.out.setCell (show w.heap.size ≤ w.heap.size + 1 + 1 by omega) _⟩, by simp [intOf]; omega⟩
    · have hkk : k = 32 := by omega
      subst hkk
      rw [dg_end HL.out] at HD
      have hsz := size35l HL.out
      have hone := bvs_one l
      have hds : none32.size = (bvs l).size := by rw [bvs_size, HL.out]; rfl
      obtain ⟨dv, hdv⟩ : ∃ dv, bvs l = dv := ⟨_, rfl⟩
      rw [hdv] at HD hsz hone hds
      have HDV := Lib.hid hdv
      clear hdv
      rw [show ((32 : Nat) : Int) = (32 : Int) from rfl]
      go_wp2_with (first
        | (refine wpList_load_row rfl _ _ rfl (w.heap.size + 2) rfl 35 dv (0, 0) _ HD.out Try.underlying35 rfl hsz ?_)
        | (refine wpList_store_row rfl _ _ _ rfl (w.heap.size + 1) dv rfl rfl 35 _ HN.out hsz hds hone ?_))
      refine bodyPost_ret (v := .agg dv) (results_cell_row rfl _ _ (w.heap.size + 1) 35 dv (0, 0) _ rfl (Rw.row HN.out dv) Try.underlying35 rfl hsz) rfl ⟨by rw [HDV.out], HB.out.trans (below_setRow (Below.refl _ _) (by omega) _)⟩
end Go.Proofs.Ytejipcnihgpdhaa
