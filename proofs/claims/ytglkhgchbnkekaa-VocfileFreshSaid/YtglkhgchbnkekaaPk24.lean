/-
  SpDigest: sha.digest: the words' bytes.
  SpBehind: sha.behind, sha.Behind: what stands behind so many bytes.
  SpHashM: A hash: its cells, and what stands in them behind so many bytes.
-/
import Derived.Test.YtglkhgchbnkekaaPk23
import Derived.Test.YtglkhgchbnkekaaPk03
import Derived.Test.YtglkhgchbnkekaaPk11
import Derived.Deep.RegionHeld3
import Derived.Test.YtglkhgchbnkekaaPk22
import Derived.Deep.MidRow
namespace Go.Proofs.Ytglkhgchbnkekaa
open Go.RowKit
set_option linter.unusedVariables false

theorem St.byte_of (s : Sh.St) {i : Nat} (h : i < 32) : s.bytes.getD i 0 = nt (s.list.getD (i / 4) 0) / 2 ^ (24 - 8 * (i % 4)) % 256 := by
  have h' : i = 0 ∨ i = 1 ∨ i = 2 ∨ i = 3 ∨ i = 4 ∨ i = 5 ∨ i = 6 ∨ i = 7 ∨ i = 8 ∨ i = 9 ∨ i = 10 ∨ i = 11 ∨ i = 12 ∨ i = 13 ∨ i = 14 ∨ i = 15 ∨ i = 16 ∨ i = 17 ∨ i = 18 ∨ i = 19 ∨ i = 20 ∨ i = 21 ∨ i = 22 ∨ i = 23 ∨ i = 24 ∨ i = 25 ∨ i = 26 ∨ i = 27 ∨ i = 28 ∨ i = 29 ∨ i = 30 ∨ i = 31 := by omega
  obtain ⟨a, b, c, d, e, f, g, k⟩ := s
  rcases h' with rfl | rfl | rfl | rfl | rfl | rfl | rfl | rfl | rfl | rfl | rfl | rfl | rfl | rfl | rfl | rfl | rfl | rfl | rfl | rfl | rfl | rfl | rfl | rfl | rfl | rfl | rfl | rfl | rfl | rfl | rfl | rfl
  all_goals first | rfl | (show _ = _ / 1 % 256; rw [Nat.div_one]; rfl)
theorem St.bytes_len (s : Sh.St) : s.bytes.length = 32 := by obtain ⟨a, b, c, d, e, f, g, k⟩ := s; rfl
theorem St.bytes_lt (s : Sh.St) : ∀ x ∈ s.bytes, x < 256 := by
  intro x hx
  unfold Sh.St.bytes at hx
  obtain ⟨y, _, hy⟩ := List.mem_flatMap.1 hx
  simp only [Sh.hi, List.mem_cons, List.not_mem_nil, or_false] at hy
  omega
/-- The digest's array, the first k bytes of it written. -/
def dg (l : List Nat) (k : Nat) : Array Value := bvs (l.take k ++ List.replicate (32 - k) 0)
theorem dg_zero (l : List Nat) : dg l 0 = none32 := by unfold dg none32; rw [List.take_zero]; rfl
theorem dg_end {l : List Nat} (h : l.length = 32) : dg l 32 = bvs l := by unfold dg; rw [List.take_of_length_le (by omega)]; simp
theorem dg_old (l : List Nat) {k : Nat} (h : k < 32) (hl : l.length = 32) : (dg l k)[k]? = some (.int .u8 (0 : Nat)) := by
  refine bvs_some ?_
  have hk : (l.take k).length = k := by rw [List.length_take]; omega
  rw [List.getElem?_append_right (by omega), hk, Nat.sub_self]
  obtain ⟨m, hm⟩ : ∃ m, 32 - k = m + 1 := ⟨31 - k, by omega⟩
  rw [hm]; rfl
theorem dg_set (l : List Nat) {k x : Nat} (h : k < 32) (hl : l.length = 32) (hx : l.getD k 0 = x) : (dg l k).setIfInBounds k (.int .u8 (x : Nat)) = dg l (k + 1) := by
  unfold dg bvs
  apply Array.ext'
  have hm : 32 - k = (32 - (k + 1)) + 1 := by omega
  have hg : l[k]? = some x := by rw [List.getElem?_eq_getElem (by omega), ← hx, List.getD_eq_getElem?_getD, List.getElem?_eq_getElem (by omega)]; rfl
  have hk : (l.take k).length = k := by rw [List.length_take]; omega
  rw [Array.toList_setIfInBounds, hm, List.replicate_succ, List.take_add_one, hg]
  simp only [List.map_append, List.map_cons]
  rw [List.set_append_right _ _ (by rw [List.length_map]; omega)]
  simp [u8]
  rw [show k - min k l.length = 0 by omega, List.set_cons_zero]
theorem stv_at (s : Sh.St) {j : Nat} (h : j < 8) : (stv s)[j]? = some (.int .u32 (nt (s.list.getD j 0) : Nat)) := wvs_at s.list h

set_option maxHeartbeats 1000000 in
set_option maxRecDepth 100000 in
theorem digest_any (s : Sh.St) (w : World) : Calls Try.prog 70 #[.agg (stv s)] w (fun e w' => e = .returned (.agg (bvs s.bytes)) ∧ Below w.heap.size w w') := by
  have HSA : Hid (∀ j, j < 8 → (stv s)[j]? = some (.int .u32 (nt (s.list.getD j 0) : Nat))) := fun j hj => stv_at s hj
  obtain ⟨sc, hsc⟩ : ∃ c, stv s = c := ⟨_, rfl⟩
  rw [hsc] at HSA ⊢
  clear hsc
  have HBY : Hid (∀ i, i < 32 → s.bytes.getD i 0 = nt (s.list.getD (i / 4) 0) / 2 ^ (24 - 8 * (i % 4)) % 256) := fun i hi => St.byte_of s hi
  have HL := Lib.hid (St.bytes_len s)
  obtain ⟨l, hl⟩ : ∃ l, s.bytes = l := ⟨_, rfl⟩
  rw [hl] at HBY HL ⊢
  clear hl
  have hzero : ∀ w, (zeroValue 57).run Try.prog w = .ok (.agg none32) w := (zero_of_info (n := 32) (by kernel_rfl)).1
  go_enter Try.func70, Try.ntmps70
  go_wp2
  go_loopw [5] (fun i wr => ∃ k : Nat, k ≤ 32 ∧ i = .int .i64 k ∧ Hid (Rw wr w.heap.size 83 sc) ∧ Hid (Rw wr (w.heap.size + 1) 57 none32) ∧ Hid (Rw wr (w.heap.size + 2) 57 (dg l k)) ∧ Hid (Below w.heap.size w wr)) (fun i _ => 32 - (intOf i).toNat)
  case atStart =>
    refine ⟨0, by omega, rfl, ?_, ?_, ?_, ?_⟩
    · exact ((Rw.at_ rfl _ _).old _).old _
    · exact (Rw.at_ (by simp) _ _).old _
    · rw [dg_zero]; exact Rw.at_ (by simp) _ _
    · exact (((Below.refl w.heap.size w).alloc (Nat.le_refl _) _).alloc (by simp) _).alloc (by simp; omega) _
  case round =>
    obtain ⟨k, hk, rfl, HS, HN, HD, HB⟩ := hrel
    by_cases h32 : k < 32
    · obtain ⟨x, hx⟩ : ∃ x, s.list.getD (k / 4) 0 = x := ⟨_, rfl⟩
      obtain ⟨q, hq⟩ : ∃ q, 24 - 8 * (k % 4) = q := ⟨_, rfl⟩
      obtain ⟨y, hy⟩ : ∃ y, nt x / 2 ^ q % 256 = y := ⟨_, rfl⟩
      have hby := HBY.out k h32
      rw [hx, hq, hy] at hby
      have hy8 : y < 256 := by omega
      have hyi : ((nt x : Nat) : Int) / 2 ^ q % 256 = (y : Nat) := by rw [← hy]; simp
      have HST := Lib.hid (dg_set l h32 HL.out hby)
      have c0 : wr.cell? ⟨w.heap.size, k / 4, none⟩ = some (.int .u32 (nt x : Nat)) := by rw [← hx]; exact (HS.out.cell _).trans (HSA.out _ (by omega))
      have co : wr.cell? ⟨w.heap.size + 2, k, none⟩ = some (.int .u8 (0 : Nat)) := (HD.out.cell _).trans (dg_old l h32 HL.out)
      have cf : wr.frozen? ⟨w.heap.size + 2, k, none⟩ = false := HD.out.frozen _
      have i0 : (k : Int) < 32 := by omega
      have i1 : (0 : Int) ≤ (k : Int) / 4 := by omega
      have i2 : (k : Int) / 4 < 8 := by omega
      have i3 : ((k : Int) / 4).toNat = k / 4 := by omega
      have i5 : (24 : Int) - 8 * ((k : Int) % 4) = (q : Nat) := by omega
      clear hx hq hy hby
      go_wp2
      have hd := HD.out.set k (.int .u8 (y : Nat))
      rw [HST.out] at hd
      exact ⟨⟨k + 1, by omega, by go_num, HS.out.setOther (by omega) _ _, HN.out.setOther (by omega) _ _, hd, HB.out.setCell (show w.heap.size ≤ w.heap.size + 1 + 1 by omega) _⟩, by simp [intOf]; omega⟩
    · have hkk : k = 32 := by omega
      subst hkk
      rw [dg_end HL.out] at HD
      have hsz := size35l HL.out
      have hone := bvs_one l
      have hds : none32.size = (bvs l).size := by rw [bvs_size, HL.out]; rfl
      obtain ⟨dv, hdv⟩ : ∃ dv, bvs l = dv := ⟨_, rfl⟩
      rw [hdv] at HD hsz hone hds
      have HDV := Lib.hid hdv
      clear hdv
      rw [show ((32 : Nat) : Int) = (32 : Int) from rfl]
      go_wp2_with (first
        | (refine wpList_load_row rfl _ _ rfl (w.heap.size + 2) rfl 57 dv (0, 0) _ HD.out Try.underlying57 rfl hsz ?_)
        | (refine wpList_store_row rfl _ _ _ rfl (w.heap.size + 1) dv rfl rfl 57 _ HN.out hsz hds hone ?_))
      refine bodyPost_ret (v := .agg dv) (results_cell_row rfl _ _ (w.heap.size + 1) 57 dv (0, 0) _ rfl (Rw.row HN.out dv) Try.underlying57 rfl hsz) rfl ⟨by rw [HDV.out], HB.out.trans (below_setRow (Below.refl _ _) (by omega) _)⟩
end Go.Proofs.Ytglkhgchbnkekaa
namespace Go.Proofs.Ytglkhgchbnkekaa
open Go.RowKit
set_option linter.unusedVariables false

namespace Sh
/-- What stands behind, the last k bytes of the number written. -/
def tl (n k : Nat) : List Nat := List.replicate (8 - k) 0 ++ (eight (8 * n)).drop (8 - k)
def bh (n k : Nat) : List Nat := (128 :: List.replicate (noughts n) 0) ++ tl n k
theorem tl_len (n k : Nat) (h : k ≤ 8) : (tl n k).length = 8 := by simp [tl, eight]
theorem bh_len (n k : Nat) (h : k ≤ 8) : (bh n k).length = noughts n + 9 := by simp [bh, tl_len n k h]
theorem tl_set (n k : Nat) (h : k < 8) : (tl n k).set (7 - k) (8 * n / 2 ^ (8 * k) % 256) = tl n (k + 1) := by
  rcases k with _|_|_|_|_|_|_|_|k
  all_goals first | (exfalso; omega) | simp [tl, eight, List.replicate]
theorem bh_set (n k : Nat) (h : k < 8) : (bh n k).set (noughts n + 8 - k) (8 * n / 2 ^ (8 * k) % 256) = bh n (k + 1) := by
  unfold bh
  rw [List.set_append_right _ _ (by simp; omega)]
  have e : noughts n + 8 - k - (128 :: List.replicate (noughts n) 0).length = 7 - k := by simp; omega
  rw [e, tl_set n k h]
theorem bh_end (n : Nat) : bh n 8 = behind n := rfl
theorem bh_zero (n : Nat) : (List.replicate (noughts n + 9) 0).set 0 128 = bh n 0 := by
  have e : noughts n + 9 = noughts n + 8 + 1 := by omega
  rw [e, List.replicate_succ, List.set_cons_zero]
  have e2 : tl n 0 = List.replicate 8 0 := by simp [tl, eight]
  rw [bh, e2, List.cons_append, List.replicate_append_replicate]
end Sh
theorem bvs_set (l : List Nat) (j c : Nat) : (bvs l).setIfInBounds j (.int .u8 (c : Nat)) = bvs (l.set j c) := by
  unfold bvs
  apply Array.ext'
  rw [Array.toList_setIfInBounds, List.map_set]
  rfl
theorem bvs_zero (n : Nat) : (List.replicate n (Value.int .u8 0)).toArray = bvs (List.replicate n 0) := by
  unfold bvs
  rw [List.map_replicate]; rfl
theorem bvs_first (z : Nat) : (bvs (List.replicate (z + 9) 0))[0]? = some (.int .u8 0) := by simp [bvs, u8]
theorem Rw.own {w : World} {base g : Nat} {l : List Nat} (h : Rw w g 5 (bvs l)) (hb : base ≤ g) (hl : ∀ x ∈ l, x < 256) (hm : l.length ≤ maxLen) : OwnB w base (.slice (some ⟨g, 0, none⟩) l.length l.length) l := OwnB.of_heap hb hl hm h

/-- A call that answers these bytes in new memory. -/
def IsB (l : List Nat) (w : World) (e : Ending) (w' : World) : Prop :=
  ∃ A c, e = .returned (.slice A l.length c) ∧ OwnB w' w.heap.size (.slice A l.length c) l ∧ Below w.heap.size w w'

set_option maxHeartbeats 1000000 in
set_option maxRecDepth 100000 in
theorem behind_any (n : Nat) (hn : n ≤ 1099511627776) (w : World) : Calls Try.prog 69 #[.int .u64 n] w (IsB (Sh.behind n) w) := by
  obtain ⟨z, hz⟩ : ∃ z, Sh.noughts n = z := ⟨_, rfl⟩
  have hz64 : z < 64 := by rw [← hz]; exact Sh.noughts_lt n
  have h1 : ((64 : Int) - ((n : Int) + 1 + 8) % 64) % 64 = (z : Nat) := by rw [← hz]; unfold Sh.noughts; omega
  have h2 : (0 : Int) ≤ (64 : Int) - ((n : Int) + 1 + 8) % 64 := by omega
  have h3 : (64 : Int) - ((n : Int) + 1 + 8) % 64 < 65 := by omega
  go_enter Try.func69, Try.ntmps69
  obtain ⟨i0, hi, hz0, hz1, hz2⟩ := info_parts info5
  have hby : i0.bytes * (z + 9) ≤ 281474976710656 := by rw [hz2]; omega
  have hml : z + 9 ≤ maxLen := by simp only [maxLen]; omega
  go_wp2_with (at_make; go_must (refine wpList_make_full _ rfl _ _ 27 rfl w.heap.size 5 i0 (.int .u8 0) 1 Try.underlying27 hi hz0 hz1 .u64 .u64 _ _ (z + 9) rfl rfl (by omega) (by omega) hby hml (Nat.le_refl _) ?_; intro w1 hown hgrow); have HB1 : Hid (Below w.heap.size w w1) := (Below.refl _ _).grown hgrow (Nat.le_refl _) (by intro k hk; cases hk); have hr1 : Rw w1 w.heap.size 5 (bvs (List.replicate (z + 9) 0)) := (bvs_zero _) ▸ zeros_heap hown; have c0 : w1.cell? ⟨w.heap.size, 0, none⟩ = some (.int .u8 0) := (hr1.cell 0).trans (bvs_first z); have f0 := hr1.frozen 0; have HR1 := Lib.hid hr1; clear hr1 hown hgrow)
  have HR2 : Hid (Rw (w1.setCell ⟨w.heap.size, 0, none⟩ (.int .u8 128)) w.heap.size 5 (bvs (Sh.bh n 0))) := by
    have := HR1.out.set 0 (.int .u8 (128 : Nat))
    rw [bvs_set, ← hz, Sh.bh_zero] at this
    exact this
  have HB2 : Hid (Below w.heap.size w (w1.setCell ⟨w.heap.size, 0, none⟩ (.int .u8 128))) := HB1.out.setCell (Nat.le_refl _) _
  clear HR1 HB1 c0 f0 hi hz0 hz1 hz2 hby h1 h2 h3
  go_loopw [23] (fun i wr => ∃ k : Nat, k ≤ 8 ∧ i = .int .i64 k ∧ Hid (Rw wr w.heap.size 5 (bvs (Sh.bh n k))) ∧ Hid (Below w.heap.size w wr)) (fun i _ => 8 - (intOf i).toNat)
  case atStart => exact ⟨0, by omega, rfl, HR2.out, HB2.out⟩
  case round =>
    clear HR2 HB2
    obtain ⟨k, hk, rfl, HR, HB⟩ := hrel
    by_cases h8 : k < 8
    · have hlen := Sh.bh_len n k hk
      have hst := Sh.bh_set n k h8
      rw [hz] at hlen hst
      obtain ⟨y, hy⟩ : ∃ y, 8 * n / 2 ^ (8 * k) % 256 = y := ⟨_, rfl⟩
      have hy8 : y < 256 := by omega
      have hyi : (8 * (n : Int)) / 2 ^ (8 * k) % 256 = (y : Nat) := by rw [← hy]; simp
      rw [hy] at hst
      have HST := Lib.hid hst
      have co : wr.cell? ⟨w.heap.size, z + 8 - k, none⟩ = some (.int .u8 ((Sh.bh n k).getD (z + 8 - k) 0 : Nat)) := (HR.out.cell _).trans (bvs_at _ (by omega))
      have cf : wr.frozen? ⟨w.heap.size, z + 8 - k, none⟩ = false := HR.out.frozen _
      have i1 : (z : Int) + 9 - 1 - (k : Int) = (z + 8 - k : Nat) := by omega
      have i2 : ((8 : Int) * (k : Int)).toNat = 8 * k := by omega
      have i3 : (k : Int) < 8 := by omega
      have i4 : z + 8 - k < z + 9 := by omega
      clear hy hst
      go_wp2
      have hr := HR.out.set (z + 8 - k) (.int .u8 (y : Nat))
      rw [bvs_set, HST.out] at hr
      exact ⟨⟨k + 1, by omega, by go_num, hr, HB.out.setCell (Nat.le_refl _) _⟩, by simp [intOf]; omega⟩
    · have h0 : k = 8 := by omega
      subst h0
      rw [Sh.bh_end] at HR
      have hl : (Sh.behind n).length = z + 9 := by rw [Sh.behind_len, hz]
      have ho : OwnB wr w.heap.size (.slice (some ⟨w.heap.size, 0, none⟩) (Sh.behind n).length (Sh.behind n).length) (Sh.behind n) := HR.out.own (Nat.le_refl _) (Sh.behind_lt n) (by rw [hl]; exact hml)
      have HO : Hid (IsB (Sh.behind n) w (.returned (.slice (some ⟨w.heap.size, 0, none⟩) (z + 9) (z + 9))) wr) := by
        unfold Hid IsB
        rw [← hl]
        exact ⟨_, _, rfl, ho, HB.out⟩
      clear ho hl HR HB
      rw [show ((8 : Nat) : Int) = (8 : Int) from rfl]
      go_wp2
      go_ret
      exact HO.out

end Go.Proofs.Ytglkhgchbnkekaa
namespace Go.Proofs.Ytglkhgchbnkekaa
open Go.RowKit
set_option linter.unusedVariables false

namespace Sh
theorem blocks_succ : ∀ (k : Nat) (s : St) (l : List Nat), blocks s (k + 1) l = press (blocks s k l) ((l.drop (64 * k)).take 64)
  | 0, s, l => by simp [blocks]
  | k + 1, s, l => by
    rw [blocks, blocks_succ k, List.drop_drop]
    have e : 64 + 64 * k = 64 * (k + 1) := by omega
    rw [e]
    rfl
theorem blocks_app : ∀ (k : Nat) (s : St) (l m : List Nat), 64 * k ≤ l.length → blocks s k (l ++ m) = blocks s k l
  | 0, s, l, m, _ => rfl
  | k + 1, s, l, m, h => by
    rw [blocks_succ, blocks_succ, blocks_app k s l m (by omega), List.drop_append_of_le_length (by omega), List.take_append_of_le_length (by rw [List.length_drop]; omega)]
/-- The state and the rest of a hash to which these bytes were written. -/
structure HS (s : St) (r l : List Nat) : Prop where
  len : r.length = 64
  lt : ∀ x ∈ r, x < 256
  st : s = blocks begin (l.length / 64) l
  tail : r.take (l.length % 64) = l.drop (64 * (l.length / 64))
def fill (r : List Nat) (k : Nat) (x : List Nat) : List Nat := r.take k ++ x ++ r.drop (k + x.length)
theorem fill_len {r : List Nat} {k : Nat} {x : List Nat} (h : r.length = 64) (hx : k + x.length ≤ 64) : (fill r k x).length = 64 := by simp [fill]; omega
theorem fill_take {r : List Nat} {k : Nat} {x : List Nat} (h : r.length = 64) (hx : k + x.length ≤ 64) : (fill r k x).take (k + x.length) = r.take k ++ x := by
  unfold fill
  have hk : (r.take k).length = k := by rw [List.length_take]; omega
  rw [List.take_append_of_le_length (by rw [List.length_append, hk]; omega), List.take_of_length_le (by rw [List.length_append, hk]; omega)]
theorem fill_lt {r : List Nat} {k : Nat} {x : List Nat} (h : ∀ y ∈ r, y < 256) (hx : ∀ y ∈ x, y < 256) : ∀ y ∈ fill r k x, y < 256 := by
  intro y hy
  rcases List.mem_append.1 hy with hy | hy
  · rcases List.mem_append.1 hy with hy | hy
    · exact h y (List.mem_of_mem_take hy)
    · exact hx y hy
  · exact h y (List.mem_of_mem_drop hy)
theorem HS.more {s : St} {r l x : List Nat} (h : HS s r l) (hx : ∀ y ∈ x, y < 256) (hl : l.length % 64 + x.length < 64) : HS s (fill r (l.length % 64) x) (l ++ x) := by
  have e : (l ++ x).length = l.length + x.length := List.length_append
  have e1 : (l.length + x.length) / 64 = l.length / 64 := by omega
  have e2 : (l.length + x.length) % 64 = l.length % 64 + x.length := by omega
  refine ⟨fill_len h.len (by omega), fill_lt h.lt hx, ?_, ?_⟩
  · rw [e, e1, blocks_app _ _ _ _ (by omega)]; exact h.st
  · rw [e, e1, e2, fill_take h.len (by omega), h.tail, List.drop_append_of_le_length (by omega)]
theorem HS.full {s : St} {r l x : List Nat} (h : HS s r l) (hx : ∀ y ∈ x, y < 256) (hl : l.length % 64 + x.length = 64) : HS (press s (fill r (l.length % 64) x)) (fill r (l.length % 64) x) (l ++ x) := by
  have e : (l ++ x).length = l.length + x.length := List.length_append
  have e1 : (l.length + x.length) / 64 = l.length / 64 + 1 := by omega
  have e2 : (l.length + x.length) % 64 = 0 := by omega
  have h3 : fill r (l.length % 64) x = l.drop (64 * (l.length / 64)) ++ x := by
    have := fill_take (k := l.length % 64) (x := x) h.len (by omega)
    rw [hl, List.take_of_length_le (by rw [fill_len h.len (by omega)]; omega), h.tail] at this
    exact this
  refine ⟨fill_len h.len (by omega), fill_lt h.lt hx, ?_, ?_⟩
  · rw [e, e1, blocks_succ, blocks_app _ _ _ _ (by omega), ← h.st, List.drop_append_of_le_length (by omega), ← h3, List.take_of_length_le (by rw [fill_len h.len (by omega)]; omega)]
  · rw [e, e1, e2, List.take_zero, List.drop_of_length_le (by omega)]
theorem HS.new {r : List Nat} (hl : r.length = 64) (h8 : ∀ x ∈ r, x < 256) : HS begin r [] := ⟨hl, h8, rfl, rfl⟩
theorem sum_of {s : St} {r l : List Nat} (h : HS s r (l ++ behind l.length)) : s.bytes = sum l := by
  rw [h.st, sum, List.length_append]
end Sh

/-- The cells of a hash. -/
def hcl (m : Bool) (s : Sh.St) (r : List Nat) (n : Nat) : List Value := .bool m :: (s.list.map wv ++ (r.map u8 ++ [.int .u64 (n : Nat)]))
def hc (m : Bool) (s : Sh.St) (r : List Nat) (n : Nat) : Array Value := (hcl m s r n).toArray
section
variable {m : Bool} {s s' : Sh.St} {r : List Nat} {n : Nat}
theorem hc_size (h : r.length = 64) : (hc m s r n).size = 74 := by simp [hc, hcl, h, Sh.St.list]
theorem hc_made : (hc m s r n)[0]? = some (.bool m) := by simp [hc, hcl]
theorem hc_count (h : r.length = 64) : (hc m s r n)[73]? = some (.int .u64 (n : Nat)) := by
  simp [hc, hcl, Sh.St.list, h]
theorem hc_setCount (h : r.length = 64) (n' : Nat) : (hc m s r n).setIfInBounds 73 (.int .u64 (n' : Nat)) = hc m s r n' := by
  unfold hc
  apply Array.ext'
  rw [Array.toList_setIfInBounds]
  show (hcl m s r n).set 73 _ = hcl m s r n'
  have e : (Value.bool m :: s.list.map wv).length = 9 := rfl
  show ((Value.bool m :: s.list.map wv) ++ (r.map u8 ++ [_])).set 73 _ = (Value.bool m :: s.list.map wv) ++ (r.map u8 ++ [_])
  rw [List.set_append_right _ _ (by rw [e]; omega), e, List.set_append_right _ _ (by rw [List.length_map, h]; omega), List.length_map, h]
  rfl
theorem hc_one : (hc m s r n).all (·.oneCell') = true := by
  rw [Array.all_eq_true_iff_forall_mem]
  intro v hv
  simp only [hc, hcl, List.mem_toArray, List.mem_cons, List.mem_append, List.mem_map, List.not_mem_nil, or_false] at hv
  rcases hv with rfl | ⟨x, _, rfl⟩ | ⟨x, _, rfl⟩ | rfl <;> rfl
/-- What copy leaves of the cells. -/
theorem hc_copy (h : r.length = 64) {k : Nat} {x : List Nat} (hk : k + x.length ≤ 64) : ((hc m s r n).toList.take (9 + k) ++ x.map u8 ++ (hc m s r n).toList.drop (9 + k + (x.map u8).length)).toArray = hc m s (Sh.fill r k x) n := by
  unfold hc
  congr 1
  show ((Value.bool m :: s.list.map wv) ++ (r.map u8 ++ [_])).take (9 + k) ++ x.map u8 ++ ((Value.bool m :: s.list.map wv) ++ (r.map u8 ++ [_])).drop (9 + k + (x.map u8).length) = (Value.bool m :: s.list.map wv) ++ ((Sh.fill r k x).map u8 ++ [_])
  obtain ⟨p, hp⟩ : ∃ p, Value.bool m :: s.list.map wv = p := ⟨_, rfl⟩
  have e : p.length = 9 := by rw [← hp]; rfl
  rw [hp, List.length_map, List.take_append, List.drop_append, e, List.take_of_length_le (by omega), List.drop_of_length_le (by omega)]
  rw [show 9 + k - 9 = k by omega, show 9 + k + x.length - 9 = k + x.length by omega]
  rw [List.take_append_of_le_length (by rw [List.length_map]; omega), List.drop_append_of_le_length (by rw [List.length_map]; omega)]
  simp [Sh.fill, List.map_take, List.map_drop]
end
/-- The rest and the state, as ranges. -/
theorem Rw.state {w : World} {g : Nat} {m : Bool} {s : Sh.St} {r : List Nat} {n : Nat} (h : Rw w g 107 (hc m s r n)) : w.rangeAt g 1 (stv s).toList := by
  intro j v hv
  have hj : j < 8 := (List.getElem?_eq_some_iff.1 hv).1
  rw [h.cell, Nat.add_comm, ← hv, hc, List.getElem?_toArray, hcl, List.getElem?_cons_succ, List.getElem?_append_left (by simpa [Sh.St.list] using hj)]
  rfl
theorem Rw.rest {w : World} {g : Nat} {m : Bool} {s : Sh.St} {r : List Nat} {n : Nat} (h : Rw w g 107 (hc m s r n)) : w.rangeAt g 9 (bvs r).toList := by
  intro j v hv
  have hj : j < r.length := by have := (List.getElem?_eq_some_iff.1 hv).1; simpa [bvs] using this
  rw [h.cell, ← hv, hc, List.getElem?_toArray]
  show ((Value.bool m :: s.list.map wv) ++ (r.map u8 ++ [_]))[9 + j]? = _
  have e : (Value.bool m :: s.list.map wv).length = 9 := rfl
  rw [List.getElem?_append_right (by rw [e]; omega), e, show 9 + j - 9 = j by omega, List.getElem?_append_left (by rw [List.length_map]; omega)]
  simp [bvs]
theorem Rw.there {w : World} {g t : Nat} {c : Array Value} (h : Rw w g t c) {o n : Nat} (hn : o + n ≤ c.size) : w.there g o n := fun j hj =>
  ⟨by rw [h.cell, Array.getElem?_eq_getElem (by omega)]; rfl, h.frozen _⟩
theorem Rw.setCells {w : World} {g : Nat} {t : TypeId} : ∀ (vs : List Value) (c : Array Value) (o : Nat) (w : World), Rw w g t c → Rw (w.setCells g o vs) g t ((vs.zipIdx o).foldl (fun c (p : Value × Nat) => c.setIfInBounds p.2 p.1) c)
  | [], c, o, w, h => h
  | v :: vs, c, o, w, h => Rw.setCells (w := w) vs _ (o + 1) _ (h.set o v)
theorem Rw.newState {w : World} {g : Nat} {m : Bool} {s s' : Sh.St} {r : List Nat} {n : Nat} (h : Rw w g 107 (hc m s r n)) : Rw (w.setCells g 1 (stv s').toList) g 107 (hc m s' r n) := by
  have h2 := Rw.setCells (w := w) (stv s').toList _ 1 w h
  have e : (((stv s').toList).zipIdx 1).foldl (fun c (p : Value × Nat) => c.setIfInBounds p.2 p.1) (hc m s r n) = hc m s' r n := by
    obtain ⟨a, b, c, d, e, f, g, k⟩ := s
    obtain ⟨a', b', c', d', e', f', g', k'⟩ := s'
    apply Array.ext'
    simp [stv, hc, hcl, Sh.St.list, List.zipIdx]
  rw [e] at h2
  exact h2
theorem below_setCells {B g : Nat} {a : World} (hg : B ≤ g) : ∀ (vs : List Value) (o : Nat) (w : World), Below B a w → Below B a (w.setCells g o vs)
  | [], _, _, h => h
  | v :: vs, o, w, h => below_setCells hg vs (o + 1) _ (h.setCell hg v)
end Go.Proofs.Ytglkhgchbnkekaa
