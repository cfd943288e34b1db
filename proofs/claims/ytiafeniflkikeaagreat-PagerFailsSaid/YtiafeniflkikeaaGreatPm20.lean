/- Parts of the proof. -/
import Derived.Test.YtiafeniflkikeaaGreatPm19
import Derived.Test.YtiafeniflkikeaaGreatPm01
import Derived.Test.YtiafeniflkikeaaGreatPm13
import Derived.Test.YtiafeniflkikeaaGreatPm11
import Derived.Test.YtiafeniflkikeaaGreatPm12
import Derived.Deep.RegionHeld3
import Derived.Test.YtiafeniflkikeaaGreatPm10
namespace Go.Proofs.YtiafeniflkikeaaGreat
open Go.RowKit
set_option linter.unusedVariables false
def none512 : Array Value := bvs (List.replicate 512 0)
set_option maxRecDepth 100000 in
theorem zero512 : (Tryz.prog.info? 164).map (fun i => (i.zero, i.size)) = some (some (.agg none512), 512) := by kernel_rfl
theorem zero512V : ∀ w, (zeroValue 164).run Tryz.prog w = .ok (.agg none512) w := (zero_of_info (n := 512) zero512).1
theorem none512_size : none512.size = 512 := by rw [none512, bvs_size]; exact List.length_replicate
set_option maxHeartbeats 1000000 in
set_option maxRecDepth 100000 in
theorem psummed_any (p s : List Nat) (hl : p.length = 512) (hs : s.length = 4) (h8 : ∀ x ∈ s, x < 256) (w : World) :
  Calls Tryz.prog 116 #[.agg (bvs p), .agg (bvs s)] w (fun e w' => e = .returned (.agg (bvs (pu p 0 s))) ∧ Below w.heap.size w w') := by
 have hz := zero512V
 obtain ⟨D, hD⟩ : ∃ D, bvs p = D := ⟨_, rfl⟩
 obtain ⟨E, hE⟩ : ∃ D, bvs s = D := ⟨_, rfl⟩
 have HNS := Lib.hid none512_size
 obtain ⟨Z, hZ⟩ : ∃ Z, none512 = Z := ⟨_, rfl⟩
 rw [hZ] at hz HNS
 obtain ⟨W, hW⟩ : ∃ W, ((w.alloc (.cells D 164)).alloc (.cells E 167)).alloc (.cells Z 164) = W := ⟨_, rfl⟩
 have hD0 : Rw W w.heap.size 164 (bvs p) := by rw [← hW, hD]; exact ((Rw.new w _ _).old _).old _
 have hE1 : Rw W (w.heap.size + 1) 167 (bvs s) := by rw [← hW, hE]; exact (Rw.at_ (by simp) _ _).old _
 have HZ2 : Hid (Rw W (w.heap.size + 2) 164 Z) := by unfold Hid; rw [← hW]; exact Rw.at_ (by simp) _ _
 have HBW : Hid (Below w.heap.size w W) := by unfold Hid; rw [← hW]; exact (((Below.refl _ _).alloc (Nat.le_refl _) _).alloc (by simp) _).alloc (by simp; omega) _
 have hbv := hE1.bv_ h8 (k := 0) (m := 4) (c := 4) (B := W.heap.size) (by omega) (Nat.le_refl _) (by simp [maxLen]) hE1.lt
 rw [List.drop_zero, List.take_of_length_le (by omega)] at hbv
 have hpl := pu_len (z := p) (m := s) (k := 0) (by omega)
 obtain ⟨w2, hc, hr2, hg2⟩ := copy_arr (w := W.drew) (k := 0) (dl := 512) (dc := 512) hD0.drew (m := s) (B := W.heap.size) (x := .slice (some ⟨w.heap.size + 1, 0, none⟩) 4 4) hbv (by omega) (by omega)
 rw [hs] at hc
 have HZ3 : Hid (Rw w2 (w.heap.size + 2) 164 Z) := (hg2.block _ (by have := HZ2.out.lt; simpa using this) (by intro e; injection e with e; omega)).trans HZ2.out
 have HBX : Hid (Below w.heap.size w w2) := HBW.out.drew.grown hg2 (by have := HBW.out.size; simpa using this) (fun k hk => by injection hk with hk; omega)
 have HS := Lib.hid (size512l (hpl.trans hl))
 have HO := Lib.hid (bvs_one (pu p 0 s))
 have HLS : Hid (Z.size = (bvs (pu p 0 s)).size) := by unfold Hid; rw [HNS.out, bvs_size, hpl, hl]
 obtain ⟨C, hC⟩ : ∃ C, bvs (pu p 0 s) = C := ⟨_, rfl⟩
 rw [hC] at HS HO HLS hr2 ⊢
 have HR2 := Lib.hid hr2
 have HC := Lib.hid hc
 rw [hD, hE]
 clear hD0 hE1 hbv hD hE hs h8 hl hC hZ hr2 hg2 hpl HZ2 HBW HNS
 go_enter Tryz.func116, Tryz.ntmps116
 go_wp2
 have hc := HC.out
 go_region
 clear hc HC hW hz
 go_wp2_with (first
  | (refine wpList_load_row rfl _ _ rfl w.heap.size rfl 164 C (0, 0) _ HR2.out Tryz.underlying164 rfl HS.out ?_)
  | (refine wpList_store_row rfl _ _ _ rfl (w.heap.size + 2) C rfl rfl 164 _ HZ3.out HS.out HLS.out HO.out ?_))
 refine bodyPost_ret (v := .agg C) (results_cell_row rfl _ _ (w.heap.size + 2) 164 C (0, 0) _ rfl (Rw.row HZ3.out C) Tryz.underlying164 rfl HS.out) rfl ⟨rfl, below_setRow HBX.out (by omega) _⟩
end Go.Proofs.YtiafeniflkikeaaGreat
namespace Go.Proofs.YtiafeniflkikeaaGreat
open Go.RowKit
set_option linter.unusedVariables false
def lo2 (p : List Nat) : Nat → Nat
 | 0 => 0
 | k + 1 => lo2 p k + p.getD (10 + k) 0 * 256 ^ k
theorem or_lo64 {n x k : Nat} (hn : n < 256 ^ k) (hk : k < 7) (hx : x < 256) :
  bits BinOp.or IntKind.i64 (n : Int) (IntKind.i64.wrap ((x : Int) * 2 ^ (8 * k))) = ((n + x * 256 ^ k : Nat) : Int) := by
 have hp : (2 : Nat) ^ (8 * k) = 256 ^ k := by rw [Nat.pow_mul]
 have h56 : 256 ^ k ≤ 256 ^ 6 := Nat.pow_le_pow_right (by omega) (by omega)
 have hx2 : x * 256 ^ k ≤ 255 * 256 ^ 6 := Nat.mul_le_mul (by omega) h56
 simp only [Nat.reducePow, Nat.reduceMul] at h56 hx2
 have e : ((x : Int) * 2 ^ (8 * k)) = ((x * 256 ^ k : Nat) : Int) := by rw [← hp]; push_cast; rfl
 have hw : IntKind.i64.wrap ((x * 256 ^ k : Nat) : Int) = ((x * 256 ^ k : Nat) : Int) := by rw [IntKind.wrap_i64]; omega
 rw [e, hw, (bits_nat .i64 63 (by decide) (fun n h0 h1 => by rw [IntKind.wrap_i64]; omega) n _ (by omega) (by omega)).2]
 have h := Nat.two_pow_add_eq_or_of_lt (i := 8 * k) (b := n) (by rw [hp]; exact hn) x
 rw [hp] at h
 rw [Nat.or_comm, Nat.mul_comm x, ← h, Nat.add_comm]
theorem wrap_of64 (x : Int) : IntKind.i64.wrap x = wrap64 x := by rw [IntKind.wrap_i64]; unfold wrap64; rfl
set_option maxHeartbeats 1000000 in
set_option maxRecDepth 100000 in
theorem psize_any (p : List Nat) (hl : p.length = 512) (h8 : ∀ x ∈ p, x < 256) (w : World) :
  Calls Tryz.prog 128 #[.agg (bvs p)] w (fun e w' => e = .returned (.int .i64 (Pg.size p : Nat)) ∧ Below w.heap.size w w') := by
 obtain ⟨D, hD⟩ : ∃ D, bvs p = D := ⟨_, rfl⟩
 obtain ⟨W, hW⟩ : ∃ W, w.alloc (.cells D 164) = W := ⟨_, rfl⟩
 have HD : Hid (Rw W w.heap.size 164 (bvs p)) := by unfold Hid; rw [← hW, hD]; exact Rw.new w _ _
 have HBW : Hid (Below w.heap.size w W) := by unfold Hid; rw [← hW]; exact (Below.refl _ _).alloc (Nat.le_refl _) _
 have HL := Lib.hid hl
 have H8 := Lib.hid h8
 rw [hD]
 clear hD hl h8
 go_enter Tryz.func128, Tryz.ntmps128
 go_wp2
 go_loopw [3, 8] (fun n i wr => ∃ k : Nat, k ≤ 2 ∧ n = .int .i64 (lo2 p k : Nat) ∧ i = .int .i64 k ∧ wr = W) (fun _ i _ => 2 - (intOf i).toNat)
 case atStart => exact ⟨0, by omega, rfl, rfl, rfl⟩
 case round =>
  obtain ⟨k, hk, rfl, rfl, rfl⟩ := hrel
  by_cases hlt : k < 2
  ·have hl := HL.out
   obtain ⟨x, hx⟩ : ∃ x, p[10 + k]? = some x := ⟨_, List.getElem?_eq_getElem (by omega)⟩
   have hx8 : x < 256 := H8.out x (List.mem_of_getElem? hx)
   have hc := HD.out.byte hx
   have hn : lo2 p k < 256 ^ k := by
    rcases (show k = 0 ∨ k = 1 by omega) with rfl | rfl
    ·simp [lo2]
    ·have : p.getD (10 + 0) 0 < 256 := by
      rw [List.getD_eq_getElem?_getD]
      cases hq : p[10 + 0]? with
      | none => simp
      | some y => exact H8.out y (List.mem_of_getElem? hq)
     simp only [lo2]; omega
   have ho := or_lo64 hn (by omega) hx8
   have e : lo2 p (k + 1) = lo2 p k + x * 256 ^ k := by rw [lo2, List.getD_eq_getElem?_getD, hx]; rfl
   rw [← e] at ho
   rw [wrap_of64] at ho
   clear e hn hx hl
   go_wp2
   exact ⟨⟨k + 1, by omega, rfl, by go_num, trivial⟩, by simp [intOf]; omega⟩
  ·have h0 : k = 2 := by omega
   subst h0
   have e : lo2 p 2 = Pg.size p := by simp only [lo2, Pg.size, Nat.reduceAdd]; omega
   rw [e]
   go_wp2
   go_ret
   exact ⟨rfl, HBW.out⟩
theorem unsummed_list (n k : Nat) (b : List Nat) (hb : b.length ≤ 496) : pu (pu ((pu (List.replicate 512 0) 4 (bts n 4)).set 8 k) 10 (bts b.length 2)) 12 b = [0, 0, 0, 0] ++ Pg.rest n k b := by
 have e0 : List.replicate 512 0 = [0, 0, 0, 0] ++ ([0, 0, 0, 0] ++ ([0, 0, 0, 0] ++ (List.replicate b.length 0 ++ List.replicate (500 - b.length) 0))) := by
  rw [List.replicate_append_replicate, show b.length + (500 - b.length) = 500 by omega]; rfl
 obtain ⟨R, hR⟩ : ∃ R, List.replicate b.length 0 = R := ⟨_, rfl⟩
 have hRl : b.length = R.length := by rw [← hR, List.length_replicate]
 rw [hR] at e0
 rw [e0, pu_mid (a := [0, 0, 0, 0]) (b := [0, 0, 0, 0]) (l := bts n 4) (k := 4) rfl rfl]
 have e1 : ([0, 0, 0, 0] ++ (bts n 4 ++ ([0, 0, 0, 0] ++ (R ++ List.replicate (500 - b.length) 0)))).set 8 k = [0, 0, 0, 0, Cr.byt n 0, Cr.byt n 1, Cr.byt n 2, Cr.byt n 3, k, 0] ++ ([0, 0] ++ (R ++ List.replicate (500 - b.length) 0)) := rfl
 rw [e1, pu_mid (a := [0, 0, 0, 0, Cr.byt n 0, Cr.byt n 1, Cr.byt n 2, Cr.byt n 3, k, 0]) (b := [0, 0]) (l := bts b.length 2) (k := 10) rfl rfl, ← List.append_assoc, pu_mid (k := 12) (by rfl) hRl]
 simp [Pg.rest, Pg.head, bts, Cr.byt, List.range_succ]
set_option maxHeartbeats 2000000 in
set_option maxRecDepth 100000 in
theorem punsummed_any (n k : Nat) (v : Value) (b : List Nat) (B : Nat) (w : World) (hn : n < 65536) (hk : k < 256) (hv : Lv yK w B v b) (hB : B ≤ w.heap.size) (hb : b.length ≤ 496) :
  Calls Tryz.prog 115 #[.int .i64 (n : Nat), .int .u8 (k : Nat), v] w (fun e w' => e = .returned (.agg (bvs ([0, 0, 0, 0] ++ Pg.rest n k b))) ∧ Below w.heap.size w w') := by
 have hz := zero512V
 have hb8 : ∀ x ∈ b, x < 256 := fun x hx => hv.ok_ x hx
 have HNS := Lib.hid none512_size
 obtain ⟨Z, hZ⟩ : ∃ Z, none512 = Z := ⟨_, rfl⟩
 rw [hZ] at hz HNS
 obtain ⟨W, hW⟩ : ∃ W, (w.alloc (.cells Z 164)).alloc (.cells Z 164) = W := ⟨_, rfl⟩
 have HZ0 : Hid (Rw W w.heap.size 164 Z) := by unfold Hid; rw [← hW]; exact (Rw.new w _ _).old _
 have hz1 : Rw W (w.heap.size + 1) 164 (bvs (List.replicate 512 0)) := by rw [← hW]; show Rw _ _ _ none512; rw [hZ]; exact Rw.at_ (by simp) _ _
 have HBW : Hid (Below w.heap.size w W) := by unfold Hid; rw [← hW]; exact ((Below.refl _ _).alloc (Nat.le_refl _) _).alloc (by simp) _
 have HZ1 := Lib.hid hz1
 have HV := Lib.hid (hv.below_ HBW.out hB)
 have HK := Lib.hid hk
 have H8 := Lib.hid hb8
 have hn4 : n < 4294967296 := by omega
 obtain ⟨Z5, hZ5⟩ : ∃ Z, List.replicate 512 0 = Z := ⟨_, rfl⟩
 have hzl : Z5.length = 512 := by rw [← hZ5]; exact List.length_replicate
 have hz8 : ∀ x ∈ Z5, x < 256 := fun x hx => by rw [← hZ5] at hx; rw [List.eq_of_mem_replicate hx]; omega
 rw [hZ5] at hz1
 have HC1 := Lib.hid (play_any (w.heap.size + 1) 4 4 508 n _ Z5 W hn4 hz1 hz8 (by omega) (by omega))
 obtain ⟨A, c, rfl, h1, h2, -⟩ := hv
 have hFl : ([0, 0, 0, 0] ++ Pg.rest n k b).length = 512 := by rw [List.length_append, Pg.rest_len hb]; rfl
 obtain ⟨F, hF⟩ : ∃ F, bvs ([0, 0, 0, 0] ++ Pg.rest n k b) = F := ⟨_, rfl⟩
 have HFS : Hid ((Tryz.prog.info? 164).map (·.size) = some F.size) := by unfold Hid; rw [← hF]; exact size512l hFl
 have HFO : Hid (F.all (·.oneCell') = true) := by unfold Hid; rw [← hF]; exact bvs_one _
 have HFZ : Hid (Z.size = F.size) := by unfold Hid; rw [HNS.out, ← hF, bvs_size, hFl]
 have HF := Lib.hid hF
 rw [hF]
 clear hz1 hk hb8 hZ h1 h2 hF hFl
 go_enter Tryz.func115, Tryz.ntmps115
 go_wp2_with (fail)
 refine HC1.out.mono ?_
 rintro e w1 ⟨⟨y, rfl⟩, hr1, hg1⟩
 obtain ⟨P1, hP1⟩ : ∃ P, pu Z5 4 (bts n 4) = P := ⟨_, rfl⟩
 have hl1 : P1.length = 512 := by rw [← hP1, pu_len (by rw [bts_len]; omega), hzl]
 have h81 : ∀ x ∈ P1, x < 256 := by rw [← hP1]; exact pu_lt hz8 (bts_lt _ _)
 rw [hP1] at hr1
 have hZ1 : Rw w1 w.heap.size 164 Z := (hg1.block _ HZ0.out.lt (by intro e; injection e with e; omega)).trans HZ0.out
 have hB1 : Below w.heap.size w w1 := HBW.out.grown hg1 HBW.out.size (fun k hk => by injection hk with hk; omega)
 obtain ⟨x8, hx8⟩ : ∃ x, P1[8]? = some x := ⟨_, List.getElem?_eq_getElem (by omega)⟩
 have hc8 := hr1.byte hx8
 have hf8 := hr1.frozen 8
 obtain ⟨w2, hw2⟩ : ∃ w', w1.setCell ⟨w.heap.size + 1, 8, none⟩ (.int .u8 (k : Nat)) = w' := ⟨_, rfl⟩
 have hr2 := hr1.setByte 8 k
 have hZ2 : Rw w2 w.heap.size 164 Z := by rw [← hw2]; exact hZ1.setOther (by omega) _ _
 have hB2 : Below w.heap.size w w2 := by rw [← hw2]; exact hB1.setCell (p := ⟨w.heap.size + 1, 8, none⟩) (by show w.heap.size ≤ w.heap.size + 1; omega) _
 obtain ⟨P2, hP2⟩ : ∃ P, P1.set 8 k = P := ⟨_, rfl⟩
 have hl2 : P2.length = 512 := by rw [← hP2, List.length_set, hl1]
 have h82 : ∀ x ∈ P2, x < 256 := fun x hx => by
  rw [← hP2] at hx
  rcases List.mem_or_eq_of_mem_set hx with h | rfl
  ·exact h81 x h
  ·exact HK.out
 rw [hP2, hw2] at hr2
 have HC2 := Lib.hid (play_any (w.heap.size + 1) 10 2 502 b.length _ P2 w2 (by omega) hr2 h82 (by omega) (by omega))
 obtain ⟨P3, hP3⟩ : ∃ P, pu P2 10 (bts b.length 2) = P := ⟨_, rfl⟩
 have hl3 : P3.length = 512 := by rw [← hP3, pu_len (by rw [bts_len]; omega), hl2]
 have HL3 := Lib.hid hl3
 have HE : Hid (bvs (pu P3 12 b) = F) := by
  unfold Hid; rw [← hP3, ← hP2, ← hP1, ← hZ5, unsummed_list n k b hb]; exact HF.out
 rw [hP3] at HC2
 have HZ2 := Lib.hid hZ2
 have HB2 := Lib.hid hB2
 have hg12 : w1.grownBy w2 (some (w.heap.size + 1)) := by rw [← hw2]; exact ⟨rfl, rfl, rfl, by simp [World.setCell], fun k _ hk => Below.heap_setCell _ _ _ k (fun e => hk (by rw [e]))⟩
 have HV2 := Lib.hid ((HV.out.kept_ hg1 (by have := HBW.out.size; omega) (fun k hk => by injection hk with hk; omega)).kept_ hg12 (by have := hB1.size; omega) (fun k hk => by injection hk with hk; omega))
 clear hg12 HC1 hr1 hg1 hP1 hl1 h81 hZ1 hB1 hx8 hr2 hZ2 hB2 hP2 hl2 h82 hP3 hl3 hZ5 hzl hz8 hW HZ0 HBW HZ1 hz
 go_wp2_with (fail)
 refine HC2.out.mono ?_
 rintro e w3 ⟨⟨y2, rfl⟩, hr3, hg3⟩
 have hZ3 : Rw w3 w.heap.size 164 Z := (hg3.block _ HZ2.out.lt (by intro e; injection e with e; omega)).trans HZ2.out
 have hB3 : Below w.heap.size w w3 := HB2.out.grown hg3 HB2.out.size (fun k hk => by injection hk with hk; omega)
 have hv3 := HV2.out.kept_ hg3 (by have := HB2.out.size; omega) (fun k hk => by injection hk with hk; omega)
 obtain ⟨w4, hc, hr4, hg4⟩ := copy_arr (w := w3) (k := 12) (dl := 500) (dc := 500) hr3 (m := b) (B := B) hv3.bv_ (by have := HL3.out; omega) (by omega)
 rw [HE.out] at hr4
 have HZ4 : Hid (Rw w4 w.heap.size 164 Z) := (hg4.block _ hZ3.lt (by intro e; injection e with e; omega)).trans hZ3
 have HB4 : Hid (Below w.heap.size w w4) := hB3.grown hg4 hB3.size (fun k hk => by injection hk with hk; omega)
 have HR4 := Lib.hid hr4
 clear HC2 hr3 hg3 hZ3 hB3 hv3 hr4 hg4 HV2 HB2 HZ2 HE HV hw2
 go_wp2_with (first
  | (refine wpList_load_row rfl _ _ rfl (w.heap.size + 1) rfl 164 F (0, 0) _ HR4.out Tryz.underlying164 rfl HFS.out ?_)
  | (refine wpList_store_row rfl _ _ _ rfl w.heap.size F rfl rfl 164 _ HZ4.out HFS.out HFZ.out HFO.out ?_))
 refine bodyPost_ret (v := .agg F) (results_cell_row rfl _ _ w.heap.size 164 F (0, 0) _ rfl (Rw.row HZ4.out F) Tryz.underlying164 rfl HFS.out) rfl ⟨rfl, below_setRow HB4.out (by omega) _⟩
end Go.Proofs.YtiafeniflkikeaaGreat
namespace Go.Proofs.YtiafeniflkikeaaGreat
open Go.RowKit
set_option linter.unusedVariables false
theorem drop4 (l : List Nat) : ([0, 0, 0, 0] ++ l).drop 4 = l := rfl
theorem page_pu (n k : Nat) (b : List Nat) : pu ([0, 0, 0, 0] ++ Pg.rest n k b) 0 (four (Cr.of (([0, 0, 0, 0] ++ Pg.rest n k b).drop 4))) = Pg.page n k b := by
 rw [pu_front (by rfl), drop4]; rfl
set_option maxHeartbeats 2000000 in
set_option maxRecDepth 100000 in
theorem ppgput_any (n : Int) (k : Nat) (v : Value) (b : List Nat) (B : Nat) (w : World) (hk : k < 256) (hv : Lv yK w B v b) (hB : B ≤ w.heap.size) :
    Calls Tryz.prog 90 #[.int .i64 n, .int .u8 (k : Nat), v] w (IsVE (Pg.putE n k b) w) := by
  have HM := Lib.hid (pmaybe_any n w)
  by_cases h0 : n < 0 ∨ 65536 ≤ n
  · have HE := Lib.hid (Pg.putE_arg (k := k) (b := b) h0)
    have hd : decide (0 ≤ n ∧ n < 65536) = false := decide_eq_false (by omega)
    rw [hd] at HM
    clear hd h0 hv
    go_enter Tryz.func90, Tryz.ntmps90
    go_wp2_with fail
    refine HM.out.mono ?_
    rintro e w1 ⟨rfl, rfl⟩
    go_wp2
    go_ret2
    exact IsVE.none_b HE.out rfl (Below.refl _ _)
  have hd : decide (0 ≤ n ∧ n < 65536) = true := decide_eq_true (by omega)
  rw [hd] at HM
  by_cases h2 : 496 < b.length
  · have HE := Lib.hid (Pg.putE_lim (n := n) (k := k) (b := b) (by omega) h2)
    have h2i : (496 : Int) < (b.length : Int) := by omega
    obtain ⟨A, c, rfl, k1, k2, -, -, -⟩ := hv
    have hll : b.length ≤ 9223372036854775807 := by simp only [maxLen] at k2; omega
    clear h2 hd h0 k1 k2
    go_enter Tryz.func90, Tryz.ntmps90
    go_wp2_with fail
    refine HM.out.mono ?_
    rintro e w1 ⟨rfl, rfl⟩
    go_wp2
    go_ret2
    exact IsVE.none_b HE.out rfl (Below.refl _ _)
  have HE := Lib.hid (Pg.putE_ok (n := n) (k := k) (b := b) (by omega) h2)
  obtain ⟨N, rfl⟩ := Int.eq_ofNat_of_zero_le (show 0 ≤ n by omega)
  rw [Int.toNat_natCast] at HE
  have hN : N < 65536 := by omega
  have hb8 : ∀ x ∈ b, x < 256 := fun x hx => hv.ok_ x hx
  have HU := Lib.hid (punsummed_any N k v b B w hN hk hv hB (by omega))
  have HP := page_pu N k b
  have hr8 : ∀ x ∈ [0, 0, 0, 0] ++ Pg.rest N k b, x < 256 := fun x hx => by
    rcases List.mem_append.1 hx with h | h
    · simp at h; omega
    · exact Pg.rest_lt hk hb8 x h
  have hrl : ([0, 0, 0, 0] ++ Pg.rest N k b).length = 512 := by rw [List.length_append, Pg.rest_len (by omega)]; rfl
  obtain ⟨R, hR⟩ : ∃ R, [0, 0, 0, 0] ++ Pg.rest N k b = R := ⟨_, rfl⟩
  rw [hR] at HU HP hr8 hrl
  have HS : Hid (∀ w, Calls Tryz.prog 117 #[.agg (bvs R)] w (fun e w' => e = .returned (.agg (bvs (four (Cr.of (R.drop 4))))) ∧ Below w.heap.size w w')) := fun w => pgsum_any R hrl hr8 w
  have HT : Hid (∀ w, Calls Tryz.prog 116 #[.agg (bvs R), .agg (bvs (four (Cr.of (R.drop 4))))] w (fun e w' => e = .returned (.agg (bvs (Pg.page N k b))) ∧ Below w.heap.size w w')) := fun w => by
    have h := psummed_any R (four (Cr.of (R.drop 4))) hrl rfl (four_lt _) w
    rwa [HP] at h
  have hpl : (Pg.page N k b).length = 512 := Pg.page_len (by omega)
  have HP8 : Hid (∀ x ∈ Pg.page N k b, x < 256) := Pg.page_lt hk hb8
  have HPL := Lib.hid hpl
  have HFR : Hid ((bvs R).size = 512) := by unfold Hid; rw [bvs_size, hrl]
  have HSR := Lib.hid (size512l hrl)
  have HOR := Lib.hid (bvs_one R)
  have HSP := Lib.hid (size512l hpl)
  have HOP := Lib.hid (bvs_one (Pg.page N k b))
  have HLP : Hid ((bvs (Pg.page N k b)).size = 512) := by unfold Hid; rw [bvs_size, hpl]
  obtain ⟨P, hP⟩ : ∃ P, Pg.page N k b = P := ⟨_, rfl⟩
  obtain ⟨F, hF⟩ : ∃ F, bvs R = F := ⟨_, rfl⟩
  obtain ⟨C, hC⟩ : ∃ F, bvs P = F := ⟨_, rfl⟩
  obtain ⟨S4, hS4⟩ : ∃ F, bvs (four (Cr.of (R.drop 4))) = F := ⟨_, rfl⟩
  rw [hS4] at HS HT
  rw [hF] at HU HS HT HFR HSR HOR
  rw [hP] at HE HT HP8 HPL HSP HOP HLP
  rw [hC] at HT HSP HOP HLP
  have HC := Lib.hid hC
  have hz := zero512V
  have HNS := Lib.hid none512_size
  obtain ⟨Z, hZ⟩ : ∃ Z, none512 = Z := ⟨_, rfl⟩
  rw [hZ] at hz HNS
  have h2i : ¬ (496 : Int) < (b.length : Int) := by omega
  obtain ⟨A, c, rfl, k1, k2, -, -, -⟩ := hv
  have hll : b.length ≤ 9223372036854775807 := by omega
  clear h2 hd h0 k1 k2 hR hr8 hrl hP hF hC hS4 hZ hpl hb8 HP hk hB hN
  go_enter Tryz.func90, Tryz.ntmps90
  go_wp2_with fail
  refine HM.out.mono ?_
  rintro e w1 ⟨rfl, rfl⟩
  go_wp2_with fail
  refine HU.out.mono ?_
  rintro e w2 ⟨rfl, b2⟩
  have HB2 := Lib.hid b2
  clear b2 HU HM
  go_wp2_with (refine wpList_store_row rfl _ _ _ rfl w2.heap.size F rfl rfl 164 _ (heap_alloc_new w2 _) HSR.out (by rw [HNS.out, HFR.out]) HOR.out ?_
               rw [World.setRow_alloc_new])
  generalize hX : w2.alloc (.cells F 164) = X
  have HX0 : Hid (Rw X w2.heap.size 164 F) := by unfold Hid; rw [← hX]; exact Rw.new _ _ _
  have HBX : Hid (Below w1.heap.size w1 X) := by unfold Hid; rw [← hX]; exact HB2.out.alloc HB2.out.size _
  have HZ2 : Hid (w1.heap.size ≤ w2.heap.size) := HB2.out.size
  clear hX HB2 hz
  have hS0 : Rw X.drew w2.heap.size 164 F ∧ Below w1.heap.size w1 X.drew := ⟨HX0.out.drew, HBX.out.drew⟩
  refine wp_region_m (fun w' => Rw w' w2.heap.size 164 F ∧ Below w1.heap.size w1 w') 4 (by kernel_rfl) ?_
  refine zM (i := 0) (v := .agg F) rfl (by kernel_rfl) (fun _ _ _ h => h) hS0 (Or.inl ⟨by rfl, fun w' hSw => exec_load_row _ _ rfl w2.heap.size rfl 164 F (0, 0) _ w' hSw.1 Tryz.underlying164 rfl HSR.out⟩) ?_
  try simp only [Act.put, zA, zC, zD, zE, zF]
  refine zM (i := 1) (v := .agg F) rfl (by kernel_rfl) (fun _ _ _ h => h) hS0 (Or.inl ⟨by rfl, fun w' hSw => exec_load_row _ _ rfl w2.heap.size rfl 164 F (0, 0) _ w' hSw.1 Tryz.underlying164 rfl HSR.out⟩) ?_
  try simp only [Act.put, zA, zB, zC, zD, zE, zF]
  refine wpAnyM_next (i := 2) (by kernel_rfl) rfl (fun K hK => ?_)
  go_simp
  refine (HS.out X.drew).mono ?_
  rintro e x1 ⟨rfl, b3⟩
  have hS1 : Rw x1 w2.heap.size 164 F ∧ Below w1.heap.size w1 x1 := ⟨hS0.1.below b3 hS0.1.lt, hS0.2.trans (b3.mono hS0.2.size)⟩
  refine hK.out _ _ (.inr hS1) ?_
  clear hK K hS0 b3
  try simp only [Act.put, zA, zB, zC, zD, zE, zF]
  refine wpAnyM_next (i := 3) (by kernel_rfl) rfl (fun K hK => ?_)
  go_simp
  refine (HT.out x1).mono ?_
  rintro e x2 ⟨rfl, b4⟩
  have hS2 : Rw x2 w2.heap.size 164 F ∧ Below w1.heap.size w1 x2 := ⟨hS1.1.below b4 hS1.1.lt, hS1.2.trans (b4.mono hS1.2.size)⟩
  refine hK.out _ _ (.inr hS2) ?_
  clear hK K hS1 b4
  try simp only [Act.put, zA, zB, zC, zD, zE, zF]
  refine wpAnyM_next (i := 4) (by kernel_rfl) rfl (fun K hK => ?_)
  rw [if_pos (by rfl)]
  refine wp_store_row 164 (.tmp 8) (.tmp 22) rfl w2.heap.size C rfl rfl 164 F hS2.1 HSP.out (by rw [HFR.out, HLP.out]) HOP.out ?_
  refine hK.out _ _ (.inl (Nat.le_refl _)) ?_
  clear hK K
  try simp only [Act.put, zA, zB, zC]
  refine wpAnyM_done (by kernel_rfl) ?_ _
  have HRF : Hid (Rw (x2.setRow w2.heap.size C) w2.heap.size 164 C) := Rw.row hS2.1 C
  have HBF : Hid (Below w1.heap.size w1 (x2.setRow w2.heap.size C)) := below_setRow hS2.2 HZ2.out _
  generalize x2.setRow w2.heap.size C = x3 at *
  clear hS2 HX0 HBX HT HS
  go_wp2
  go_ret2
  refine IsVE.of HE.out HPL.out.symm rfl ⟨HP8.out, .inr ⟨w2.heap.size, 164, by rw [HPL.out], HZ2.out, by rw [HPL.out]; simp [maxLen], ?_⟩⟩ HBF.out
  rw [HC.out]
  exact HRF.out
end Go.Proofs.YtiafeniflkikeaaGreat
namespace Go.Proofs.YtiafeniflkikeaaGreat
open Go.RowKit
set_option linter.unusedVariables false
set_option maxHeartbeats 1000000 in
set_option maxRecDepth 100000 in
theorem psclone_any (v : Value) (l : List Nat) (B : Nat) (w : World) (h : Lv yK w B v l) (hB : B ≤ w.heap.size) (hsz : l.length ≤ 140737488355328) :
  Calls Tryz.prog 129 #[v] w (IsL1 yK l w) := by
 have H0 := Lib.hid h
 obtain ⟨A, c, rfl, h1, h2, h3, _⟩ := h
 cases A with
 | none =>
  have hc := h3 rfl
  have hl : l = [] := List.eq_nil_of_length_eq_zero (by omega)
  subst hl hc
  have hq := fun w => eql_nil_slice w none 0 0
  clear h1 h2 h3 hsz hB
  go_enter Tryz.func129, Tryz.ntmps129
  go_wp2
  go_ret
  exact ⟨none, 0, rfl, OwnL.nil_ _ _ _, Below.refl _ _⟩
 | some a =>
  have HN : Hid (OwnL yK (w.alloc (.cells #[] 5)) w.heap.size (.slice (some ⟨w.heap.size, 0, none⟩) 0 0) []) := ⟨by simp, .inr ⟨w.heap.size, [], rfl, Nat.le_refl _, by simp, by simp [maxLen], heap_alloc_new w _⟩⟩
  have H1 := Lib.hid (H0.out.below_ ((Below.refl w.heap.size w).alloc (Nat.le_refl _) (.cells #[] 5)) hB)
  have hb : Below w.heap.size w (w.alloc (.cells #[] 5)) := (Below.refl _ _).alloc (Nat.le_refl _) _
  have HB := Lib.hid hb
  clear hb
  have hq := fun w => eql_nil_slice w (some a) l.length c
  go_enter Tryz.func129, Tryz.ntmps129
  go_wp2_with (at_builtin; go_must (refine wpList_append_l _ yK rfl _ _ rfl w.heap.size _ rfl [] HN.out _ rfl B l H1.out (by show _ * 1 ≤ _; simp; omega) (by simp only [maxLen, List.length_nil]; omega) (by simp) ?_; intro A3 c3 w1 hA hG))
  go_ret
  simp only [List.nil_append] at hA
  exact ⟨A3, c3, by simp, hA, HB.out.grown hG HB.out.size (fun k hk => by have e : w.heap.size = k := Option.some.inj hk; omega)⟩
set_option maxRecDepth 100000 in
theorem arr4c_at (a : Addr) (c : Nat) (w : World) : (Instr.arrayAt 167 (.slice (some a) 4 c)).run Tryz.prog w = .ok (.pointer (some a)) w := by
 simp [Instr.arrayAt, run_underlying Tryz.underlying167]
set_option maxRecDepth 100000 in
theorem arr512_at (a : Addr) (c : Nat) (w : World) : (Instr.arrayAt 164 (.slice (some a) 512 c)).run Tryz.prog w = .ok (.pointer (some a)) w := by
 simp [Instr.arrayAt, run_underlying Tryz.underlying164]
theorem equal4b {s t : List Nat} (hs : s.length = 4) (ht : t.length = 4) (hs8 : ∀ x ∈ s, x < 256) (ht8 : ∀ x ∈ t, x < 256) (w : World) :
  (Op.equalIn 10000 167 (.agg (bvs s)) (.agg (bvs t))).run Tryz.prog w = .ok (decide (s = t)) w := equal4 hs ht hs8 ht8 w
theorem equal512 {s t : List Nat} (hs : s.length = 512) (ht : t.length = 512) (hs8 : ∀ x ∈ s, x < 256) (ht8 : ∀ x ∈ t, x < 256) (w : World) :
  (Op.equalIn 10000 164 (.agg (bvs s)) (.agg (bvs t))).run Tryz.prog w = .ok (decide (s = t)) w := by
 have h := run_equalIn_bytes (P := Tryz.prog) w 9998 164 5 512 Tryz.underlying164 Tryz.underlying5 size_of5 (s.map UInt8.ofNat) (t.map UInt8.ofNat) (by simpa using hs) (by simpa using ht)
 rw [cells_u8 hs8, cells_u8 ht8, u8_inj hs8 ht8] at h
 exact h
theorem bv_range {w : World} {B b off n c : Nat} {l : List Nat} (h : Bv w B (.slice (some ⟨b, off, none⟩) n c) l) (h0 : 0 < l.length) : w.rangeAt b off (bvs l).toList := by
 obtain ⟨A, c', e, h1, h2, h3, hb⟩ := h
 injection e with e1 e2 e3
 subst e1
 obtain ⟨b', o', e, hlt, hc⟩ := hb.2 h0
 injection e with e
 injection e with e4 e5
 subst e4 e5
 intro j v hv
 have hv' : (l.map u8)[j]? = some v := hv
 rw [List.getElem?_map] at hv'
 cases hx : l[j]? with
 | none => rw [hx] at hv'; cases hv'
 | some x => rw [hx] at hv'; injection hv' with hv'; subst hv'; exact hc j x hx
theorem wpList_load_midA {P : Program} {ops : Array Oper} {rest : List Oper} {op : Oper} {a : Act} {w : World} {Q : Exit → Act → World → Prop} (hgd : op.guard = none) (ty : TypeId) (x : Operand) (ho : op.op = .load ty x)
  (b o : Nat) (hx : a.eval x = .pointer (some ⟨b, o, none⟩)) (cs : Array Value) (d : TypeDesc) (hc : w.rangeAt b o cs.toList)
  (hu : P.underlying ty = some d) (hd : d.isRow = true) (hi : (P.info? ty).map (·.size) = some cs.size)
  (h : wpList P ops Q rest (a.put op.dst (.agg cs)) w) : wpList P ops Q (op :: rest) a w :=
 wpList_load_mid hgd ty x ho b o hx cs.toList d hc hu hd (by simpa using hi) (by simpa using h)
theorem Pg.page_iff {n k : Nat} {b c S : List Nat} (hS : b.take 4 = S) (hC : S = four (Cr.of (b.drop 4))) : (b = S ++ Pg.rest n k c) ↔ Pg.page n k c = b := by
 have hl : S.length = 4 := by rw [hC]; rfl
 constructor
 ·intro h
  have hd : b.drop 4 = Pg.rest n k c := by rw [h]; exact List.drop_left' hl
  rw [Pg.page, ← hd, ← hC, ← hS, List.take_append_drop]
 ·intro h
  have hd : b.drop 4 = Pg.rest n k c := by rw [← h, Pg.page_drop]
  rw [← hd, ← hS, List.take_append_drop]
end Go.Proofs.YtiafeniflkikeaaGreat
