/-
  stookref04.Parse: a text as a digest.
-/
import Derived.Test.YtejipcnihgpdhaaShText
import Derived.Laws.ResultCell
namespace Go.Proofs.Ytejipcnihgpdhaa
open Go.RowKit
set_option linter.unusedVariables false

namespace Sh
/-- The first k bytes that a text's digits tell. -/
def vals (c : List Nat) (k : Nat) : List Nat := (List.range k).map fun i => 16 * val (c.getD (2 * i) 0) + val (c.getD (2 * i + 1) 0)
theorem vals_succ (c : List Nat) (k : Nat) : vals c (k + 1) = vals c k ++ [16 * val (c.getD (2 * k) 0) + val (c.getD (2 * k + 1) 0)] := by simp [vals, List.range_succ]
theorem vals_len (c : List Nat) (k : Nat) : (vals c k).length = k := by simp [vals]
/-- Whether the first 2 k letters are digits. -/
def good (c : List Nat) (k : Nat) : Prop := ∀ j, j < 2 * k → val (c.getD j 0) ≠ 16
instance (c : List Nat) (k : Nat) : Decidable (good c k) := Nat.decidableBallLT _ _
def parse (c : List Nat) : List Nat × Nat := if c.length = 64 ∧ good c 32 then (vals c 32, 0) else (List.replicate 32 0, 5)
theorem parse_bad {c : List Nat} (h : ¬ (c.length = 64 ∧ good c 32)) : parse c = (List.replicate 32 0, 5) := by unfold parse; rw [if_neg h]
theorem parse_ok {c : List Nat} (h : c.length = 64) (hg : good c 32) : parse c = (vals c 32, 0) := by unfold parse; rw [if_pos ⟨h, hg⟩]
theorem good_succ {c : List Nat} {k : Nat} (h : good c k) (h0 : val (c.getD (2 * k) 0) ≠ 16) (h1 : val (c.getD (2 * k + 1) 0) ≠ 16) : good c (k + 1) := by
  intro j hj
  by_cases hjk : j < 2 * k
  · exact h j hjk
  · by_cases e : j = 2 * k
    · subst e; exact h0
    · obtain rfl : j = 2 * k + 1 := by omega
      exact h1
theorem val_le (c : Nat) : val c ≤ 16 := by unfold val; split <;> (try split) <;> omega
end Sh
/-- A text's letters. -/
def chars (s : ByteArray) : List Nat := s.data.toList.map UInt8.toNat

theorem size35 : (Try.prog.info? 35).map (·.size) = some 32 := by kernel_rfl
theorem bvs_one (l : List Nat) : (bvs l).all (·.oneCell') = true := by
  rw [Array.all_eq_true_iff_forall_mem]
  intro v hv
  simp only [bvs, List.mem_toArray, List.mem_map] at hv
  obtain ⟨x, _, rfl⟩ := hv
  rfl
theorem size35l {l : List Nat} (h : l.length = 32) : (Try.prog.info? 35).map (·.size) = some (bvs l).size := by rw [bvs_size, h]; exact size35
/-- The cells of the digest of noughts. -/
def none32 : Array Value := bvs (List.replicate 32 0)
theorem none32_size : (Try.prog.info? 35).map (·.size) = some none32.size := size35l rfl
theorem none32_one : none32.all (·.oneCell') = true := bvs_one _
theorem results_row_tmp {fn : Func} {p u : Tmp} {ty : TypeId} (h : fn.results = #[.cell p ty, .tmp u]) (tmps : Array Value) (w : World) (g : Nat) (t : TypeId) (cs : Array Value) (n : Nat) (e : TypeId)
    (hp : tmps.getD p undef = .pointer (some ⟨g, 0, none⟩)) (hg : w.heap[g]? = some (.cells cs t (0, 0)))
    (hu : Try.prog.underlying ty = some (.array n e)) (hi : (Try.prog.info? ty).map (·.size) = some cs.size) :
    (results fn tmps).run Try.prog w = .ok (.tuple #[.agg cs, tmps.getD u undef]) w := by
  have hp' : tmps[p]?.getD undef = .pointer (some ⟨g, 0, none⟩) := by simpa using hp
  simp [results, h, hp', asAddr, run_loadVar_row w g t ty cs (0, 0) _ hg hu rfl hi]

theorem chars_at {s : ByteArray} {j : Nat} (h : j < s.size) : (chars s).getD j 0 = (s[j]'h).toNat := by
  have h' : j < s.data.toList.length := by simpa using h
  simp only [chars, List.getD_eq_getElem?_getD, List.getElem?_map, List.getElem?_eq_getElem h', Option.map_some, Option.getD_some]
  rfl
/-- The digest's array, the first k bytes of it written. -/
def dk (c : List Nat) (k : Nat) : Array Value := bvs (Sh.vals c k ++ List.replicate (32 - k) 0)
theorem dk_old (c : List Nat) {k : Nat} (h : k < 32) : (dk c k)[k]? = some (.int .u8 (0 : Nat)) := by
  refine bvs_some ?_
  rw [List.getElem?_append_right (by rw [Sh.vals_len]; omega), Sh.vals_len, Nat.sub_self]
  obtain ⟨m, hm⟩ : ∃ m, 32 - k = m + 1 := ⟨31 - k, by omega⟩
  rw [hm]; rfl
theorem dk_set (c : List Nat) {k x : Nat} (h : k < 32) (hx : Sh.vals c (k + 1) = Sh.vals c k ++ [x]) : (dk c k).setIfInBounds k (.int .u8 (x : Nat)) = dk c (k + 1) := by
  unfold dk bvs
  rw [hx]
  apply Array.ext'
  have hm : 32 - k = (32 - (k + 1)) + 1 := by omega
  rw [Array.toList_setIfInBounds, hm, List.replicate_succ]
  simp only [List.map_append, List.map_cons]
  rw [List.set_append_right _ _ (by simp [Sh.vals_len])]
  simp [Sh.vals_len, u8]

set_option maxHeartbeats 2000000 in
set_option maxRecDepth 100000 in
theorem rparse_any (s : ByteArray) (w : World) :
    Calls Try.prog 19 #[.string s] w (fun e w' => e = .returned (.tuple #[.agg (bvs (Sh.parse (chars s)).1), .int .i64 (Sh.parse (chars s)).2]) ∧ Below w.heap.size w w') := by
  have hcl : (chars s).length = s.size := by simp [chars]
  by_cases h64 : s.size = 64
  · have HC := Lib.hid (hcl.trans h64)
    have hq : ((s.size : Int) != 64) = false := by rw [bne_eq_false_iff_eq]; omega
    clear hcl
    go_enter Try.func19, Try.ntmps19
    go_wp2
    go_loopw [5] (fun i wr => ∃ k : Nat, k ≤ 32 ∧ i = .int .i64 k ∧ Hid (Rw wr w.heap.size 35 none32) ∧ Hid (Rw wr (w.heap.size + 1) 35 (dk (chars s) k)) ∧ Hid (Sh.good (chars s) k) ∧ Below w.heap.size w wr) (fun i _ => 32 - (intOf i).toNat)
    case atStart => exact ⟨0, by omega, rfl, (Rw.at_ rfl _ _).old _, Rw.at_ (by simp) _ (dk (chars s) 0), (fun j hj => by omega), ((Below.refl w.heap.size w).alloc (Nat.le_refl _) _).alloc (by simp) _⟩
    case round =>
      obtain ⟨k, hk, rfl, HN, HD, HG, hbr⟩ := hrel
      by_cases h32 : k < 32
      · have i0 : (k : Int) < 32 := by omega
        have w0 : IntKind.i64.wrap (2 * (k : Int)) = 2 * (k : Int) := by rw [IntKind.wrap_i64]; omega
        have w1 : IntKind.i64.wrap (2 * (k : Int) + 1) = 2 * (k : Int) + 1 := by rw [IntKind.wrap_i64]; omega
        have n0 : (2 * (k : Int)).toNat = 2 * k := by omega
        have n1 : (2 * (k : Int) + 1).toNat = 2 * k + 1 := by omega
        have k0 : 2 * k < s.size := by omega
        have k1 : 2 * k + 1 < s.size := by omega
        obtain ⟨c0, e0⟩ : ∃ c, (s[2 * k]'k0).toNat = c := ⟨_, rfl⟩
        obtain ⟨c1, e1⟩ : ∃ c, (s[2 * k + 1]'k1).toNat = c := ⟨_, rfl⟩
        have c08 : c0 < 256 := by rw [← e0]; exact UInt8.toNat_lt _
        have c18 : c1 < 256 := by rw [← e1]; exact UInt8.toNat_lt _
        have g0 : (chars s).getD (2 * k) 0 = c0 := (chars_at k0).trans e0
        have g1 : (chars s).getD (2 * k + 1) 0 = c1 := (chars_at k1).trans e1
        have HV0 : Hid (∀ w, Calls Try.prog 37 #[.int .u8 c0] w (IsU8 (Sh.val c0) w)) := fun w => value_any c0 c08 w
        have HV1 : Hid (∀ w, Calls Try.prog 37 #[.int .u8 c1] w (IsU8 (Sh.val c1) w)) := fun w => value_any c1 c18 w
        have hle0 := Sh.val_le c0
        have hle1 := Sh.val_le c1
        have HGb : Hid (Sh.val c0 = 16 ∨ Sh.val c1 = 16 → Sh.parse (chars s) = (List.replicate 32 0, 5)) := by
          intro h
          refine Sh.parse_bad (fun hh => ?_)
          rcases h with h | h
          · exact hh.2 (2 * k) (by omega) (by rw [g0]; exact h)
          · exact hh.2 (2 * k + 1) (by omega) (by rw [g1]; exact h)
        have HGo : Hid (Sh.val c0 ≠ 16 → Sh.val c1 ≠ 16 → Sh.good (chars s) (k + 1)) := fun h0 h1 => Sh.good_succ HG.out (by rw [g0]; exact h0) (by rw [g1]; exact h1)
        have HVs : Hid (Sh.vals (chars s) (k + 1) = Sh.vals (chars s) k ++ [16 * Sh.val c0 + Sh.val c1]) := by
          unfold Hid; rw [Sh.vals_succ, g0, g1]
        obtain ⟨p, hp⟩ : ∃ p, Sh.val c0 = p := ⟨_, rfl⟩
        obtain ⟨q, hqq⟩ : ∃ q, Sh.val c1 = q := ⟨_, rfl⟩
        rw [hp] at HV0 hle0 HGb HGo HVs
        rw [hqq] at HV1 hle1 HGb HGo HVs
        clear g0 g1 hp hqq
        go_wp2
        go_region_held3 (fun _ => True) (trivial) (first
          | (go_at_call 37; (with_reducible refine (HV0.out _).mono ?_); rintro e' w' ⟨rfl, rfl⟩)
          | (go_at_call 37; (with_reducible refine (HV1.out _).mono ?_); rintro e' w' ⟨rfl, rfl⟩))
        all_goals
          by_cases hbad : p = 16 ∨ q = 16
          · have HX := Lib.hid (HGb.out hbad)
            have hd : (p : Int) = 16 ∨ (p : Int) ≠ 16 ∧ (q : Int) = 16 := by omega
            clear hbad
            rcases hd with hd | ⟨hd, hd2⟩
            · have hq1 : ((p : Int) == 16) = true := by rw [beq_iff_eq]; exact hd
              clear hd
              go_wp2_with (first
                | (refine wpList_build_at rfl _ _ rfl none32 (by kernel_rfl) ?_)
                | (refine wpList_store_row rfl _ _ _ rfl w.heap.size none32 rfl rfl 35 none32 HN.out none32_size rfl none32_one ?_))
              refine bodyPost_ret (v := .tuple #[.agg none32, .int .i64 5]) ?_ rfl ⟨by rw [HX.out]; rfl, hbr.drew.trans (below_setRow (Below.refl _ _) (Nat.le_refl _) _)⟩
              exact results_row_tmp (fn := Try.f19) (p := 2) (u := 3) (ty := 35) rfl _ _ w.heap.size 35 none32 _ _ rfl (Rw.row HN.out none32) Try.underlying35 none32_size
            · have hq1 : ((p : Int) == 16) = false := by rw [beq_eq_false_iff_ne]; exact hd
              have hq2 : ((q : Int) == 16) = true := by rw [beq_iff_eq]; exact hd2
              clear hd hd2
              go_wp2_with (first
                | (refine wpList_build_at rfl _ _ rfl none32 (by kernel_rfl) ?_)
                | (refine wpList_store_row rfl _ _ _ rfl w.heap.size none32 rfl rfl 35 none32 HN.out none32_size rfl none32_one ?_))
              refine bodyPost_ret (v := .tuple #[.agg none32, .int .i64 5]) ?_ rfl ⟨by rw [HX.out]; rfl, hbr.drew.trans (below_setRow (Below.refl _ _) (Nat.le_refl _) _)⟩
              exact results_row_tmp (fn := Try.f19) (p := 2) (u := 3) (ty := 35) rfl _ _ w.heap.size 35 none32 _ _ rfl (Rw.row HN.out none32) Try.underlying35 none32_size
          · have hp16 : p < 16 := by omega
            have hq16 : q < 16 := by omega
            have hq1 : ((p : Int) == 16) = false := by rw [beq_eq_false_iff_ne]; omega
            have hq2 : ((q : Int) == 16) = false := by rw [beq_eq_false_iff_ne]; omega
            have HG2 := Lib.hid (HGo.out (by omega) (by omega))
            have co : wr.drew.cell? ⟨w.heap.size + 1, k, none⟩ = some (.int .u8 (0 : Nat)) := (HD.out.cell k).trans (dk_old _ h32)
            have cf : wr.drew.frozen? ⟨w.heap.size + 1, k, none⟩ = false := HD.out.frozen k
            have HDn := Lib.hid (dk_set (chars s) h32 HVs.out)
            have hsum : (16 * (p : Int) + (q : Int)) = ((16 * p + q : Nat) : Int) := by omega
            clear hbad hsum
            go_wp2
            have hw := HD.out.set k (.int .u8 ((16 * p + q : Nat) : Int))
            rw [HDn.out] at hw
            have hcast : (((16 * p + q : Nat) : Int)) = 16 * (p : Int) + (q : Int) := by omega
            rw [hcast] at hw
            exact ⟨⟨k + 1, by omega, by go_num, HN.out.setOther (by omega) _ _, hw, HG2.out, (hbr.setCell (show w.heap.size ≤ w.heap.size + 1 by omega) _).drew⟩, by simp [intOf]; omega⟩
      · have hk32 : k = 32 := by omega
        subst hk32
        have HX := Lib.hid (Sh.parse_ok HC.out HG.out)
        have hdv : dk (chars s) 32 = bvs (Sh.vals (chars s) 32) := by simp [dk]
        rw [hdv] at HD
        have hsz : (Try.prog.info? 35).map (·.size) = some (bvs (Sh.vals (chars s) 32)).size := size35l (Sh.vals_len _ _)
        obtain ⟨dv, hdve⟩ : ∃ dv, bvs (Sh.vals (chars s) 32) = dv := ⟨_, rfl⟩
        have hd1 : dv.all (·.oneCell') = true := by rw [← hdve]; exact bvs_one _
        have hds : none32.size = dv.size := by rw [← hdve, bvs_size, Sh.vals_len]; rfl
        have HDV := Lib.hid hdve
        rw [hdve] at HD hsz
        clear hdv hdve
        go_wp2_with (first
          | (refine wpList_load_row rfl _ _ rfl (w.heap.size + 1) rfl 35 dv (0, 0) _ HD.out Try.underlying35 rfl hsz ?_)
          | (refine wpList_store_row rfl _ _ _ rfl w.heap.size dv rfl rfl 35 none32 HN.out hsz hds hd1 ?_))
        refine bodyPost_ret (v := .tuple #[.agg dv, .int .i64 0]) ?_ rfl ⟨by rw [HX.out, ← HDV.out]; rfl, hbr.trans (below_setRow (Below.refl _ _) (Nat.le_refl _) _)⟩
        exact results_row_tmp (fn := Try.f19) (p := 2) (u := 3) (ty := 35) rfl _ _ w.heap.size 35 dv _ _ rfl (Rw.row HN.out dv) Try.underlying35 hsz
  · have HX := Lib.hid (Sh.parse_bad (c := chars s) (by rw [hcl]; exact fun h => h64 h.1))
    have hq : ((s.size : Int) != 64) = true := by rw [bne_iff_ne]; omega
    clear hcl
    go_enter Try.func19, Try.ntmps19
    go_wp2_with (first
      | (refine wpList_build_at rfl _ _ rfl none32 (by kernel_rfl) ?_)
      | (refine wpList_store_row rfl _ _ _ rfl w.heap.size none32 rfl rfl 35 _ (heap_alloc_new w _) none32_size (by rfl) none32_one ?_
         rw [World.setRow_alloc_new]))
    refine bodyPost_ret (v := .tuple #[.agg none32, .int .i64 5]) ?_ rfl ⟨by rw [HX.out]; rfl, (Below.refl w.heap.size w).alloc (Nat.le_refl _) _⟩
    exact results_row_tmp (fn := Try.f19) (p := 2) (u := 3) (ty := 35) rfl _ _ w.heap.size 35 none32 _ _ rfl (heap_alloc_new w _) Try.underlying35 none32_size
end Go.Proofs.Ytejipcnihgpdhaa
