/-
  (*sha.Hash).Sum, Copy; sha.Sum.
-/
import Derived.Test.YtejipcnihgpdhaaSpWrite
namespace Go.Proofs.Ytejipcnihgpdhaa
open Go.RowKit
set_option linter.unusedVariables false

def z74 : Array Value := hc false ⟨0, 0, 0, 0, 0, 0, 0, 0⟩ z64 0
set_option maxRecDepth 100000 in
theorem zero50 : (Try.prog.info? 50).map (fun i => (i.zero, i.size)) = some (some (.agg z74), 74) := by kernel_rfl
set_option maxRecDepth 100000 in
theorem size50 : (Try.prog.info? 50).map (·.size) = some 74 := by kernel_rfl

set_option maxHeartbeats 1000000 in
set_option maxRecDepth 100000 in
theorem hsum_any (g : Nat) (l : List Nat) (w : World) (hh : HashAt w g l) (hn : l.length ≤ 1099511627776) :
    Calls Try.prog 24 #[.pointer (some ⟨g, 0, none⟩)] w (fun e w' => e = .returned (.agg (bvs (Sh.sum l))) ∧ Below w.heap.size w w') := by
  obtain ⟨s, r, hs, hr⟩ := hh
  obtain ⟨n, hne⟩ : ∃ n, l.length = n := ⟨_, rfl⟩
  rw [hne] at hr hn
  have hm0 : (w.alloc (.cells none32 35)).cell? ⟨g, 0, none⟩ = some (.bool true) := by rw [(hr.old _).cell]; exact hc_made
  have hs74 : (hc true s r n).size = 74 := hc_size hs.len
  have hone : (hc true s r n).all (·.oneCell') = true := hc_one
  have hcount : (hc true s r n)[73]? = some (.int .u64 (n : Nat)) := hc_count hs.len
  obtain ⟨c, hce⟩ : ∃ c, hc true s r n = c := ⟨_, rfl⟩
  rw [hce] at hr hs74 hone hcount
  have HCE := Lib.hid hce
  have HS := Lib.hid hs
  have HNE := Lib.hid hne
  have hzero : ∀ w, (zeroValue 35).run Try.prog w = .ok (.agg none32) w := (zero_of_info (n := 32) (by kernel_rfl)).1
  have hzero2 := (zero_of_info zero50).1
  have HR0 : Hid (Rw (w.alloc (.cells none32 35)) g 50 c) := hr.old _
  have HR1 : Hid (Rw ((w.alloc (.cells none32 35)).alloc (.cells c 50)) (w.heap.size + 1) 50 c) := Rw.at_ (by simp) _ _
  have HD1 : Hid (Rw ((w.alloc (.cells none32 35)).alloc (.cells c 50)) w.heap.size 35 none32) := (Rw.new w _ _).old _
  have HB1 : Hid (Below w.heap.size w ((w.alloc (.cells none32 35)).alloc (.cells c 50))) := ((Below.refl w.heap.size w).alloc (Nat.le_refl _) _).alloc (by simp) _
  have c73 : ((w.alloc (.cells none32 35)).alloc (.cells c 50)).cell? ⟨g, 73, none⟩ = some (.int .u64 (n : Nat)) := ((hr.old _).old _).cell 73 |>.trans hcount
  have hset : ((w.alloc (.cells none32 35)).alloc (.cells z74 50)).setRow (w.heap.size + 1) c = (w.alloc (.cells none32 35)).alloc (.cells c 50) := by
    have := World.setRow_alloc_new (w.alloc (.cells none32 35)) z74 c 50
    rw [show (w.alloc (.cells none32 35)).heap.size = w.heap.size + 1 by simp] at this
    exact this
  have hsz : ((w.alloc (.cells none32 35)).alloc (.cells c 50)).heap.size = w.heap.size + 2 := by simp
  obtain ⟨w1, hw1⟩ : ∃ w1, (w.alloc (.cells none32 35)).alloc (.cells c 50) = w1 := ⟨_, rfl⟩
  have HW1 := Lib.hid hw1
  rw [hw1] at HR1 HD1 HB1 c73 hsz hset
  clear hce hs hr hne hw1 hcount
  go_enter Try.func24, Try.ntmps24
  have HBH := Lib.hid (behind_any n hn w1)
  have HLE := Lib.hid hn
  clear hn
  go_wp2_with (first
    | (refine wpList_load_row rfl _ _ rfl g rfl 50 c (0, 0) _ HR0.out Try.underlying50 rfl (by rw [hs74]; exact size50) ?_)
    | (refine wpList_store_row rfl _ _ _ rfl (w.heap.size + 1) c rfl rfl 50 _ (Rw.at_ (by simp) _ _) (by rw [hs74]; exact size50) (by rw [hs74]; rfl) hone ?_
       rw [hset]))
  refine HBH.out.mono ?_
  rintro e w2 ⟨A, k, rfl, hO2, hB2⟩
  have hg1 : w.heap.size + 1 < w1.heap.size := by omega
  have HH2 : Hid (HashAt w2 (w.heap.size + 1) l) := by
    have h1 := HR1.out.below hB2 hg1
    rw [← HCE.out, ← HNE.out] at h1
    exact ⟨s, r, HS.out, h1⟩
  have HD2 := Lib.hid (HD1.out.below hB2 HD1.out.lt)
  have HB2 := Lib.hid (HB1.out.trans (hB2.mono HB1.out.size))
  have HW := Lib.hid (write_any (w.heap.size + 1) l (Sh.behind n) (.slice A (Sh.behind n).length k) w2 HH2.out (hO2.src hg1) (by rw [HNE.out, Sh.behind_len]; have := Sh.noughts_lt n; have := HLE.out; omega))
  have HZ2 : Hid (w.heap.size + 1 < w2.heap.size) := Nat.lt_of_lt_of_le hg1 hB2.size
  clear HBH hO2 hB2 HH2 HD1 HB1 HR1 c73 hset HR0 HW1 hone hzero2 hsz hg1 hm0
  go_wp2_with (fail)
  refine HW.out.mono ?_
  rintro e w3 ⟨rfl, hH3, hG3⟩
  obtain ⟨s', r', hs', hr3⟩ := hH3
  have HD3 : Hid (Rw w3 w.heap.size 35 none32) := (hG3.block w.heap.size (by have := HZ2.out; omega) (by simp)).trans HD2.out
  have HB3 : Hid (Below w.heap.size w w3) := below_grown HB2.out hG3 HB2.out.size (by omega)
  have hbytes : s'.bytes = Sh.sum l := by
    have h1 := hs'
    rw [← HNE.out] at h1
    exact Sh.sum_of h1
  have HR3 := Lib.hid hr3.state
  have HDG : Hid (∀ w, Calls Try.prog 40 #[.agg (stv s').toList.toArray] w (fun e w' => e = .returned (.agg (bvs (Sh.sum l))) ∧ Below w.heap.size w w')) := fun w => by
    rw [← hbytes]
    exact digest_any s' w
  have h32 : (Sh.sum l).length = 32 := by rw [← hbytes]; exact St.bytes_len s'
  have hsz := size35l h32
  have hone := bvs_one (Sh.sum l)
  have hds : none32.size = (bvs (Sh.sum l)).size := by rw [bvs_size, h32]; rfl
  obtain ⟨dv, hdv⟩ : ∃ dv, bvs (Sh.sum l) = dv := ⟨_, rfl⟩
  rw [hdv] at hsz hone hds HDG
  have HDV := Lib.hid hdv
  have hlz : (Try.prog.info? 23).map (·.size) = some (stv s').toList.length := size23
  obtain ⟨vl, hvl⟩ : ∃ vl, (stv s').toList = vl := ⟨_, rfl⟩
  rw [hvl] at HR3 HDG hlz
  clear hdv hvl hbytes hr3 hs' hG3 HD2 HB2 HW HZ2 h32
  go_wp2_with (first
    | (refine wpList_load_mid rfl _ _ rfl (w.heap.size + 1) 1 rfl vl _ HR3.out Try.underlying23 rfl hlz ?_)
    | (go_at_call 40; (with_reducible refine (HDG.out _).mono ?_); rintro e w4 ⟨rfl, hb4⟩; have HD4 := Lib.hid (HD3.out.below hb4 HD3.out.lt); have HB4 := Lib.hid (HB3.out.trans (hb4.mono HB3.out.size)); clear hb4)
    | (refine wpList_store_row rfl _ _ _ rfl w.heap.size dv rfl rfl 35 _ HD4.out hsz hds hone ?_))
  refine bodyPost_ret (v := .agg dv) (results_cell_row rfl _ _ w.heap.size 35 dv (0, 0) _ rfl (Rw.row HD4.out dv) Try.underlying35 rfl hsz) rfl ⟨by rw [HDV.out], HB4.out.trans (below_setRow (Below.refl _ _) (Nat.le_refl _) _)⟩

/-- A copy of a hash. -/
theorem copy_any (g : Nat) (l : List Nat) (w : World) (hh : HashAt w g l) :
    Calls Try.prog 25 #[.pointer (some ⟨g, 0, none⟩)] w (fun e w' => ∃ g', e = .returned (.pointer (some ⟨g', 0, none⟩)) ∧ w.heap.size ≤ g' ∧ HashAt w' g' l ∧ Below w.heap.size w w') := by
  obtain ⟨s, r, hs, hr⟩ := hh
  have hm0 : w.cell? ⟨g, 0, none⟩ = some (.bool true) := by rw [hr.cell]; exact hc_made
  have hs74 : (hc true s r l.length).size = 74 := hc_size hs.len
  have hone : (hc true s r l.length).all (·.oneCell') = true := hc_one
  obtain ⟨c, hce⟩ : ∃ c, hc true s r l.length = c := ⟨_, rfl⟩
  rw [hce] at hr hs74 hone
  have HCE := Lib.hid hce
  have HS := Lib.hid hs
  have HR := Lib.hid hr
  have hzero2 := (zero_of_info zero50).1
  clear hce hs hr
  go_enter Try.func25, Try.ntmps25
  go_wp2_with (first
    | (refine wpList_load_row rfl _ _ rfl g rfl 50 c (0, 0) _ HR.out Try.underlying50 rfl (by rw [hs74]; exact size50) ?_)
    | (refine wpList_store_row rfl _ _ _ rfl w.heap.size c rfl rfl 50 _ (heap_alloc_new w _) (by rw [hs74]; exact size50) (by rw [hs74]; rfl) hone ?_
       rw [World.setRow_alloc_new]))
  go_ret
  exact ⟨w.heap.size, rfl, Nat.le_refl _, ⟨s, r, HS.out, by rw [HCE.out]; exact Rw.new w _ _⟩, (Below.refl w.heap.size w).alloc (Nat.le_refl _) _⟩

set_option maxHeartbeats 1000000 in
set_option maxRecDepth 100000 in
theorem sum_any (v : Value) (l : List Nat) (B : Nat) (w : World) (hB : B ≤ w.heap.size) (h : Bv w B v l) (hn : l.length ≤ 1099511627776) :
    Calls Try.prog 16 #[v] w (fun e w' => e = .returned (.agg (bvs (Sh.sum l))) ∧ Below w.heap.size w w') := by
  have hzero : ∀ w, (zeroValue 35).run Try.prog w = .ok (.agg none32) w := (zero_of_info (n := 32) (by kernel_rfl)).1
  have HV := Lib.hid h
  have HN := Lib.hid hn
  have HBB := Lib.hid hB
  clear h hn hB
  go_enter Try.func16, Try.ntmps16
  go_wp2_with (fail)
  refine (new_any _).mono ?_
  rintro e w1 ⟨g, rfl, hg, hH1, hb1⟩
  have hz : w.heap.size + 1 ≤ g := by simpa using hg
  have hb0 : Below w.heap.size w (w.alloc (.cells none32 35)) := (Below.refl w.heap.size w).alloc (Nat.le_refl _) _
  have HD1 : Hid (Rw w1 w.heap.size 35 none32) := (Rw.new w _ _).below hb1 (by simp)
  have HB1 : Hid (Below w.heap.size w w1) := hb0.trans (hb1.mono (by simp))
  have HV1 : Hid (Bv w1 B v l) := HV.out.below_ HB1.out HBB.out
  have HW := Lib.hid (write_any g [] l v w1 hH1 (HV1.out.src (by have := HBB.out; omega) hH1.lt) (by have := HN.out; simp; omega))
  have HGE := Lib.hid hz
  have HSZ := Lib.hid hH1.lt
  clear hg hH1 hb1 hb0 hz
  go_wp2_with (fail)
  refine HW.out.mono ?_
  rintro e w2 ⟨rfl, hH2, hG2⟩
  rw [List.nil_append] at hH2
  have HD2 : Hid (Rw w2 w.heap.size 35 none32) := (hG2.block w.heap.size (by have := HSZ.out; have := HGE.out; omega) (by have := HGE.out; simp; omega)).trans HD1.out
  have HB2 : Hid (Below w.heap.size w w2) := below_grown HB1.out hG2 HB1.out.size (by have := HGE.out; omega)
  have HS := Lib.hid (hsum_any g l w2 hH2 HN.out)
  clear hG2 hH2 HD1 HB1 HV1 HW
  go_wp2_with (fail)
  refine HS.out.mono ?_
  rintro e w3 ⟨rfl, hb3⟩
  have HD3 := Lib.hid (HD2.out.below hb3 HD2.out.lt)
  have HB3 := Lib.hid (HB2.out.trans (hb3.mono HB2.out.size))
  have h32 : (Sh.sum l).length = 32 := by unfold Sh.sum; exact St.bytes_len _
  have hsz := size35l h32
  have hone := bvs_one (Sh.sum l)
  have hds : none32.size = (bvs (Sh.sum l)).size := by rw [bvs_size, h32]; rfl
  obtain ⟨dv, hdv⟩ : ∃ dv, bvs (Sh.sum l) = dv := ⟨_, rfl⟩
  rw [hdv] at hsz hone hds ⊢
  have HDV := Lib.hid hdv
  clear hdv hb3 HD2 HB2 HS h32
  go_wp2_with (refine wpList_store_row rfl _ _ _ rfl w.heap.size dv rfl rfl 35 _ HD3.out hsz hds hone ?_)
  refine bodyPost_ret (v := .agg dv) (results_cell_row rfl _ _ w.heap.size 35 dv (0, 0) _ rfl (Rw.row HD3.out dv) Try.underlying35 rfl hsz) rfl ⟨by rw [HDV.out], HB3.out.trans (below_setRow (Below.refl _ _) (Nat.le_refl _) _)⟩
end Go.Proofs.Ytejipcnihgpdhaa
