/-
  SpSum: (*sha.Hash).Sum; sha.Sum.
  StepM: An element put behind an own list at a step of a region that draws its order; and where the list lies then.
  VoPl: The plain vocabulary: it may be.
-/
import Derived.Test.YtglkhgchbnkekaaPk28
import Derived.Test.YtglkhgchbnkekaaPk02
import Derived.Test.YtglkhgchbnkekaaPk25
namespace Go.Proofs.Ytglkhgchbnkekaa
open Go.RowKit
set_option linter.unusedVariables false

def z74 : Array Value := hc false ⟨0, 0, 0, 0, 0, 0, 0, 0⟩ z64 0
set_option maxRecDepth 100000 in
theorem zero50 : (Try.prog.info? 107).map (fun i => (i.zero, i.size)) = some (some (.agg z74), 74) := by kernel_rfl
set_option maxRecDepth 100000 in
theorem size50 : (Try.prog.info? 107).map (·.size) = some 74 := by kernel_rfl

set_option maxHeartbeats 1000000 in
set_option maxRecDepth 100000 in
theorem hsum_any (g : Nat) (l : List Nat) (w : World) (hh : HashAt w g l) (hn : l.length ≤ 1099511627776) :
    Calls Try.prog 47 #[.pointer (some ⟨g, 0, none⟩)] w (fun e w' => e = .returned (.agg (bvs (Sh.sum l))) ∧ Below w.heap.size w w') := by
  obtain ⟨s, r, hs, hr⟩ := hh
  obtain ⟨n, hne⟩ : ∃ n, l.length = n := ⟨_, rfl⟩
  rw [hne] at hr hn
  have hm0 : (w.alloc (.cells none32 57)).cell? ⟨g, 0, none⟩ = some (.bool true) := by rw [(hr.old _).cell]; exact hc_made
  have hs74 : (hc true s r n).size = 74 := hc_size hs.len
  have hone : (hc true s r n).all (·.oneCell') = true := hc_one
  have hcount : (hc true s r n)[73]? = some (.int .u64 (n : Nat)) := hc_count hs.len
  obtain ⟨c, hce⟩ : ∃ c, hc true s r n = c := ⟨_, rfl⟩
  rw [hce] at hr hs74 hone hcount
  have HCE := Lib.hid hce
  have HS := Lib.hid hs
  have HNE := Lib.hid hne
  have hzero : ∀ w, (zeroValue 57).run Try.prog w = .ok (.agg none32) w := (zero_of_info (n := 32) (by kernel_rfl)).1
  have hzero2 := (zero_of_info zero50).1
  have HR0 : Hid (Rw (w.alloc (.cells none32 57)) g 107 c) := hr.old _
  have HR1 : Hid (Rw ((w.alloc (.cells none32 57)).alloc (.cells c 107)) (w.heap.size + 1) 107 c) := Rw.at_ (by simp) _ _
  have HD1 : Hid (Rw ((w.alloc (.cells none32 57)).alloc (.cells c 107)) w.heap.size 57 none32) := (Rw.new w _ _).old _
  have HB1 : Hid (Below w.heap.size w ((w.alloc (.cells none32 57)).alloc (.cells c 107))) := ((Below.refl w.heap.size w).alloc (Nat.le_refl _) _).alloc (by simp) _
  have c73 : ((w.alloc (.cells none32 57)).alloc (.cells c 107)).cell? ⟨g, 73, none⟩ = some (.int .u64 (n : Nat)) := ((hr.old _).old _).cell 73 |>.trans hcount
  have hset : ((w.alloc (.cells none32 57)).alloc (.cells z74 107)).setRow (w.heap.size + 1) c = (w.alloc (.cells none32 57)).alloc (.cells c 107) := by
    have := World.setRow_alloc_new (w.alloc (.cells none32 57)) z74 c 107
    rw [show (w.alloc (.cells none32 57)).heap.size = w.heap.size + 1 by simp] at this
    exact this
  have hsz : ((w.alloc (.cells none32 57)).alloc (.cells c 107)).heap.size = w.heap.size + 2 := by simp
  obtain ⟨w1, hw1⟩ : ∃ w1, (w.alloc (.cells none32 57)).alloc (.cells c 107) = w1 := ⟨_, rfl⟩
  have HW1 := Lib.hid hw1
  rw [hw1] at HR1 HD1 HB1 c73 hsz hset
  clear hce hs hr hne hw1 hcount
  go_enter Try.func47, Try.ntmps47
  have HBH := Lib.hid (behind_any n hn w1)
  have HLE := Lib.hid hn
  clear hn
  go_wp2_with (first
    | (refine wpList_load_row rfl _ _ rfl g rfl 107 c (0, 0) _ HR0.out Try.underlying107 rfl (by rw [hs74]; exact size50) ?_)
    | (refine wpList_store_row rfl _ _ _ rfl (w.heap.size + 1) c rfl rfl 107 _ (Rw.at_ (by simp) _ _) (by rw [hs74]; exact size50) (by rw [hs74]; rfl) hone ?_
       rw [hset]))
  refine HBH.out.mono ?_
  rintro e w2 ⟨A, k, rfl, hO2, hB2⟩
  have hg1 : w.heap.size + 1 < w1.heap.size := by omega
  have HH2 : Hid (HashAt w2 (w.heap.size + 1) l) := by
    have h1 := HR1.out.below hB2 hg1
    rw [← HCE.out, ← HNE.out] at h1
    exact ⟨s, r, HS.out, h1⟩
  have HD2 := Lib.hid (HD1.out.below hB2 HD1.out.lt)
  have HB2 := Lib.hid (HB1.out.trans (hB2.mono HB1.out.size))
  have HW := Lib.hid (write_any (w.heap.size + 1) l (Sh.behind n) (.slice A (Sh.behind n).length k) w2 HH2.out (hO2.src hg1) (by rw [HNE.out, Sh.behind_len]; have := Sh.noughts_lt n; have := HLE.out; omega))
  have HZ2 : Hid (w.heap.size + 1 < w2.heap.size) := Nat.lt_of_lt_of_le hg1 hB2.size
  clear HBH hO2 hB2 HH2 HD1 HB1 HR1 c73 hset HR0 HW1 hone hzero2 hsz hg1 hm0
  go_wp2_with (fail)
  refine HW.out.mono ?_
  rintro e w3 ⟨rfl, hH3, hG3⟩
  obtain ⟨s', r', hs', hr3⟩ := hH3
  have HD3 : Hid (Rw w3 w.heap.size 57 none32) := (hG3.block w.heap.size (by have := HZ2.out; omega) (by simp)).trans HD2.out
  have HB3 : Hid (Below w.heap.size w w3) := below_grown HB2.out hG3 HB2.out.size (by omega)
  have hbytes : s'.bytes = Sh.sum l := by
    have h1 := hs'
    rw [← HNE.out] at h1
    exact Sh.sum_of h1
  have HR3 := Lib.hid hr3.state
  have HDG : Hid (∀ w, Calls Try.prog 70 #[.agg (stv s').toList.toArray] w (fun e w' => e = .returned (.agg (bvs (Sh.sum l))) ∧ Below w.heap.size w w')) := fun w => by
    rw [← hbytes]
    exact digest_any s' w
  have h32 : (Sh.sum l).length = 32 := by rw [← hbytes]; exact St.bytes_len s'
  have hsz := size35l h32
  have hone := bvs_one (Sh.sum l)
  have hds : none32.size = (bvs (Sh.sum l)).size := by rw [bvs_size, h32]; rfl
  obtain ⟨dv, hdv⟩ : ∃ dv, bvs (Sh.sum l) = dv := ⟨_, rfl⟩
  rw [hdv] at hsz hone hds HDG
  have HDV := Lib.hid hdv
  have hlz : (Try.prog.info? 83).map (·.size) = some (stv s').toList.length := size23
  obtain ⟨vl, hvl⟩ : ∃ vl, (stv s').toList = vl := ⟨_, rfl⟩
  rw [hvl] at HR3 HDG hlz
  clear hdv hvl hbytes hr3 hs' hG3 HD2 HB2 HW HZ2 h32
  go_wp2_with (first
    | (refine wpList_load_mid rfl _ _ rfl (w.heap.size + 1) 1 rfl vl _ HR3.out Try.underlying83 rfl hlz ?_)
    | (go_at_call 70; (with_reducible refine (HDG.out _).mono ?_); rintro e w4 ⟨rfl, hb4⟩; have HD4 := Lib.hid (HD3.out.below hb4 HD3.out.lt); have HB4 := Lib.hid (HB3.out.trans (hb4.mono HB3.out.size)); clear hb4)
    | (refine wpList_store_row rfl _ _ _ rfl w.heap.size dv rfl rfl 57 _ HD4.out hsz hds hone ?_))
  refine bodyPost_ret (v := .agg dv) (results_cell_row rfl _ _ w.heap.size 57 dv (0, 0) _ rfl (Rw.row HD4.out dv) Try.underlying57 rfl hsz) rfl ⟨by rw [HDV.out], HB4.out.trans (below_setRow (Below.refl _ _) (Nat.le_refl _) _)⟩

set_option maxHeartbeats 1000000 in
set_option maxRecDepth 100000 in
theorem sum_any (v : Value) (l : List Nat) (B : Nat) (w : World) (hB : B ≤ w.heap.size) (h : Bv w B v l) (hn : l.length ≤ 1099511627776) :
    Calls Try.prog 31 #[v] w (fun e w' => e = .returned (.agg (bvs (Sh.sum l))) ∧ Below w.heap.size w w') := by
  have hzero : ∀ w, (zeroValue 57).run Try.prog w = .ok (.agg none32) w := (zero_of_info (n := 32) (by kernel_rfl)).1
  have HV := Lib.hid h
  have HN := Lib.hid hn
  have HBB := Lib.hid hB
  clear h hn hB
  go_enter Try.func31, Try.ntmps31
  go_wp2_with (fail)
  refine (new_any _).mono ?_
  rintro e w1 ⟨g, rfl, hg, hH1, hb1⟩
  have hz : w.heap.size + 1 ≤ g := by simpa using hg
  have hb0 : Below w.heap.size w (w.alloc (.cells none32 57)) := (Below.refl w.heap.size w).alloc (Nat.le_refl _) _
  have HD1 : Hid (Rw w1 w.heap.size 57 none32) := (Rw.new w _ _).below hb1 (by simp)
  have HB1 : Hid (Below w.heap.size w w1) := hb0.trans (hb1.mono (by simp))
  have HV1 : Hid (Bv w1 B v l) := HV.out.below_ HB1.out HBB.out
  have HW := Lib.hid (write_any g [] l v w1 hH1 (HV1.out.src (by have := HBB.out; omega) hH1.lt) (by have := HN.out; simp; omega))
  have HGE := Lib.hid hz
  have HSZ := Lib.hid hH1.lt
  clear hg hH1 hb1 hb0 hz
  go_wp2_with (fail)
  refine HW.out.mono ?_
  rintro e w2 ⟨rfl, hH2, hG2⟩
  rw [List.nil_append] at hH2
  have HD2 : Hid (Rw w2 w.heap.size 57 none32) := (hG2.block w.heap.size (by have := HSZ.out; have := HGE.out; omega) (by have := HGE.out; simp; omega)).trans HD1.out
  have HB2 : Hid (Below w.heap.size w w2) := below_grown HB1.out hG2 HB1.out.size (by have := HGE.out; omega)
  have HS := Lib.hid (hsum_any g l w2 hH2 HN.out)
  clear hG2 hH2 HD1 HB1 HV1 HW
  go_wp2_with (fail)
  refine HS.out.mono ?_
  rintro e w3 ⟨rfl, hb3⟩
  have HD3 := Lib.hid (HD2.out.below hb3 HD2.out.lt)
  have HB3 := Lib.hid (HB2.out.trans (hb3.mono HB2.out.size))
  have h32 : (Sh.sum l).length = 32 := by unfold Sh.sum; exact St.bytes_len _
  have hsz := size35l h32
  have hone := bvs_one (Sh.sum l)
  have hds : none32.size = (bvs (Sh.sum l)).size := by rw [bvs_size, h32]; rfl
  obtain ⟨dv, hdv⟩ : ∃ dv, bvs (Sh.sum l) = dv := ⟨_, rfl⟩
  rw [hdv] at hsz hone hds ⊢
  have HDV := Lib.hid hdv
  clear hdv hb3 HD2 HB2 HS h32
  go_wp2_with (refine wpList_store_row rfl _ _ _ rfl w.heap.size dv rfl rfl 57 _ HD3.out hsz hds hone ?_)
  refine bodyPost_ret (v := .agg dv) (results_cell_row rfl _ _ w.heap.size 57 dv (0, 0) _ rfl (Rw.row HD3.out dv) Try.underlying57 rfl hsz) rfl ⟨by rw [HDV.out], HB3.out.trans (below_setRow (Below.refl _ _) (Nat.le_refl _) _)⟩
end Go.Proofs.Ytglkhgchbnkekaa
namespace Go.Proofs.Ytglkhgchbnkekaa
open Go.RowKit
set_option linter.unusedVariables false

section
variable {P : Program} {α : Type}
theorem step_append_m (w : World) {ops : Array Oper} {o : Oper} {a : Act} {K' : Act → World → Prop} {Q : Exit → Act → World → Prop} {E : Prop} (K : El P α) (hgd : o.guard = none) (s t : Operand)
    (ho : o.op = .call { callee := .builtin .append, args := #[s, t], argTypes := #[K.s, K.s] })
    (base : Nat) (v : Value) (hs : a.eval s = v) (l : List α) (hown : OwnL K w base v l) (x : Value) (hx0 : a.eval t = x) (B : Nat) (m : List α) (hx : Lv K w B x m) (hsz : (l.length + m.length) * K.bytes ≤ 140737488355328) (h63 : l.length + m.length ≤ maxLen) (hbase : base ≤ w.heap.size)
    (h : ∀ A c w', OwnL K w' base (.slice A (l ++ m).length c) (l ++ m) → w.grownBy w' v.ownBlock → Moved w v (.slice A (l ++ m).length c) → K' (a.put o.dst (.slice A (l ++ m).length c)) w') :
    if Region.wanted o (yielded ops a.tmps) = true then Oper.wp P o a w K' Q else E := by
  have hw : Region.wanted o (yielded ops a.tmps) = true := by simp [Region.wanted, hgd]
  rw [if_pos hw]
  obtain ⟨v', w', hr, hA, hG, hM⟩ := run_append_m w base v l hown o.type x B m hx hsz h63 hbase
  obtain ⟨A, c, rfl, _⟩ := hA.form_
  unfold Oper.wp execOp
  simp only [ho, resolve, invoke, builtin, Sem.run_bind, Sem.run_pure, Result.andThen_ok, List.map_toArray, List.map_cons, List.map_nil, hs, hx0, hr]
  exact h A c w' hA hG hM
theorem step_push_m (w : World) {ops : Array Oper} {o : Oper} {a : Act} {K' : Act → World → Prop} {Q : Exit → Act → World → Prop} {E : Prop} (K : El P α) (hgd : o.guard = none) (s t : Operand)
    (ho : o.op = .call { callee := .builtin .append, args := #[s, t], argTypes := #[K.s, K.s] })
    (base : Nat) (v : Value) (hs : a.eval s = v) (l : List α) (hown : OwnL K w base v l) (ht : a.eval t = .slice (some ⟨w.heap.size, 0, none⟩) 1 1) (x : α) (hx : K.ok x) (cs : Array Value) (hcs : cs = (K.enc x).toArray) (e : TypeId) (he : e = K.e) (hsz : (l.length + 1) * K.bytes ≤ 140737488355328) (h63 : l.length + 1 ≤ maxLen) (hbase : base ≤ w.heap.size)
    (h : ∀ A c w', OwnL K w' base (.slice A (l.length + 1) c) (l ++ [x]) → w.grownBy w' v.ownBlock → Moved w v (.slice A (l.length + 1) c) → K' (a.put o.dst (.slice A (l.length + 1) c)) w') :
    if Region.wanted o (yielded ops a.tmps) = true then Oper.wp P o a (w.alloc (.cells cs e)) K' Q else E := by
  subst hcs he
  refine step_append_m _ K hgd s t ho base v hs l (hown.alloc_ _) _ ht _ [x] (Lv.lit_ w hx) (by simpa using hsz) (by simpa using h63) (by simp; omega) fun A c w' h1 h2 h3 => ?_
  rw [List.length_append, List.length_singleton] at h1 h3 ⊢
  exact h A c w' h1 (grown_alloc h2) (fun k hk => (h3 k hk).imp id (fun h => by simp at h; omega))
end
end Go.Proofs.Ytglkhgchbnkekaa
namespace Go.Proofs.Ytglkhgchbnkekaa.Vo
set_option linter.unusedVariables false

theorem texts_plain (n : Nat) : texts (plain n) = (List.range n).map (fun b => [b]) := by
  induction n with
  | zero => rfl
  | succ n ih => rw [plain_succ, texts_snoc, ih, List.range_succ, List.map_append]; rfl
theorem plain_at {n k : Nat} (h : k < n) : (plain n)[k]? = some ⟨false, k, 0, 0, 0⟩ := by simp [plain, h]
theorem plain_take {n k : Nat} (h : k ≤ n) : (plain n).take k = plain k := by
  unfold plain
  rw [← List.map_take, List.take_range, Nat.min_eq_left h]
theorem good_plain (n : Nat) : Good (plain n) := by
  intro k p hk
  have hl : k < n := by have := (List.getElem?_eq_some_iff.1 hk).1; rwa [plain_len] at this
  rw [plain_at hl] at hk
  obtain rfl := Option.some.inj hk
  rw [plain_take (by omega)]
  unfold errAt
  have hb : hasByte (plain k) ⟨false, k, 0, 0, 0⟩ = false := by
    unfold hasByte
    rw [List.any_eq_false]
    intro q hq
    simp only [plain, List.mem_map, List.mem_range] at hq
    obtain ⟨b, hb, rfl⟩ := hq
    simp
    omega
  rw [if_neg (by simp), if_neg (by simp), if_neg (by rw [hb]; simp)]
theorem bytesOf_plain (n : Nat) : bytesOf (plain n) = n := by
  unfold bytesOf
  rw [List.filter_eq_self.2 (by intro q hq; simp only [plain, List.mem_map, List.mem_range] at hq; obtain ⟨b, hb, rfl⟩ := hq; rfl), plain_len]
theorem may_plain : May (plain 256) := may_iff.2 ⟨by rw [plain_len]; omega, good_plain _, by rw [bytesOf_plain]; exact Nat.le_refl _⟩
end Go.Proofs.Ytglkhgchbnkekaa.Vo
