/-
  SfKept: Chapter 14: what a failure leaves of a row of files (mathematics). Any seat may take it.
  PfSo: simfs.sound; mathematics of what a failure leaves, as this package keeps it.
  PfNew: simfs: empty, New.
-/
import Derived.Test.YtmcbjcbnckpfkaaGreatPk11
import Derived.Test.YtmcbjcbnckpfkaaGreatPk19
import Derived.Test.YtmcbjcbnckpfkaaGreatPk12
import Derived.Test.YtmcbjcbnckpfkaaGreatPk16
namespace Go.Proofs.YtmcbjcbnckpfkaaGreat
open Go.RowKit
set_option linter.unusedVariables false
namespace Sf
theorem kept_snoc (t : St) (e : ByteArray × Nat) : ∀ (d : Dir) (l : List Int), kept t (d ++ [e]) l = kept t d l ++ [(kept1 (fileAt t e.2) (rest t d l)).1]
  | [], l => rfl
  | x :: d, l => by
    rw [List.cons_append, kept, kept, rest, kept_snoc t e d, List.cons_append]
theorem rest_snoc (t : St) (e : ByteArray × Nat) : ∀ (d : Dir) (l : List Int), rest t (d ++ [e]) l = (kept1 (fileAt t e.2) (rest t d l)).2
  | [], l => rfl
  | x :: d, l => by
    rw [List.cons_append, rest, rest, rest_snoc t e d]
theorem numbered_snoc (d : Dir) (e : ByteArray × Nat) : numbered (d ++ [e]) = numbered d ++ [(e.1, d.length)] := by
  unfold numbered
  rw [List.mapIdx_append]
  simp
theorem numbered_len (d : Dir) : (numbered d).length = d.length := by simp [numbered]
theorem numbered_nums (d : Dir) : (numbered d).map (·.2) = List.range d.length := by
  apply List.ext_getElem?
  intro i
  rw [List.getElem?_map, numbered, List.getElem?_mapIdx]
  cases h : d[i]? with
  | none => rw [List.getElem?_eq_none_iff] at h; rw [List.getElem?_eq_none (by simpa using h)]; rfl
  | some x => rw [List.getElem?_range (List.getElem?_eq_some_iff.1 h).1]; rfl
theorem numbered_lt (d : Dir) : ∀ e ∈ numbered d, e.2 < d.length := fun e he => by
  have h : e.2 ∈ (numbered d).map (·.2) := List.mem_map_of_mem he
  rw [numbered_nums] at h
  exact List.mem_range.1 h
theorem drop_min (l : List Int) (a : Nat) : l.drop (min (a + 1) l.length) = l.drop (a + 1) := by
  rcases Nat.lt_or_ge l.length (a + 1) with h | h
  · rw [Nat.min_eq_right (by omega), List.drop_length, List.drop_of_length_le (by omega)]
  · rw [Nat.min_eq_left h]
theorem torn_len {b : List Nat} {a : Act} {n : Nat} (ha : a.at_ ≤ b.length) (hc : a.cut = false) : (torn b a n).length ≤ max b.length (a.at_ + a.b.length) := by
  unfold torn
  simp only
  generalize (if a.at_ + n < b.length then (a.at_ + n) / 512 * 512 else a.at_ + n) = e
  by_cases h : e ≤ a.at_
  · rw [if_pos h]; exact Nat.le_max_left _ _
  · rw [if_neg h, done_len_put ha, List.length_take]
    omega
theorem kept1_len {f : File} (h : FileOk f) (l : List Int) : (kept1 f l).1.length ≤ 1048576 := by
  rcases kept1_cases f l with ⟨k, hk, e⟩ | ⟨k, a, m, hk, hc, _, e⟩
  · rw [e]; exact h.len k hk
  · rw [e]
    have h1 := h.at_ k a hk
    have h2 := torn_len (n := m) h1.1 hc
    have h3 := h.len (k + 1) (by have := (List.getElem?_eq_some_iff.1 hk).1; omega)
    rw [bytes_succ hk] at h3
    obtain ⟨ac, aa, ab⟩ := a
    simp only at hc h1 h2 h3 ⊢
    subst hc
    rw [done_len_put h1.1] at h3
    omega
end Sf
end Go.Proofs.YtmcbjcbnckpfkaaGreat
namespace Go.Proofs.YtmcbjcbnckpfkaaGreat
open Go.RowKit
set_option linter.unusedVariables false
set_option maxHeartbeats 4000000 in
set_option maxRecDepth 100000 in
theorem psound_any (u : Sl) (l : List Nat) (B : Nat) (w : World) (h : Lv yK w B (slV u) l) (hB : B ≤ w.heap.size) (hl : l.length ≤ 1048576) :
    Calls Tryz.prog 60 #[slV u] w (fun e w' => ∃ v : Sl, e = .returned (xV ⟨u, ⟨none, 0, 0⟩, v⟩) ∧ OwnL yK w' w.heap.size (slV v) l ∧ Below w.heap.size w w') := by
  obtain ⟨uA, un, uc⟩ := u
  simp only [slV] at h ⊢
  obtain ⟨W, hW⟩ : ∃ W, w.alloc (.cells #[.slice none 0 0, .slice none 0 0, .slice none 0 0] 87) = W := ⟨_, rfl⟩
  obtain ⟨p, hp⟩ : ∃ p, w.heap.size = p := ⟨_, rfl⟩
  have hb : Below p w W := by rw [← hW, ← hp]; exact (Below.refl _ _).alloc (Nat.le_refl _) _
  have hWs : W.heap.size = p + 1 := by rw [← hW, ← hp]; simp
  have hW1 : Rw W p 87 #[.slice none 0 0, .slice none 0 0, .slice none 0 0] := by rw [← hW, ← hp]; exact heap_alloc_new _ _
  have CB := Lib.hid (pbclone_any (.slice uA un uc) l B W (h.below_ hb (by omega)) (by omega) (by omega))
  have HBW := Lib.hid hb
  have HWS := Lib.hid hWs
  have HZ := Lib.hid hW1
  have HP := Lib.hid hp
  clear h hB hb hW1
  go_enter Tryz.func60, Tryz.ntmps60
  go_wp2_with fail
  refine CB.out.mono ?_
  rintro e w4 ⟨Av, cv, rfl, hO, hB⟩
  have HO := Lib.hid hO
  have HB := Lib.hid hB
  have HZ4 : Hid (Rw w4 p 87 #[.slice none 0 0, .slice none 0 0, .slice none 0 0]) := HZ.out.below hB (by omega)
  clear CB hO hB
  have j0 : w4.cell? ⟨p, 0, none⟩ = some (.slice none 0 0) := by rw [HZ4.out.cell]; rfl
  have y0 := HZ4.out.frozen 0
  obtain ⟨w5, hw5⟩ : ∃ w5, w4.setCell ⟨p, 0, none⟩ (.slice uA un uc) = w5 := ⟨_, rfl⟩
  have HZ5 : Hid (Rw w5 p 87 #[.slice uA un uc, .slice none 0 0, .slice none 0 0]) := by unfold Hid; rw [← hw5]; exact HZ4.out.set 0 _
  have j1 : w5.cell? ⟨p, 1, none⟩ = some (.slice none 0 0) := by rw [HZ5.out.cell]; rfl
  have y1 := HZ5.out.frozen 1
  obtain ⟨w6, hw6⟩ : ∃ w6, w5.setCell ⟨p, 1, none⟩ (.slice none 0 0) = w6 := ⟨_, rfl⟩
  have HZ6 : Hid (Rw w6 p 87 #[.slice uA un uc, .slice none 0 0, .slice none 0 0]) := by unfold Hid; rw [← hw6]; exact HZ5.out.set 1 _
  have j2 : w6.cell? ⟨p, 2, none⟩ = some (.slice none 0 0) := by rw [HZ6.out.cell]; rfl
  have y2 := HZ6.out.frozen 2
  obtain ⟨w7, hw7⟩ : ∃ w7, w6.setCell ⟨p, 2, none⟩ (.slice Av l.length cv) = w7 := ⟨_, rfl⟩
  have HZ7 : Hid (Rw w7 p 87 #[.slice uA un uc, .slice none 0 0, .slice Av l.length cv]) := by unfold Hid; rw [← hw7]; exact HZ6.out.set 2 _
  have HB7 : Hid (Below p w w7) := by
    have t4 : Turned (fun k => p ≤ k) w w4 := (Turned.of_below HBW.out).trans (Turned.of_below HB.out) (fun k _ h => by have := HWS.out; have : W.heap.size ≤ k := h; omega)
    have t7 : Turned (fun k => p ≤ k) w w7 := by
      rw [← hw7, ← hw6, ← hw5]
      exact ((t4.setCell (p := ⟨p, 0, none⟩) (fun _ => Nat.le_refl _) _).setCell (p := ⟨p, 1, none⟩) (fun _ => Nat.le_refl _) _).setCell (p := ⟨p, 2, none⟩) (fun _ => Nat.le_refl _) _
    exact t7.below (by have := HP.out; omega) (fun k h => h)
  have HO7 : Hid (OwnL yK w7 p (.slice Av l.length cv) l) := (HO.out.of_block fun k hk => by
    have n1 : k ≠ p := fun e => own_ne HO.out HZ4.out (by decide) (by rw [← e]; exact hk)
    have s1 : ∀ (v : World) (o : Nat) (x : Value), (v.setCell ⟨p, o, none⟩ x).heap[k]? = v.heap[k]? := fun v o x => by
      unfold World.setCell
      simp only [Array.getElem?_modify, Ne.symm n1, if_false]
    rw [← hw7, s1, ← hw6, s1, ← hw5, s1]).mono_ (by have := HWS.out; omega)
  clear HO HB
  go_wp2
  exact bodyPost_ret (v := .agg #[.slice uA un uc, .slice none 0 0, .slice Av l.length cv]) (results_cell_row rfl _ _ p 87 #[.slice uA un uc, .slice none 0 0, .slice Av l.length cv] (0, 0) _ rfl HZ7.out Tryz.underlying87 rfl (by kernel_rfl)) rfl ⟨⟨Av, l.length, cv⟩, rfl, by rw [HP.out]; exact HO7.out, by rw [HP.out]; exact HB7.out⟩
namespace Sf
theorem dirOf_fold {t : St} {rn : List RawN} (hrow : t.row = dirs t.sure rn) (l : List Int) : dirOf t l = (rn.take (took l (t.row.length + 1))).foldl doN t.sure := by
  unfold dirOf dirAt
  have hk := took_le l t.row.length
  have hl : t.row.length = rn.length := by rw [hrow, dirs_len]
  generalize took l (t.row.length + 1) = k at hk ⊢
  split
  · rename_i e
    subst e
    rfl
  · rename_i e
    rw [hrow, List.getD_eq_getElem?_getD, dirs_at _ _ _ (by omega), show k - 1 + 1 = k by omega]
    rfl
theorem numbered_keys (d : Dir) : (numbered d).map (·.1) = d.map (·.1) := by
  unfold numbered
  apply List.ext_getElem?
  intro i
  simp only [List.getElem?_map, List.getElem?_mapIdx]
  cases d[i]? <;> rfl
theorem OkDir.of_keys {d e : Dir} (h : OkDir d) (hk : e.map (·.1) = d.map (·.1)) : OkDir e := by
  have h1 : (d.map (·.1)).Pairwise (fun a b => a.toList < b.toList) := by rw [List.pairwise_map]; exact h.rise
  rw [← hk, List.pairwise_map] at h1
  refine ⟨h1, fun x hx => ?_⟩
  have h2 : x.1 ∈ d.map (·.1) := by rw [← hk]; exact List.mem_map_of_mem hx
  obtain ⟨y, hy, e⟩ := List.mem_map.1 h2
  rw [← e]
  exact h.name y hy
theorem OkDir.numbered_ {d : Dir} (h : OkDir d) : OkDir (numbered d) := h.of_keys (numbered_keys d)
theorem OkDir.take_ {d : Dir} (h : OkDir d) (k : Nat) : OkDir (d.take k) := ⟨h.rise.sublist (List.take_sublist _ _), fun e he => h.name e (List.mem_of_mem_take he)⟩
/-- A name more in the directory that is being numbered. -/
theorem dirF_numbered {d : Dir} (h : OkDir d) {k : Nat} {e : ByteArray × Nat} (he : d[k]? = some e) : dirF (numbered (d.take (k + 1))) = fun s => if s = e.1 then some (k : Int) else dirF (numbered (d.take k)) s := by
  have hk := (List.getElem?_eq_some_iff.1 he).1
  have e1 : d.take (k + 1) = d.take k ++ [e] := by rw [List.take_add_one, he]; rfl
  have hl : (d.take k).length = k := by rw [List.length_take]; omega
  have ho := (h.take_ (k + 1)).numbered_
  have hn : numbered (d.take (k + 1)) = numbered (d.take k) ++ [(e.1, k)] := by rw [e1, numbered_snoc, hl]
  funext s
  unfold dirF
  by_cases hs : s = e.1
  · rw [if_pos hs, hs, ho.find.2 (show (e.1, k) ∈ _ by rw [hn]; simp)]
    rfl
  · rw [if_neg hs]
    congr 1
    rw [hn]
    unfold find
    rw [List.find?_append]
    have : List.find? (fun x : ByteArray × Nat => decide (x.1 = s)) [(e.1, k)] = none := by simp [Ne.symm hs]
    rw [this, Option.or_none]
end Sf
end Go.Proofs.YtmcbjcbnckpfkaaGreat
namespace Go.Proofs.YtmcbjcbnckpfkaaGreat
open Go.RowKit
set_option linter.unusedVariables false
theorem dirF_nil : Sf.dirF [] = fun _ => none := by funext s; rfl
theorem goodS_new {n : Nat} (hn : n ≤ 1048576) : GoodS 0 (Sf.new n) where
  room := hn
  files := by simp [Sf.new]
  rows := by simp [Sf.new]
  acts := by simp [Sf.new]
  fuse := by simp [Sf.new]
  sure := Sf.OkDir.nil
  seen := Sf.OkDir.nil
  row := fun d hd => by cases hd
  lens := fun d hd => by
    rcases hd with rfl | rfl | hd
    · exact ⟨by simp [Sf.new], fun e he => by cases he⟩
    · exact ⟨by simp [Sf.new], fun e he => by cases he⟩
    · cases hd
  nums := List.nodup_nil
  frow := fun f hf => by cases hf
theorem noReach (n m : Nat) : ¬ Reach (Sf.new n) m := fun hm => by
  obtain ⟨d, hd, e, he, _⟩ := hm
  rcases hd with rfl | rfl | hd
  · cases he
  · cases he
  · cases hd
/-- The roles of a new disk's blocks. -/
def who0 (p : Nat) : Who := fun k => if k = p then some .files else if k = p + 1 then some .sure else if k = p + 2 then some .names else if k = p + 3 then some .head else none
theorem who0_some {p k : Nat} (h : (who0 p k).isSome) : p ≤ k ∧ k < p + 4 := by
  unfold who0 at h
  split at h
  · omega
  · split at h
    · omega
    · split at h
      · omega
      · split at h
        · omega
        · cases h
set_option maxHeartbeats 2000000 in
set_option maxRecDepth 100000 in
theorem pempty_any (n : Nat) (hn : n ≤ 1048576) (w : World) : Calls Tryz.prog 19 #[.int .i64 (n : Nat)] w (fun e w' => e = .returned (.pointer (some ⟨w.heap.size + 3, 0, none⟩)) ∧
    PHas w' (fpOf (who0 w.heap.size)) 0 (Sf.new n) (w.heap.size + 3) (who0 w.heap.size) w.heap.size (w.heap.size + 1) (w.heap.size + 2) ⟨none, 0, 0⟩ (fun _ => none) [] ∧ Below w.heap.size w w' ∧ IsMp fM w' w.heap.size 0 (fun _ => none) ∧ IsMp dM w' (w.heap.size + 2) 0 (fun _ => none)) := by
  have hmk : ∀ (t : TypeId) (w : World), (Instr.makeMap t none).run Tryz.prog w = .ok (.map (some w.heap.size)) (w.alloc (.map #[] 0)) := fun t w => rfl
  obtain ⟨p, hp⟩ : ∃ p, w.heap.size = p := ⟨_, rfl⟩
  rw [hp]
  obtain ⟨w1, hw1⟩ : ∃ w1, w.alloc (.map #[] 0) = w1 := ⟨_, rfl⟩
  obtain ⟨w2, hw2⟩ : ∃ w2, w1.alloc (.map #[] 0) = w2 := ⟨_, rfl⟩
  obtain ⟨w3, hw3⟩ : ∃ w3, w2.alloc (.map #[] 0) = w3 := ⟨_, rfl⟩
  have h1 : w1.heap.size = p + 1 := by rw [← hw1, ← hp]; simp
  have h2 : w2.heap.size = p + 2 := by rw [← hw2]; simp [h1]
  have h3 : w3.heap.size = p + 3 := by rw [← hw3]; simp [h2]
  have m1 : IsMp fM w1 p 0 (fun _ => none) := by rw [← hw1, ← hp]; exact IsMp.made fM w
  have m2 : IsMp dM w2 (p + 1) 0 (fun _ => none) := by rw [← hw2, ← h1]; exact IsMp.made dM w1
  have m3 : IsMp dM w3 (p + 2) 0 (fun _ => none) := by rw [← hw3, ← h2]; exact IsMp.made dM w2
  obtain ⟨w4, hw4⟩ : ∃ w4, w3.alloc (.cells (headP (Sf.new n) p (p + 1) (p + 2) ⟨none, 0, 0⟩) 80) = w4 := ⟨_, rfl⟩
  have t12 : Turned (fun _ => False) w1 w2 := by rw [← hw2]; exact (Turned.refl _ _).alloc _
  have t23 : Turned (fun _ => False) w2 w3 := by rw [← hw3]; exact (Turned.refl _ _).alloc _
  have t34 : Turned (fun _ => False) w3 w4 := by rw [← hw4]; exact (Turned.refl _ _).alloc _
  have M1 : IsMp fM w4 p 0 (fun _ => none) := ((m1.turned_ t12 (fun h => h)).turned_ t23 (fun h => h)).turned_ t34 (fun h => h)
  have M2 : IsMp dM w4 (p + 1) 0 (fun _ => none) := (m2.turned_ t23 (fun h => h)).turned_ t34 (fun h => h)
  have M3 : IsMp dM w4 (p + 2) 0 (fun _ => none) := m3.turned_ t34 (fun h => h)
  have h4 : w4.heap.size = p + 4 := by rw [← hw4]; simp [h3]
  have hh : IsHead w4 (p + 3) (headP (Sf.new n) p (p + 1) (p + 2) ⟨none, 0, 0⟩) := by rw [← hw4, ← h3]; exact heap_alloc_new _ _
  have hb : Below p w w4 := by
    rw [← hw4, ← hw3, ← hw2, ← hw1, ← hp]
    exact ((((Below.refl _ _).alloc (Nat.le_refl _) _).alloc (by simp) _).alloc (by simp; omega) _).alloc (by simp; omega) _
  have HB : Hid (PBody w4 (who0 p) 0 (Sf.new n) p (p + 1) (p + 2) ⟨none, 0, 0⟩ (fun _ => none) []) :=
    ⟨M1.mono_ (Nat.zero_le _), by show IsMp dM w4 (p + 2) _ (Sf.dirF []); rw [dirF_nil]; exact M3.mono_ (Nat.zero_le _), by show IsMp dM w4 (p + 1) _ (Sf.dirF []); rw [dirF_nil]; exact M2.mono_ (Nat.zero_le _), OwnL.nil_ _ _ _, rfl, rfl, fun _ => rfl,
      fun i x hx => (by cases hx), fun m hm => absurd hm (noReach n m), by simp [who0], by simp [who0], by simp [who0], Bears.nil_ _ _⟩
  have HP : Hid (PHas w4 (fpOf (who0 p)) 0 (Sf.new n) (p + 3) (who0 p) p (p + 1) (p + 2) ⟨none, 0, 0⟩ (fun _ => none) []) :=
    ⟨hh, HB.out, goodS_new hn, by simp [who0], fun k => Iff.rfl, fun k h => h, fun k hk => by have := who0_some hk; omega⟩
  have HBB := Lib.hid hb
  have HM1 := Lib.hid M1
  have HM3 := Lib.hid M3
  clear m1 m2 m3 t12 t23 t34 M1 M2 M3 hh hb HB
  change w3.alloc (.cells #[.int .i64 (n : Nat), .map (some p), .int .i64 0, .map (some (p + 1)), .slice none 0 0, .map (some (p + 2)), .int .i64 0, .int .i64 0, .bool false] 80) = w4 at hw4
  go_enter Tryz.func19, Tryz.ntmps19
  go_wp2
  go_ret
  exact ⟨rfl, HP.out, HBB.out, HM1.out, HM3.out⟩
set_option maxHeartbeats 2000000 in
set_option maxRecDepth 100000 in
theorem pnew_any (n : Int) (hn : I64 n) (w : World) : Calls Tryz.prog 6 #[.int .i64 n] w (fun e w' =>
  if n < 0 ∨ 1048576 < n then e = .returned (.tuple #[.pointer none, .int .i64 2]) ∧ Below w.heap.size w w'
  else ∃ (b : Nat) (f' : Fp), e = .returned (.tuple #[.pointer (some ⟨b, 0, none⟩), .int .i64 0]) ∧ PDisk w' f' (Sf.new n.toNat) b ∧ f'.From w.heap.size ∧ Below w.heap.size w w') := by
  by_cases h : n < 0 ∨ 1048576 < n
  · simp only [if_pos h]
    by_cases h0 : n < 0
    · go_enter Tryz.func6, Tryz.ntmps6
      go_wp2
      go_ret2
      exact ⟨rfl, Below.refl _ _⟩
    · have h1 : 1048576 < n := h.elim (fun h => absurd h h0) id
      go_enter Tryz.func6, Tryz.ntmps6
      go_wp2
      go_ret2
      exact ⟨rfl, Below.refl _ _⟩
  · simp only [if_neg h]
    obtain ⟨m, rfl⟩ : ∃ m : Nat, n = (m : Int) := ⟨n.toNat, by omega⟩
    have hm : m ≤ 1048576 := by omega
    have h0 : ¬ ((m : Int) < 0) := by omega
    have h1 : ¬ (1048576 < (m : Int)) := by omega
    have CE := Lib.hid (pempty_any m hm w)
    clear h hn
    go_enter Tryz.func6, Tryz.ntmps6
    go_wp2_with fail
    refine CE.out.mono ?_
    rintro e w1 ⟨rfl, hP, hB, _, _⟩
    have HP := Lib.hid hP
    have HB := Lib.hid hB
    clear CE hP hB
    go_wp2
    go_ret2
    exact ⟨_, _, rfl, ⟨_, _, _, _, _, _, _, HP.out⟩, fun k hk => hk.elim (fun hk => (who0_some hk).1) (fun hk => hk.elim), HB.out⟩
end Go.Proofs.YtmcbjcbnckpfkaaGreat
