/-
  PgMem: A page as an array: cells in a block of whatever type; bytes laid over others; an own row that is the whole of an array's block.
  PgA: page.mayBe, page.lay.
  PgB: page.whole's sum.
-/
import Derived.Test.YtoefogmjekcbeaaPk04
import Derived.Test.YtoefogmjekcbeaaPk03
import Derived.Test.YtoefogmjekcbeaaPk06
import Derived.Laws.CopyOwn
import Derived.Test.YtoefogmjekcbeaaPk05
import Derived.Test.YtoefogmjekcbeaaPk01
import Derived.Test.YtoefogmjekcbeaaPk08
import Derived.Deep.RegionHeld3
import Derived.Deep.WholeRow
namespace Go.Proofs.Ytoefogmjekcbeaa
open Go.RowKit
set_option linter.unusedVariables false
/-- Bytes laid over others, from a place on. -/
def pu (z : List Nat) (k : Nat) (m : List Nat) : List Nat := z.take k ++ m ++ z.drop (k + m.length)
theorem pu_len {z m : List Nat} {k : Nat} (h : k + m.length ≤ z.length) : (pu z k m).length = z.length := by simp [pu]; omega
theorem pu_nil (z : List Nat) (k : Nat) : pu z k [] = z := by simp [pu]
theorem pu_mid {a b c l : List Nat} {k : Nat} (hk : k = a.length) (h : l.length = b.length) : pu (a ++ (b ++ c)) k l = a ++ (l ++ c) := by
  subst hk
  unfold pu
  rw [List.take_left, h, List.append_assoc, ← List.drop_drop, List.drop_left, List.drop_left]
theorem pu_front {b c l : List Nat} (h : l.length = b.length) : pu (b ++ c) 0 l = l ++ c := pu_mid (a := []) rfl h
theorem pu_lt {z m : List Nat} {k : Nat} (hz : ∀ x ∈ z, x < 256) (hm : ∀ x ∈ m, x < 256) : ∀ x ∈ pu z k m, x < 256 := by
  intro x hx
  rcases List.mem_append.1 hx with hx | hx
  · rcases List.mem_append.1 hx with hx | hx
    · exact hz x (List.mem_of_mem_take hx)
    · exact hm x hx
  · exact hz x (List.mem_of_mem_drop hx)
theorem pu_snoc {z m : List Nat} {k x : Nat} (h : k + m.length < z.length) : (pu z k m).set (k + m.length) x = pu z k (m ++ [x]) := by
  unfold pu
  have h1 : (z.take k ++ m).length = k + m.length := by rw [List.length_append, List.length_take]; omega
  rw [List.set_append_right _ _ (by omega), h1, Nat.sub_self]
  rw [show z.drop (k + m.length) = z[k + m.length] :: z.drop (k + m.length + 1) from List.drop_eq_getElem_cons h, List.set_cons_zero]
  simp [List.append_assoc, Nat.add_assoc]
theorem bvs_set (l : List Nat) (k x : Nat) : (bvs l).setIfInBounds k (.int .u8 (x : Nat)) = bvs (l.set k x) := by
  simp [bvs, u8, List.map_set]
/-- A cell of an array's block. -/
theorem Rw.byte {w : World} {g : Nat} {t : TypeId} {l : List Nat} (h : Rw w g t (bvs l)) {k x : Nat} (hx : l[k]? = some x) : w.cell? ⟨g, k, none⟩ = some (.int .u8 (x : Nat)) := (h.cell k).trans (bvs_some hx)
theorem Rw.setByte {w : World} {g : Nat} {t : TypeId} {l : List Nat} (h : Rw w g t (bvs l)) (k x : Nat) : Rw (w.setCell ⟨g, k, none⟩ (.int .u8 (x : Nat))) g t (bvs (l.set k x)) := by
  have := h.set k (.int .u8 (x : Nat))
  rwa [bvs_set] at this
theorem Rw.bv_ {w : World} {g : Nat} {t : TypeId} {l : List Nat} (h : Rw w g t (bvs l)) (h8 : ∀ x ∈ l, x < 256) {k m c B : Nat} (hk : k + m ≤ l.length) (hmc : m ≤ c) (hc : c ≤ maxLen) (hB : g < B) : Bv w B (.slice (some ⟨g, k, none⟩) m c) ((l.drop k).take m) := by
  have hl : ((l.drop k).take m).length = m := by rw [List.length_take, List.length_drop]; omega
  refine ⟨some ⟨g, k, none⟩, c, by rw [hl], by omega, hc, by simp, fun x hx => h8 x (List.mem_of_mem_drop (List.mem_of_mem_take hx)), fun hp => ⟨g, k, rfl, hB, fun j x hj => ?_⟩⟩
  rw [List.getElem?_take] at hj
  split at hj
  · rw [List.getElem?_drop] at hj; exact h.byte hj
  · cases hj
theorem size5b : (Try.prog.info? 5).map (·.size) = some 1 := by kernel_rfl
/-- copy into an array's block, from place k on. -/
theorem copy_arr {w : World} {g : Nat} {t : TypeId} {z m : List Nat} {B k dl dc : Nat} {x : Value} (h : Rw w g t (bvs z)) (hx : Bv w B x m) (hfit : k + m.length ≤ z.length) (hd : m.length ≤ dl) :
    ∃ w2, (Builtin.copy_ #[25, 25] 3 #[.slice (some ⟨g, k, none⟩) dl dc, x]).run Try.prog w = .ok (.int .i64 (m.length : Nat)) w2 ∧ Rw w2 g t (bvs (pu z k m)) ∧ w.grownBy w2 (some g) := by
  obtain ⟨A, c, rfl, _, _, _, hb⟩ := hx
  by_cases h0 : 0 < m.length
  · obtain ⟨b, off, rfl, _, hc⟩ := hb.2 h0
    have hsrc : ∀ j v, (m.map u8)[j]? = some v → w.cell? ((⟨b, off, none⟩ : Addr).add j) = some v := by
      intro j v hv
      rw [List.getElem?_map] at hv
      cases hj : m[j]? with
      | none => rw [hj] at hv; cases hv
      | some y =>
        rw [hj] at hv
        have ea : (⟨b, off, none⟩ : Addr).add j = ⟨b, off + j, none⟩ := by unfold Addr.add; split <;> simp_all
        rw [ea, hc j y hj]
        simpa [u8] using hv
    have hrun := run_copy_row (P := Try.prog) w 25 25 3 5 g k dl dc ⟨b, off, none⟩ m.length c _ t (m.map u8) Try.underlying25 size5b h
      (by rw [List.length_map]; exact (Nat.min_eq_left hd).symm) hsrc (by simpa [bvs] using hfit) (by intro u hu; obtain ⟨_, _, rfl⟩ := List.mem_map.1 hu; rfl)
    have e : ((bvs z).toList.take k ++ m.map u8 ++ (bvs z).toList.drop (k + (m.map u8).length)).toArray = bvs (pu z k m) := by
      simp [bvs, pu, List.map_take, List.map_drop]
    rw [e] at hrun
    refine ⟨w.setRow g (bvs (pu z k m)), ?_, Rw.row h _, ⟨rfl, rfl, rfl, by simp, fun i _ hi => setRow_other w g i _ (fun e => hi (by rw [e]))⟩⟩
    rw [hrun, List.length_map]; rfl
  · obtain rfl : m = [] := List.eq_nil_of_length_eq_zero (by omega)
    have hrun := run_copy_none (P := Try.prog) w 25 25 3 5 (some ⟨g, k, none⟩) A dl dc 0 c Try.underlying25 size5b (by simp)
    exact ⟨w, by simpa [goInt] using hrun, by rw [pu_nil]; exact h, ⟨rfl, rfl, rfl, Nat.le_refl _, fun _ _ _ => rfl⟩⟩
/-- The call's own slice v, the whole of a block from base on, whatever type the block has, holds these bytes. -/
def OwnV (w : World) (base : Nat) (v : Value) (l : List Nat) : Prop :=
  (∀ x ∈ l, x < 256) ∧ ((v = .slice none 0 0 ∧ l = []) ∨ ∃ g t, v = .slice (some ⟨g, 0, none⟩) l.length l.length ∧ base ≤ g ∧ l.length ≤ maxLen ∧ Rw w g t (bvs l))
section
variable {w w' : World} {base B : Nat} {v : Value} {l : List Nat}
theorem OwnV.nil_ (w : World) (base : Nat) : OwnV w base (.slice none 0 0) [] := ⟨by simp, .inl ⟨rfl, rfl⟩⟩
theorem OwnV.form_ (h : OwnV w base v l) : Lv yK w w.heap.size v l := by
  obtain ⟨h8, ⟨rfl, rfl⟩ | ⟨g, t, rfl, hb, hm, hr⟩⟩ := h
  · exact Lv.nil_ _ _ _
  · have h := (hr.bv_ h8 (k := 0) (m := l.length) (c := l.length) (B := w.heap.size) (by omega) (Nat.le_refl _) hm hr.lt).lv_
    rwa [List.drop_zero, List.take_length] at h
theorem OwnV.lt_ (h : OwnV w base v l) : ∀ k, v.ownBlock = some k → base ≤ k ∧ k < w.heap.size := by
  intro k hk
  obtain ⟨h8, ⟨rfl, rfl⟩ | ⟨g, t, rfl, hb, hm, hr⟩⟩ := h
  · simp [Value.ownBlock] at hk
  · simp [Value.ownBlock] at hk
    subst hk
    exact ⟨hb, hr.lt⟩
theorem OwnV.mono_ (h : OwnV w base v l) {base' : Nat} (hb : base' ≤ base) : OwnV w base' v l := by
  obtain ⟨h8, hn | ⟨g, t, rfl, hb', hm, hr⟩⟩ := h
  · exact ⟨h8, .inl hn⟩
  · exact ⟨h8, .inr ⟨g, t, rfl, by omega, hm, hr⟩⟩
theorem OwnV.drew_ (h : OwnV w base v l) : OwnV w.drew base v l := h
theorem OwnV.below_ (h : OwnV w base v l) (hb : Below B w w') (hB : w.heap.size ≤ B) : OwnV w' base v l := by
  obtain ⟨h8, hn | ⟨g, t, rfl, hb', hm, hr⟩⟩ := h
  · exact ⟨h8, .inl hn⟩
  · exact ⟨h8, .inr ⟨g, t, rfl, hb', hm, hr.below hb (Nat.lt_of_lt_of_le hr.lt hB)⟩⟩
theorem OwnV.byte_ {A : Option Addr} {n c : Nat} (h : OwnV w base (.slice A n c) l) {k : Nat} (hk : k < l.length) :
    ∃ g x, A = some ⟨g, 0, none⟩ ∧ n = l.length ∧ base ≤ g ∧ U8 x ∧ l[k]? = some x ∧ w.cell? ⟨g, k, none⟩ = some (.int .u8 (x : Nat)) ∧ w.frozen? ⟨g, k, none⟩ = false := by
  obtain ⟨h8, ⟨e, rfl⟩ | ⟨g, t, e, hb, hm, hr⟩⟩ := h
  · simp at hk
  · injection e with e1 e2 e3
    subst e1 e2
    exact ⟨g, l[k], rfl, rfl, hb, h8 _ (List.getElem_mem hk), List.getElem?_eq_getElem hk, hr.byte (List.getElem?_eq_getElem hk), hr.frozen k⟩
theorem OwnV.setByte_ {g n c : Nat} (h : OwnV w base (.slice (some ⟨g, 0, none⟩) n c) l) {j : Nat} (hj : j < l.length) {x : Nat} (hx : U8 x) :
    OwnV (w.setCell ⟨g, j, none⟩ (.int .u8 (x : Nat))) base (.slice (some ⟨g, 0, none⟩) n c) (l.set j x) ∧ w.grownBy (w.setCell ⟨g, j, none⟩ (.int .u8 (x : Nat))) (some g) := by
  obtain ⟨h8, ⟨e, rfl⟩ | ⟨g', t, e, hb, hm, hr⟩⟩ := h
  · cases e
  · injection e with e1 e2 e3
    injection e1 with e1
    injection e1 with e1
    subst e1 e2 e3
    refine ⟨⟨fun y hy => ?_, .inr ⟨g, t, by rw [List.length_set], hb, by rw [List.length_set]; exact hm, hr.setByte j x⟩⟩, ⟨rfl, rfl, rfl, by simp [World.setCell], fun k _ hk => Below.heap_setCell _ _ _ k (fun e => hk (by rw [e]))⟩⟩
    rcases List.mem_or_eq_of_mem_set hy with h | rfl
    · exact h8 y h
    · exact hx
end
/-- A call that answers these bytes, the whole of an own block, and an error, and turns nothing that was there. -/
def IsVE (r : List Nat × Nat) (w : World) (e : Ending) (w' : World) : Prop :=
  ∃ A c, e = .returned (.tuple #[.slice A r.1.length c, .int .i64 r.2]) ∧ OwnV w' w.heap.size (.slice A r.1.length c) r.1 ∧ Below w.heap.size w w'
theorem IsVE.none_b {w w' : World} {r : List Nat × Nat} {e : Nat} {x : Int} (h : r = ([], e)) (hx : x = (e : Nat)) (hb : Below w.heap.size w w') : IsVE r w (.returned (.tuple #[.slice none 0 0, .int .i64 x])) w' := by
  subst h hx; exact ⟨none, 0, rfl, OwnV.nil_ _ _, hb⟩
theorem IsVE.of {w w' : World} {r : List Nat × Nat} {y : List Nat} {e c n : Nat} {x : Int} {A : Option Addr} (h : r = (y, e)) (hn : n = y.length) (hx : x = (e : Nat)) (ho : OwnV w' w.heap.size (.slice A n c) y) (hb : Below w.heap.size w w') :
    IsVE r w (.returned (.tuple #[.slice A n c, .int .i64 x])) w' := by subst h hx hn; exact ⟨A, c, rfl, ho, hb⟩
theorem IsVE.out_ {w w' : World} {e : Ending} {r : List Nat × Nat} (h : IsVE r w e w') {l : List Nat} {n : Nat} (hr : r = (l, n)) :
    ∃ A c, e = .returned (.tuple #[.slice A l.length c, .int .i64 n]) ∧ OwnV w' w.heap.size (.slice A l.length c) l ∧ Below w.heap.size w w' := by subst hr; exact h
end Go.Proofs.Ytoefogmjekcbeaa
namespace Go.Proofs.Ytoefogmjekcbeaa
open Go.RowKit
set_option linter.unusedVariables false
/-- A number's bytes, the lowest first: so many. -/
def bts (n m : Nat) : List Nat := (List.range m).map (Cr.byt n)
theorem bts_len (n m : Nat) : (bts n m).length = m := by simp [bts]
theorem bts_succ (n m : Nat) : bts n (m + 1) = bts n m ++ [Cr.byt n m] := by simp [bts, List.range_succ]
theorem bts_lt (n m : Nat) : ∀ x ∈ bts n m, x < 256 := fun x hx => by
  obtain ⟨i, _, rfl⟩ := List.mem_map.1 hx
  exact Cr.byt_lt n i
set_option maxHeartbeats 1000000 in
theorem pmaybe_any (n : Int) (w : World) : Calls Try.prog 28 #[.int .i64 n] w (fun e w' => e = .returned (.bool (decide (0 ≤ n ∧ n < 65536))) ∧ w' = w) := by
  by_cases h0 : 0 ≤ n
  · by_cases h1 : n < 65536
    · go_enter Try.func28, Try.ntmps28
      go_wp2
      go_ret
      exact ⟨by simp [h0, h1], rfl⟩
    · go_enter Try.func28, Try.ntmps28
      go_wp2
      go_ret
      exact ⟨by simp [h1], rfl⟩
  · go_enter Try.func28, Try.ntmps28
    go_wp2
    go_ret
    exact ⟨by simp; omega, rfl⟩
set_option maxHeartbeats 1000000 in
set_option maxRecDepth 100000 in
theorem play_any (g k m c n : Nat) (t : TypeId) (z : List Nat) (w : World) (hn : n < 4294967296) (h : Rw w g t (bvs z)) (h8 : ∀ x ∈ z, x < 256) (hk : k + m ≤ z.length) (hm : m ≤ 4) :
    Calls Try.prog 40 #[.slice (some ⟨g, k, none⟩) m c, .int .u32 (n : Nat)] w (fun e w' => (∃ x, e = .returned x) ∧ Rw w' g t (bvs (pu z k (bts n m))) ∧ w.grownBy w' (some g)) := by
  have H0 := Lib.hid h
  have HK := Lib.hid hk
  clear h hk
  go_enter Try.func40, Try.ntmps40
  go_wp2
  go_loopw [7] (fun i wr => ∃ j : Nat, j ≤ m ∧ i = .int .i64 j ∧ Hid (Rw wr g t (bvs (pu z k (bts n j)))) ∧ Hid (w.grownBy wr (some g))) (fun i _ => m - (intOf i).toNat)
  case atStart => exact ⟨0, by omega, rfl, by unfold Hid; rw [show bts n 0 = [] from rfl, pu_nil]; exact H0.out, World.grownBy.refl _ _⟩
  case round =>
    obtain ⟨j, hj, rfl, HR, HG⟩ := hrel
    by_cases hlt : j < m
    · have hk := HK.out
      have hx : (n : Int) / 2 ^ (8 * j) % 256 = ((Cr.byt n j : Nat) : Int) := by unfold Cr.byt; simp
      have hlen : (pu z k (bts n j)).length = z.length := pu_len (by rw [bts_len]; omega)
      obtain ⟨x0, hx0⟩ : ∃ x, (pu z k (bts n j))[k + j]? = some x := ⟨_, List.getElem?_eq_getElem (by omega)⟩
      have hc0 := HR.out.byte hx0
      have hf0 := HR.out.frozen (k + j)
      have hs := HR.out.setByte (k + j) (Cr.byt n j)
      have e := pu_snoc (z := z) (m := bts n j) (k := k) (x := Cr.byt n j) (by rw [bts_len]; omega)
      rw [bts_len, ← bts_succ] at e
      rw [e] at hs
      have HS := Lib.hid hs
      have hg : wr.grownBy (wr.setCell ⟨g, k + j, none⟩ (.int .u8 (Cr.byt n j : Nat))) (some g) := ⟨rfl, rfl, rfl, by simp [World.setCell], fun k _ hk => Below.heap_setCell _ _ _ k (fun e => hk (by rw [e]))⟩
      have HG2 := Lib.hid (grownBy_trans HG.out hg)
      clear hs e hx0 hlen hg
      go_wp2
      exact ⟨⟨j + 1, by omega, by go_num, HS.out, HG2.out⟩, by simp [intOf]; omega⟩
    · have h0 : j = m := by omega
      subst h0
      go_wp2
      go_end0
      exact ⟨⟨_, rfl⟩, HR.out, HG.out⟩
end Go.Proofs.Ytoefogmjekcbeaa
namespace Go.Proofs.Ytoefogmjekcbeaa
open Go.RowKit
set_option linter.unusedVariables false
theorem bts_four (n : Nat) : bts n 4 = four n := rfl
set_option maxRecDepth 100000 in
theorem size512 : (Try.prog.info? 50).map (·.size) = some 512 := by kernel_rfl
theorem size512l {l : List Nat} (h : l.length = 512) : (Try.prog.info? 50).map (·.size) = some (bvs l).size := by rw [bvs_size, h]; exact size512
theorem size4a : (Try.prog.info? 53).map (·.size) = some 4 := by kernel_rfl
theorem size4l {l : List Nat} (h : l.length = 4) : (Try.prog.info? 53).map (·.size) = some (bvs l).size := by rw [bvs_size, h]; exact size4a
set_option maxHeartbeats 1000000 in
set_option maxRecDepth 100000 in
theorem pgsum_any (p : List Nat) (hl : p.length = 512) (h8 : ∀ x ∈ p, x < 256) (w : World) :
    Calls Try.prog 31 #[.agg (bvs p)] w (fun e w' => e = .returned (.agg (bvs (four (Cr.of (p.drop 4))))) ∧ Below w.heap.size w w') := by
  obtain ⟨n, hn⟩ : ∃ n, Cr.of (p.drop 4) = n := ⟨_, rfl⟩
  have hn32 : n < 4294967296 := by rw [← hn]; exact Cr.of_b32 (fun x hx => h8 x (List.mem_of_mem_drop hx))
  obtain ⟨D, hD⟩ : ∃ D, bvs p = D := ⟨_, rfl⟩
  obtain ⟨W, hW⟩ : ∃ W, ((w.alloc (.cells D 50)).alloc (.cells #[.int .u8 0, .int .u8 0, .int .u8 0, .int .u8 0] 53)).alloc (.cells #[.int .u8 0, .int .u8 0, .int .u8 0, .int .u8 0] 53) = W := ⟨_, rfl⟩
  have hD0 : Rw W w.heap.size 50 (bvs p) := by rw [← hW, hD]; exact ((Rw.new w _ _).old _).old _
  have HB1 : Hid (Rw W (w.heap.size + 1) 53 (bvs [0, 0, 0, 0])) := by unfold Hid; rw [← hW]; exact (Rw.at_ (by simp) _ _).old _
  have hB2 : Rw W (w.heap.size + 2) 53 (bvs [0, 0, 0, 0]) := by rw [← hW]; exact Rw.at_ (by simp) _ _
  have HBW : Hid (Below w.heap.size w W) := by unfold Hid; rw [← hW]; exact (((Below.refl _ _).alloc (Nat.le_refl _) _).alloc (by simp) _).alloc (by simp; omega) _
  have hbv := hD0.bv_ h8 (k := 4) (m := 508) (c := 508) (B := W.heap.size) (by omega) (Nat.le_refl _) (by simp [maxLen]) hD0.lt
  rw [List.take_of_length_le (by rw [List.length_drop]; omega)] at hbv
  have HC := Lib.hid (of_any _ _ W.heap.size W.drew hbv)
  rw [hn] at HC ⊢
  have HL := Lib.hid (play_any (w.heap.size + 2) 0 4 4 n _ [0, 0, 0, 0] W.drew hn32 hB2.drew (by decide) (by simp) (by omega))
  rw [bts_four] at HL
  rw [hD]
  have HS4 := Lib.hid (size4l (four_len n))
  have HO4 := Lib.hid (bvs_one (four n))
  have HP4 : Hid (pu [0, 0, 0, 0] 0 (four n) = four n) := pu_front (b := [0, 0, 0, 0]) (c := []) (by rfl)
  obtain ⟨C, hC⟩ : ∃ C, bvs (four n) = C := ⟨_, rfl⟩
  have HCS : Hid ((bvs [0, 0, 0, 0]).size = C.size) := by unfold Hid; rw [← hC, bvs_size, bvs_size]; rfl
  rw [hC] at HS4 HO4 ⊢
  have HC4 : Hid (bvs (pu [0, 0, 0, 0] 0 (four n)) = C) := by unfold Hid; rw [HP4.out]; exact hC
  clear hD0 hB2 hbv hD hn hn32 h8 hl hC HP4
  go_enter Try.func31, Try.ntmps31
  go_wp2
  go_region_held3 (fun _ => True) (trivial) (first
    | (go_at_call 41; (with_reducible refine HC.out.mono ?_); rintro e x1 ⟨rfl, rfl⟩)
    | (go_at_call 40; (with_reducible refine HL.out.mono ?_); rintro e x2 ⟨⟨y, rfl⟩, hr2, hg2⟩; have HR2 := Lib.hid hr2; have HG2 := Lib.hid hg2; clear hr2 hg2))
  have hr := HR2.out
  rw [HC4.out] at hr
  have hb1 : Rw x2 (w.heap.size + 1) 53 (bvs [0, 0, 0, 0]) := (HG2.out.block _ (by have := HB1.out.lt; simpa using this) (by intro e; injection e with e; omega)).trans HB1.out
  have HBX : Hid (Below w.heap.size w x2) := HBW.out.drew.grown HG2.out (by have := HBW.out.size; simpa using this) (fun k hk => by injection hk with hk; omega)
  have HR := Lib.hid hr
  have HB := Lib.hid hb1
  clear HR2 HG2 HL HC hW HB1 HBW hr hb1 HC4
  go_wp2_with (first
    | (refine wpList_load_row rfl _ _ rfl (w.heap.size + 2) rfl 53 C (0, 0) _ HR.out Try.underlying53 rfl HS4.out ?_)
    | (refine wpList_store_row rfl _ _ _ rfl (w.heap.size + 1) C rfl rfl 53 _ HB.out HS4.out HCS.out HO4.out ?_))
  refine bodyPost_ret (v := .agg C) (results_cell_row rfl _ _ (w.heap.size + 1) 53 C (0, 0) _ rfl (Rw.row HB.out C) Try.underlying53 rfl HS4.out) rfl ⟨rfl, below_setRow HBX.out (by omega) _⟩
end Go.Proofs.Ytoefogmjekcbeaa
