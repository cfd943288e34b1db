/-
  SpNew: sha.New, (*Hash).Write, Sum, Copy.
  SpSrc: A slice of bytes that lies apart from a hash; the copy into a hash, and what is cut.
  SpWrite: (*sha.Hash).Write.
  SpSum: (*sha.Hash).Sum; sha.Sum.
-/
import Derived.Test.YtkialijipcbgkaaPk36
import Derived.Test.YtkialijipcbgkaaPk39
import Derived.Laws.CopyOwn
import Derived.StillTailTactics
import Derived.Test.YtkialijipcbgkaaPk24
namespace Go.Proofs.Ytkialijipcbgkaa
open Go.RowKit
set_option linter.unusedVariables false

/-- At g lies a hash to which these bytes were written. -/
def HashAt (w : World) (g : Nat) (l : List Nat) : Prop := ∃ s r, Sh.HS s r l ∧ Rw w g 127 (hc true s r l.length)
theorem HashAt.lt {w : World} {g : Nat} {l : List Nat} (h : HashAt w g l) : g < w.heap.size := by obtain ⟨s, r, _, h⟩ := h; exact h.lt
theorem HashAt.below {w w' : World} {g : Nat} {l : List Nat} (h : HashAt w g l) {B : Nat} (hb : Below B w w') (hB : g < B) : HashAt w' g l := by
  obtain ⟨s, r, h1, h2⟩ := h
  exact ⟨s, r, h1, h2.below hb hB⟩
def z64 : List Nat := List.replicate 64 0
def newCells : Array Value := hc true Sh.begin z64 0

set_option maxHeartbeats 1000000 in
set_option maxRecDepth 100000 in
theorem new_any (w : World) : Calls Try.prog 64 #[] w (fun e w' => ∃ g, e = .returned (.pointer (some ⟨g, 0, none⟩)) ∧ w.heap.size ≤ g ∧ HashAt w' g [] ∧ Below w.heap.size w w') := by
  go_enter Try.func64, Try.ntmps64
  go_wp2_with (first
    | (go_at_call 88; (with_reducible refine (beginning_any _).mono ?_); rintro e w1 ⟨rfl, hb⟩; have HB := Lib.hid hb; clear hb)
    | (refine wpList_build_at rfl _ _ rfl newCells (by kernel_rfl) ?_))
  go_ret
  exact ⟨w1.heap.size, rfl, HB.out.size, ⟨Sh.begin, z64, Sh.HS.new rfl (by unfold z64; decide), Rw.new _ _ _⟩, HB.out.alloc HB.out.size _⟩
end Go.Proofs.Ytkialijipcbgkaa
namespace Go.Proofs.Ytkialijipcbgkaa
open Go.RowKit
set_option linter.unusedVariables false

/-- The value v is a slice that holds the bytes l, in a block that is not g. -/
def Sv (w : World) (g : Nat) (v : Value) (l : List Nat) : Prop := ∃ A c, v = .slice A l.length c ∧ l.length ≤ c ∧ c ≤ maxLen ∧ (∀ x ∈ l, x < 256) ∧
  (A = none → c = 0) ∧ (0 < l.length → ∃ b off, A = some ⟨b, off, none⟩ ∧ b ≠ g ∧ b < w.heap.size ∧ ∀ j x, l[j]? = some x → w.cell? ⟨b, off + j, none⟩ = some (.int .u8 (x : Nat)))
theorem Bv.src {w : World} {B g : Nat} {v : Value} {l : List Nat} (h : Bv w B v l) (hB : B ≤ g) (hg : g < w.heap.size) : Sv w g v l := by
  obtain ⟨A, c, rfl, h1, h2, h3, h4, h5⟩ := h
  refine ⟨A, c, rfl, h1, h2, h4, h3, fun hp => ?_⟩
  obtain ⟨b, off, e, hb, hc⟩ := h5 hp
  exact ⟨b, off, e, by omega, by omega, hc⟩
theorem OwnB.src {w : World} {base g : Nat} {v : Value} {l : List Nat} (h : OwnB w base v l) (hg : g < base) : Sv w g v l := by
  obtain ⟨A, c, rfl, h1, h2, h3, h4, h5⟩ := h.form_
  refine ⟨A, c, rfl, h1, h2, h4, h3, fun hp => ?_⟩
  obtain ⟨b, off, e, hb, hc⟩ := h5 hp
  subst e
  have := (h.lt_ b rfl).1
  exact ⟨b, off, rfl, by omega, hb, hc⟩
theorem Sv.kept {w w' : World} {g : Nat} {v : Value} {l : List Nat} (h : Sv w g v l) (hk : w.grownBy w' (some g)) : Sv w' g v l := by
  obtain ⟨A, c, rfl, h1, h2, h3, h4, h5⟩ := h
  refine ⟨A, c, rfl, h1, h2, h3, h4, fun hp => ?_⟩
  obtain ⟨b, off, e, hb, hbs, hc⟩ := h5 hp
  exact ⟨b, off, e, hb, Nat.lt_of_lt_of_le hbs hk.size, fun j x hj => (World.cell?_of_block (a := ⟨b, off + j, none⟩) (hk.block b hbs (by simpa using hb))).trans (hc j x hj)⟩
theorem but_trans {w w' w'' : World} {g : Nat} (h : w.grownBy w' (some g)) (k : w'.grownBy w'' (some g)) : w.grownBy w'' (some g) :=
  ⟨k.os.trans h.os, k.tape.trans h.tape, k.output.trans h.output, Nat.le_trans h.size k.size, fun i hi hn => (k.block i (Nat.lt_of_lt_of_le hi h.size) hn).trans (h.block i hi hn)⟩
theorem but_refl (w : World) (g : Nat) : w.grownBy w (some g) := ⟨rfl, rfl, rfl, Nat.le_refl _, fun _ _ _ => rfl⟩
theorem grown_drew (w : World) (g : Nat) : w.grownBy w.drew (some g) := ⟨rfl, rfl, rfl, Nat.le_refl _, fun _ _ _ => rfl⟩
theorem grown_below {w w' : World} (g : Nat) (h : Below w.heap.size w w') : w.grownBy w' (some g) := ⟨h.os, h.tape, h.output, h.size, fun i hi _ => h.block i hi⟩
theorem grown_setCell (w : World) (g k : Nat) (v : Value) : w.grownBy (w.setCell ⟨g, k, none⟩ v) (some g) :=
  ⟨rfl, rfl, rfl, by simp, fun i hi hn => Below.heap_setCell w _ v i (by simpa using hn)⟩
theorem grown_setCells (g : Nat) : ∀ (vs : List Value) (o : Nat) (w : World), w.grownBy (w.setCells g o vs) (some g)
  | [], _, w => but_refl w g
  | v :: vs, o, w => but_trans (grown_setCell w g o v) (grown_setCells g vs (o + 1) _)
theorem below_grown {B g : Nat} {a w w' : World} (h : Below B a w) (hg : w.grownBy w' (some g)) (hB : B ≤ w.heap.size) (hr : B ≤ g) : Below B a w' :=
  h.grown hg hB (fun k hk => by injection hk with hk; omega)

/-- The part of a hash's rest from place k on. -/
theorem rest_from (g k : Nat) (hk : k < 64) (w : World) :
    (Instr.sliceAt 102 (.pointer (some ⟨g, 9, none⟩)) (some (.int .u64 (k : Nat))) none none).run Try.prog w = .ok (.slice (some ⟨g, 9 + k, none⟩) (64 - k) (64 - k)) w := by
  have h1 : (0 : Int) ≤ (k : Int) := by omega
  have h3 : (k : Int).toNat = k := by omega
  have h4 : ¬ 64 = k := by omega
  simp [go_sem, Instr.sliceAt, Instr.sliceBounds, Instr.sliceBound, h1, h3, h4]
  intro h
  omega
/-- What copy leaves, into a hash's rest from place k on. -/
theorem copy_rest {w : World} {g b off ln c : Nat} {s : Sh.St} {r x : List Nat} {n k : Nat} (h : Rw w g 127 (hc true s r n)) (hr : r.length = 64) (hk : k < 64)
    (hx : x.length = Nat.min ln (64 - k)) (hc' : ∀ j y, x[j]? = some y → w.cell? ⟨b, off + j, none⟩ = some (.int .u8 (y : Nat))) :
    (Builtin.copy_ #[28, 28] 3 #[.slice (some ⟨g, 9 + k, none⟩) (64 - k) (64 - k), .slice (some ⟨b, off, none⟩) ln c]).run Try.prog w = .ok (.int .i64 (x.length : Nat)) (w.setRow g (hc true s (Sh.fill r k x) n)) := by
  have hx64 : k + x.length ≤ 64 := by
    have h1 : Nat.min ln (64 - k) ≤ 64 - k := Nat.min_le_right _ _
    rw [hx]; omega
  have hrun := run_copy_row (P := Try.prog) w 28 28 3 5 g (9 + k) (64 - k) (64 - k) ⟨b, off, none⟩ ln c _ 127 (x.map u8) Try.underlying28 size5 h
    (by rw [List.length_map]; exact hx) (fun j v hv => by
      rw [List.getElem?_map] at hv
      cases hj : x[j]? with
      | none => rw [hj] at hv; cases hv
      | some y =>
        rw [hj] at hv
        rw [Addr.add_mid, hc' j y hj]
        simpa [u8] using hv) (by rw [hc_size hr, List.length_map]; omega) (by intro u hu; obtain ⟨_, _, rfl⟩ := List.mem_map.1 hu; rfl)
  rw [hrun, hc_copy hr hx64, List.length_map]
  rfl
theorem grown_setRow (w : World) (g : Nat) (c : Array Value) : w.grownBy (w.setRow g c) (some g) := ⟨rfl, rfl, rfl, by simp, fun i _ hi => setRow_other w g i _ (fun e => hi (by rw [e]))⟩
set_option maxRecDepth 100000 in
/-- The rest of a slice that lies apart. -/
theorem Sv.cut {w : World} {g b off n c : Nat} {l : List Nat} (h : Sv w g (.slice (some ⟨b, off, none⟩) n c) l) {k : Nat} (hk : k ≤ n) :
    ∃ v, (∀ w, (Instr.sliceAt 28 (.slice (some ⟨b, off, none⟩) n c) (some (.int .i64 (k : Nat))) none none).run Try.prog w = .ok v w) ∧ Sv w g v (l.drop k) := by
  obtain ⟨A', c', e, h1, h2, h3, h4, h5⟩ := h
  injection e with e1 e2 e3
  subst e1 e2 e3
  have hs (w : World) : (sizeOf (Try.prog.elem 28)).run Try.prog w = .ok 1 w := by
    obtain ⟨i, hi, _, hs, _⟩ := info_parts info5
    have he : Try.prog.elem 28 = 5 := by kernel_rfl
    rw [he]
    simp [sizeOf, typeInfo, hi, hs]
  refine ⟨sliced (some ⟨b, off, none⟩) k l.length c 1, fun w => ?_, ?_⟩
  · rw [run_sliceAt_slice (P := Try.prog) w _ _ _ _ _ Try.underlying28, run_slice_l (P := Try.prog) w 28 _ l.length c Try.underlying28 .i64 (k : Nat) (by omega) (by omega), hs]
    simp [Result.andThen]
  · have hl : (l.drop k).length = l.length - k := List.length_drop
    by_cases hck : c = k
    · refine ⟨some ⟨b, off, none⟩, 0, ?_, by omega, by omega, fun x hx => h3 x (List.mem_of_mem_drop hx), by simp, fun hp => by omega⟩
      simp [sliced, hck]
    · refine ⟨some ⟨b, off + k, none⟩, c - k, ?_, by omega, by omega, fun x hx => h3 x (List.mem_of_mem_drop hx), by simp, fun hp => ?_⟩
      · simp [sliced, hck, Addr.add_mid]
      · obtain ⟨b', off', e, hb, hbs, hcl⟩ := h5 (by omega)
        injection e with e
        injection e with e4 e5
        subst e4 e5
        refine ⟨b, off + k, rfl, hb, hbs, fun j x hj => ?_⟩
        rw [List.getElem?_drop] at hj
        rw [Nat.add_assoc]
        exact hcl (k + j) x hj
end Go.Proofs.Ytkialijipcbgkaa
namespace Go.Proofs.Ytkialijipcbgkaa
open Go.RowKit
set_option linter.unusedVariables false

set_option maxHeartbeats 1000000 in
set_option maxRecDepth 100000 in
theorem write_any (g : Nat) (l m : List Nat) (v : Value) (w : World) (hh : HashAt w g l) (hs : Sv w g v m) (hn : l.length + m.length ≤ 4611686018427387904) :
    Calls Try.prog 65 #[.pointer (some ⟨g, 0, none⟩), v] w (fun e w' => e = .returned (.int .i64 0) ∧ HashAt w' g (l ++ m) ∧ w.grownBy w' (some g)) := by
  have hm0 : w.cell? ⟨g, 0, none⟩ = some (.bool true) := by
    obtain ⟨s, r, _, hr⟩ := hh
    rw [hr.cell]; exact hc_made
  have HH := Lib.hid hh
  have HS := Lib.hid hs
  have HN := Lib.hid hn
  clear hh hs hn
  go_enter Try.func65, Try.ntmps65
  go_wp2
  clear hm0
  go_loopw [1] (fun v wr => ∃ j : Nat, j ≤ m.length ∧ Hid (Sv wr g v (m.drop j)) ∧ Hid (HashAt wr g (l ++ m.take j)) ∧ Hid (w.grownBy wr (some g))) (fun v _ => Sh.lenV v)
  case atStart => exact ⟨0, by omega, by simpa [Hid] using HS.out, by simpa [Hid] using HH.out, but_refl w g⟩
  case round =>
    clear HH HS
    obtain ⟨j, hj, HS, HH, HG⟩ := hrel
    obtain ⟨M, hM⟩ : ∃ M, m.drop j = M := ⟨_, rfl⟩
    have hMl : M.length = m.length - j := by rw [← hM, List.length_drop]
    obtain ⟨L, hL⟩ : ∃ L, l ++ m.take j = L := ⟨_, rfl⟩
    have hLl : L.length = l.length + j := by rw [← hL, List.length_append, List.length_take]; omega
    rw [hM] at HS
    rw [hL] at HH
    have HSS := Lib.hid HS.out
    obtain ⟨A, c, rfl, _, _, hM8, _, hsrc⟩ := HS.out
    by_cases h0 : 0 < M.length
    · obtain ⟨b, off, rfl, hbg, hbs, hcell⟩ := hsrc h0
      obtain ⟨s, r, hs, hr⟩ := HH.out
      obtain ⟨k, hk⟩ : ∃ k, L.length % 64 = k := ⟨_, rfl⟩
      have hk64 : k < 64 := by omega
      obtain ⟨t, ht⟩ : ∃ t, Nat.min M.length (64 - k) = t := ⟨_, rfl⟩
      have ht1 : t ≤ M.length := by rw [← ht]; exact Nat.min_le_left _ _
      have ht2 : k + t ≤ 64 := by have : Nat.min M.length (64 - k) ≤ 64 - k := Nat.min_le_right _ _; omega
      have ht3 : t = M.length ∨ k + t = 64 := by
        have : Nat.min M.length (64 - k) = M.length ∨ Nat.min M.length (64 - k) = 64 - k := by
          rcases Nat.le_total M.length (64 - k) with h | h
          · exact .inl (Nat.min_eq_left h)
          · exact .inr (Nat.min_eq_right h)
        omega
      have hxl : (M.take t).length = t := by rw [List.length_take]; omega
      have hcp := copy_rest (w := wr.drew) (b := b) (off := off) (ln := M.length) (c := c) (k := k) (x := M.take t) hr.drew hs.len hk64 (by rw [hxl, ht]) (fun i y hi => hcell i y (by
        rw [List.getElem?_take] at hi
        split at hi
        · exact hi
        · cases hi))
      rw [hxl] at hcp
      obtain ⟨r', hr'⟩ : ∃ r', Sh.fill r k (M.take t) = r' := ⟨_, rfl⟩
      have hr'l : r'.length = 64 := by rw [← hr']; exact Sh.fill_len hs.len (by rw [hxl]; omega)
      have hx8 : ∀ y ∈ M.take t, y < 256 := fun y hy => hM8 y (List.mem_of_mem_take hy)
      have hr'8 : ∀ y ∈ r', y < 256 := by rw [← hr']; exact Sh.fill_lt hs.lt hx8
      rw [hr'] at hcp
      obtain ⟨v', hcut, hsv⟩ := Sv.cut HSS.out (k := t) ht1
      have hsl := rest_from g k hk64
      have c73 : wr.drew.cell? ⟨g, 73, none⟩ = some (.int .u64 (L.length : Nat)) := (hr.drew.cell _).trans (hc_count hs.len)
      have hRn : Rw (wr.drew.setRow g (hc true s r' L.length)) g 127 (hc true s r' L.length) := hr.drew.row _
      obtain ⟨w2, hw2⟩ : ∃ w2, wr.drew.setRow g (hc true s r' L.length) = w2 := ⟨_, rfl⟩
      have hg2 : wr.grownBy w2 (some g) := by rw [← hw2]; exact but_trans (grown_drew wr g) (grown_setRow _ g _)
      rw [hw2] at hcp hRn
      have d73 : w2.cell? ⟨g, 73, none⟩ = some (.int .u64 (L.length : Nat)) := (hRn.cell _).trans (hc_count hr'l)
      have f73 : w2.frozen? ⟨g, 73, none⟩ = false := hRn.frozen _
      have hR3 : Rw (w2.setCell ⟨g, 73, none⟩ (.int .u64 (L.length + t : Nat))) g 127 (hc true s r' (L.length + t)) := by
        have := hRn.set 73 (.int .u64 (L.length + t : Nat))
        rw [hc_setCount hr'l] at this
        exact this
      have i0 : (0 : Int) < (M.length : Int) := by omega
      have i1 : (L.length : Int).tmod 64 = (k : Nat) := by rw [Int.tmod_eq_emod_of_nonneg (by omega)]; omega
      have i2 : IntKind.u64.wrap (t : Int) = (t : Int) := by rw [IntKind.wrap_u64]; have := HN.out; omega
      have i3 : IntKind.u64.wrap ((L.length : Int) + (t : Int)) = (L.length + t : Nat) := by rw [IntKind.wrap_u64]; have := HN.out; omega
      have HML := Lib.hid hMl
      have HLL := Lib.hid hLl
      have HR3 := Lib.hid hR3
      have HRS := Lib.hid hs
      have HSV := Lib.hid hsv
      have HG2 := Lib.hid hg2
      have HF : Hid (Sh.fill r k (M.take t) = r') := hr'
      have HK : Hid (L.length % 64 = k) := hk
      have HX := Lib.hid hxl
      have HX8 := Lib.hid hx8
      have HR8 := Lib.hid hr'8
      have HHM := Lib.hid hM
      have HHL := Lib.hid hL
      clear hMl hLl hR3 hs hsv hg2 hr' hk hxl hx8 hr'8 hM hL hRn hw2 hM8 hsrc hcell HS HH HSS hr ht
      have e5 : ((L.length + t : Nat) : Int) = (L.length : Int) + (t : Int) := by omega
      have HR4 : Hid (Rw (w2.setCell ⟨g, 73, none⟩ (.int .u64 ((L.length : Int) + (t : Int)))) g 127 (hc true s r' (L.length + t))) := by
        have := HR3.out
        rw [e5] at this
        exact this
      have HG3 : Hid (wr.grownBy (w2.setCell ⟨g, 73, none⟩ (.int .u64 ((L.length : Int) + (t : Int)))) (some g)) := but_trans HG2.out (grown_setCell _ g 73 _)
      have HJ : Hid (l ++ m.take (j + t) = L ++ M.take t ∧ m.drop (j + t) = M.drop t ∧ j + t ≤ m.length ∧ (L ++ M.take t).length = L.length + t) := by
        have := HML.out
        refine ⟨?_, ?_, by omega, by rw [List.length_append, HX.out]⟩
        · rw [← HHL.out, ← HHM.out, List.append_assoc, ← List.take_add]
        · rw [← HHM.out, List.drop_drop]
      have HV : Hid (Sh.lenV v' < M.length) := by
        obtain ⟨A', c', rfl, _⟩ := HSV.out
        show (M.drop t).length < M.length
        rw [List.length_drop]; omega
      clear HR3 HG2 e5
      by_cases hf : k + t = 64
      · have hq : (((L.length : Int) + (t : Int)) % 64 == 0) = true := by rw [beq_iff_eq]; have := HK.out; omega
        have HSF : Hid (Sh.HS (Sh.press s r') r' (L ++ M.take t)) := by
          have h1 := Sh.HS.full HRS.out HX8.out (by rw [HK.out, HX.out]; exact hf)
          rw [HK.out, HF.out] at h1
          exact h1
        go_wp2
        go_still_tail 10, (by kernel_rfl)
        change wpList _ _ _ _ _ wr.drew
        go_wp2
        generalize hw3 : w2.setCell _ _ = w3
        rw [hw3] at HR4 HG3
        clear hw3 hcp d73 f73 c73 hcut hsl hq
        have HP : Hid (∀ w, Calls Try.prog 89 #[.agg (stv s), .agg (bvs r')] w (IsSt (Sh.press s r') w)) := fun w => press_any s r' hr'l HR8.out w
        have h1s : (Try.prog.info? 100).map (·.size) = some (stv s).size := size23
        have h2s : (Try.prog.info? 102).map (·.size) = some (bvs r').size := by rw [bvs_size, hr'l]; exact size24
        obtain ⟨S', hS'⟩ : ∃ S', Sh.press s r' = S' := ⟨_, rfl⟩
        rw [hS'] at HP HSF
        clear hS' i0 i1 i2 i3
        have HRS : Hid (∀ w, Rw w g 127 (hc true s r' (L.length + t)) → w.rangeAt g 1 (stv s).toList ∧ w.rangeAt g 9 (bvs r').toList) := fun w h => ⟨h.state, h.rest⟩
        obtain ⟨c1, hc1⟩ : ∃ c, stv s = c := ⟨_, rfl⟩
        obtain ⟨c2, hc2⟩ : ∃ c, bvs r' = c := ⟨_, rfl⟩
        rw [hc1, hc2] at HP HRS
        rw [hc1] at h1s
        rw [hc2] at h2s
        clear hc1 hc2
        refine wp_region_grow 12 (by kernel_rfl) (by kernel_rfl) (fun w' => Rw w' g 127 (hc true s r' (L.length + t)) ∧ wr.grownBy w' (some g)) ⟨HR4.out.drew, but_trans HG3.out (grown_drew w3 g)⟩ ?_
        simp only [List.take_succ_cons, List.take_zero, List.drop_succ_cons, List.drop_zero]
        iterate 4 (refine wpGrow_pure (v := ?_) rfl ?_ ?_; rotate_left; focus (intro w' _; go_simp; first | done | with_reducible rfl)
                   go_simp)
        refine wpGrow_load_mid rfl _ _ rfl g 1 rfl c1 _ (fun w' h => (HRS.out w' h.1).1) Try.underlying100 rfl h1s ?_
        go_simp
        iterate 3 (refine wpGrow_pure (v := ?_) rfl ?_ ?_; rotate_left; focus (intro w' _; go_simp; first | done | with_reducible rfl)
                   go_simp)
        refine wpGrow_load_mid rfl _ _ rfl g 9 rfl c2 _ (fun w' h => (HRS.out w' h.1).2) Try.underlying102 rfl h2s ?_
        go_simp
        refine wpGrow_call (v := .agg (stv S')) (f := 89) (args := #[.agg c1, .agg c2]) rfl (fun w' => by go_simp) (fun w' h => (HP.out w').mono ?_) ?_
        · rintro e w5 ⟨rfl, hb5⟩
          exact ⟨rfl, h.1.below hb5 h.1.lt, but_trans h.2 (grown_below g hb5)⟩
        go_simp
        iterate 2 (refine wpGrow_pure (v := ?_) rfl ?_ ?_; rotate_left; focus (intro w' _; go_simp; first | done | with_reducible rfl)
                   go_simp)
        refine wpGrow_nil ?_
        intro w5 hr5 hg5
        have h83 : (stv S').size = 8 := rfl
        have HT5 : Hid (w5.there g 1 (stv S').size) := hr5.there (by rw [hc_size hr'l, h83]; omega)
        have HR5 := Lib.hid (hr5.newState (s' := S'))
        have HG5 : Hid (w.grownBy (w5.setCells g 1 (stv S').toList) (some g)) := but_trans HG.out (but_trans hg5 (grown_setCells g _ 1 w5))
        have HV5 : Hid (Sv (w5.setCells g 1 (stv S').toList) g v' (M.drop t)) := HSV.out.kept (but_trans hg5 (grown_setCells g _ 1 w5))
        clear hr5 hg5
        go_wp2_with (refine wpList_store_mid rfl _ _ _ rfl g 1 (stv S') rfl rfl HT5.out size23 (stv_one S') ?_)
        obtain ⟨j1, j2, j3, j4⟩ := HJ.out
        dsimp only [Act.put]
        go_roundw
        case rel =>
          refine ⟨j + t, j3, ?_, ?_, HG5.out⟩
          · rw [j2]; exact HV5.out
          · rw [j1]; exact ⟨S', r', HSF.out, by rw [j4]; exact HR5.out⟩
        case measure => exact HV.out
      · have hq : (((L.length : Int) + (t : Int)) % 64 == 0) = false := by rw [beq_eq_false_iff_ne]; have := HK.out; omega
        have HSF : Hid (Sh.HS s r' (L ++ M.take t)) := by
          have h1 := Sh.HS.more HRS.out HX8.out (by rw [HK.out, HX.out]; omega)
          rw [HK.out, HF.out] at h1
          exact h1
        go_wp2
        go_still_tail 10, (by kernel_rfl)
        change wpList _ _ _ _ _ wr.drew
        go_wp2
        obtain ⟨j1, j2, j3, j4⟩ := HJ.out
        refine ⟨⟨j + t, j3, ?_, ?_, ?_⟩, HV.out⟩
        · rw [j2]; exact HSV.out.kept HG3.out
        · rw [j1]; exact ⟨s, r', HSF.out, by rw [j4]; exact HR4.out⟩
        · exact but_trans HG.out HG3.out
    · obtain rfl : M = [] := List.eq_nil_of_length_eq_zero (by omega)
      have hjm : j = m.length := by simp at hMl; omega
      subst hjm
      have HE : Hid (HashAt wr g (l ++ m)) := by
        rw [List.take_of_length_le (Nat.le_refl _)] at hL
        rw [hL]; exact HH.out
      clear hsrc hM8 hMl hLl hM hL HH HS HSS h0
      go_wp2
      go_ret
      exact ⟨rfl, HE.out, HG.out⟩
end Go.Proofs.Ytkialijipcbgkaa
namespace Go.Proofs.Ytkialijipcbgkaa
open Go.RowKit
set_option linter.unusedVariables false

def z74 : Array Value := hc false ⟨0, 0, 0, 0, 0, 0, 0, 0⟩ z64 0
set_option maxRecDepth 100000 in
theorem zero50 : (Try.prog.info? 127).map (fun i => (i.zero, i.size)) = some (some (.agg z74), 74) := by kernel_rfl
set_option maxRecDepth 100000 in
theorem size50 : (Try.prog.info? 127).map (·.size) = some 74 := by kernel_rfl

set_option maxHeartbeats 1000000 in
set_option maxRecDepth 100000 in
theorem hsum_any (g : Nat) (l : List Nat) (w : World) (hh : HashAt w g l) (hn : l.length ≤ 1099511627776) :
    Calls Try.prog 66 #[.pointer (some ⟨g, 0, none⟩)] w (fun e w' => e = .returned (.agg (bvs (Sh.sum l))) ∧ Below w.heap.size w w') := by
  obtain ⟨s, r, hs, hr⟩ := hh
  obtain ⟨n, hne⟩ : ∃ n, l.length = n := ⟨_, rfl⟩
  rw [hne] at hr hn
  have hm0 : (w.alloc (.cells none32 23)).cell? ⟨g, 0, none⟩ = some (.bool true) := by rw [(hr.old _).cell]; exact hc_made
  have hs74 : (hc true s r n).size = 74 := hc_size hs.len
  have hone : (hc true s r n).all (·.oneCell') = true := hc_one
  have hcount : (hc true s r n)[73]? = some (.int .u64 (n : Nat)) := hc_count hs.len
  obtain ⟨c, hce⟩ : ∃ c, hc true s r n = c := ⟨_, rfl⟩
  rw [hce] at hr hs74 hone hcount
  have HCE := Lib.hid hce
  have HS := Lib.hid hs
  have HNE := Lib.hid hne
  have hzero : ∀ w, (zeroValue 23).run Try.prog w = .ok (.agg none32) w := (zero_of_info (n := 32) (by kernel_rfl)).1
  have hzero2 := (zero_of_info zero50).1
  have HR0 : Hid (Rw (w.alloc (.cells none32 23)) g 127 c) := hr.old _
  have HR1 : Hid (Rw ((w.alloc (.cells none32 23)).alloc (.cells c 127)) (w.heap.size + 1) 127 c) := Rw.at_ (by simp) _ _
  have HD1 : Hid (Rw ((w.alloc (.cells none32 23)).alloc (.cells c 127)) w.heap.size 23 none32) := (Rw.new w _ _).old _
  have HB1 : Hid (Below w.heap.size w ((w.alloc (.cells none32 23)).alloc (.cells c 127))) := ((Below.refl w.heap.size w).alloc (Nat.le_refl _) _).alloc (by simp) _
  have c73 : ((w.alloc (.cells none32 23)).alloc (.cells c 127)).cell? ⟨g, 73, none⟩ = some (.int .u64 (n : Nat)) := ((hr.old _).old _).cell 73 |>.trans hcount
  have hset : ((w.alloc (.cells none32 23)).alloc (.cells z74 127)).setRow (w.heap.size + 1) c = (w.alloc (.cells none32 23)).alloc (.cells c 127) := by
    have := World.setRow_alloc_new (w.alloc (.cells none32 23)) z74 c 127
    rw [show (w.alloc (.cells none32 23)).heap.size = w.heap.size + 1 by simp] at this
    exact this
  have hsz : ((w.alloc (.cells none32 23)).alloc (.cells c 127)).heap.size = w.heap.size + 2 := by simp
  obtain ⟨w1, hw1⟩ : ∃ w1, (w.alloc (.cells none32 23)).alloc (.cells c 127) = w1 := ⟨_, rfl⟩
  have HW1 := Lib.hid hw1
  rw [hw1] at HR1 HD1 HB1 c73 hsz hset
  clear hce hs hr hne hw1 hcount
  go_enter Try.func66, Try.ntmps66
  have HBH := Lib.hid (behind_any n hn w1)
  have HLE := Lib.hid hn
  clear hn
  go_wp2_with (first
    | (refine wpList_load_row rfl _ _ rfl g rfl 127 c (0, 0) _ HR0.out Try.underlying127 rfl (by rw [hs74]; exact size50) ?_)
    | (refine wpList_store_row rfl _ _ _ rfl (w.heap.size + 1) c rfl rfl 127 _ (Rw.at_ (by simp) _ _) (by rw [hs74]; exact size50) (by rw [hs74]; rfl) hone ?_
       rw [hset]))
  refine HBH.out.mono ?_
  rintro e w2 ⟨A, k, rfl, hO2, hB2⟩
  have hg1 : w.heap.size + 1 < w1.heap.size := by omega
  have HH2 : Hid (HashAt w2 (w.heap.size + 1) l) := by
    have h1 := HR1.out.below hB2 hg1
    rw [← HCE.out, ← HNE.out] at h1
    exact ⟨s, r, HS.out, h1⟩
  have HD2 := Lib.hid (HD1.out.below hB2 HD1.out.lt)
  have HB2 := Lib.hid (HB1.out.trans (hB2.mono HB1.out.size))
  have HW := Lib.hid (write_any (w.heap.size + 1) l (Sh.behind n) (.slice A (Sh.behind n).length k) w2 HH2.out (hO2.src hg1) (by rw [HNE.out, Sh.behind_len]; have := Sh.noughts_lt n; have := HLE.out; omega))
  have HZ2 : Hid (w.heap.size + 1 < w2.heap.size) := Nat.lt_of_lt_of_le hg1 hB2.size
  clear HBH hO2 hB2 HH2 HD1 HB1 HR1 c73 hset HR0 HW1 hone hzero2 hsz hg1 hm0
  go_wp2_with (fail)
  refine HW.out.mono ?_
  rintro e w3 ⟨rfl, hH3, hG3⟩
  obtain ⟨s', r', hs', hr3⟩ := hH3
  have HD3 : Hid (Rw w3 w.heap.size 23 none32) := (hG3.block w.heap.size (by have := HZ2.out; omega) (by simp)).trans HD2.out
  have HB3 : Hid (Below w.heap.size w w3) := below_grown HB2.out hG3 HB2.out.size (by omega)
  have hbytes : s'.bytes = Sh.sum l := by
    have h1 := hs'
    rw [← HNE.out] at h1
    exact Sh.sum_of h1
  have HR3 := Lib.hid hr3.state
  have HDG : Hid (∀ w, Calls Try.prog 91 #[.agg (stv s').toList.toArray] w (fun e w' => e = .returned (.agg (bvs (Sh.sum l))) ∧ Below w.heap.size w w')) := fun w => by
    rw [← hbytes]
    exact digest_any s' w
  have h32 : (Sh.sum l).length = 32 := by rw [← hbytes]; exact St.bytes_len s'
  have hsz := size35l h32
  have hone := bvs_one (Sh.sum l)
  have hds : none32.size = (bvs (Sh.sum l)).size := by rw [bvs_size, h32]; rfl
  obtain ⟨dv, hdv⟩ : ∃ dv, bvs (Sh.sum l) = dv := ⟨_, rfl⟩
  rw [hdv] at hsz hone hds HDG
  have HDV := Lib.hid hdv
  have hlz : (Try.prog.info? 100).map (·.size) = some (stv s').toList.length := size23
  obtain ⟨vl, hvl⟩ : ∃ vl, (stv s').toList = vl := ⟨_, rfl⟩
  rw [hvl] at HR3 HDG hlz
  clear hdv hvl hbytes hr3 hs' hG3 HD2 HB2 HW HZ2 h32
  go_wp2_with (first
    | (refine wpList_load_mid rfl _ _ rfl (w.heap.size + 1) 1 rfl vl _ HR3.out Try.underlying100 rfl hlz ?_)
    | (go_at_call 91; (with_reducible refine (HDG.out _).mono ?_); rintro e w4 ⟨rfl, hb4⟩; have HD4 := Lib.hid (HD3.out.below hb4 HD3.out.lt); have HB4 := Lib.hid (HB3.out.trans (hb4.mono HB3.out.size)); clear hb4)
    | (refine wpList_store_row rfl _ _ _ rfl w.heap.size dv rfl rfl 23 _ HD4.out hsz hds hone ?_))
  refine bodyPost_ret (v := .agg dv) (results_cell_row rfl _ _ w.heap.size 23 dv (0, 0) _ rfl (Rw.row HD4.out dv) Try.underlying23 rfl hsz) rfl ⟨by rw [HDV.out], HB4.out.trans (below_setRow (Below.refl _ _) (Nat.le_refl _) _)⟩

set_option maxHeartbeats 1000000 in
set_option maxRecDepth 100000 in
theorem sum_any (v : Value) (l : List Nat) (B : Nat) (w : World) (hB : B ≤ w.heap.size) (h : Bv w B v l) (hn : l.length ≤ 1099511627776) :
    Calls Try.prog 45 #[v] w (fun e w' => e = .returned (.agg (bvs (Sh.sum l))) ∧ Below w.heap.size w w') := by
  have hzero : ∀ w, (zeroValue 23).run Try.prog w = .ok (.agg none32) w := (zero_of_info (n := 32) (by kernel_rfl)).1
  have HV := Lib.hid h
  have HN := Lib.hid hn
  have HBB := Lib.hid hB
  clear h hn hB
  go_enter Try.func45, Try.ntmps45
  go_wp2_with (fail)
  refine (new_any _).mono ?_
  rintro e w1 ⟨g, rfl, hg, hH1, hb1⟩
  have hz : w.heap.size + 1 ≤ g := by simpa using hg
  have hb0 : Below w.heap.size w (w.alloc (.cells none32 23)) := (Below.refl w.heap.size w).alloc (Nat.le_refl _) _
  have HD1 : Hid (Rw w1 w.heap.size 23 none32) := (Rw.new w _ _).below hb1 (by simp)
  have HB1 : Hid (Below w.heap.size w w1) := hb0.trans (hb1.mono (by simp))
  have HV1 : Hid (Bv w1 B v l) := HV.out.below_ HB1.out HBB.out
  have HW := Lib.hid (write_any g [] l v w1 hH1 (HV1.out.src (by have := HBB.out; omega) hH1.lt) (by have := HN.out; simp; omega))
  have HGE := Lib.hid hz
  have HSZ := Lib.hid hH1.lt
  clear hg hH1 hb1 hb0 hz
  go_wp2_with (fail)
  refine HW.out.mono ?_
  rintro e w2 ⟨rfl, hH2, hG2⟩
  rw [List.nil_append] at hH2
  have HD2 : Hid (Rw w2 w.heap.size 23 none32) := (hG2.block w.heap.size (by have := HSZ.out; have := HGE.out; omega) (by have := HGE.out; simp; omega)).trans HD1.out
  have HB2 : Hid (Below w.heap.size w w2) := below_grown HB1.out hG2 HB1.out.size (by have := HGE.out; omega)
  have HS := Lib.hid (hsum_any g l w2 hH2 HN.out)
  clear hG2 hH2 HD1 HB1 HV1 HW
  go_wp2_with (fail)
  refine HS.out.mono ?_
  rintro e w3 ⟨rfl, hb3⟩
  have HD3 := Lib.hid (HD2.out.below hb3 HD2.out.lt)
  have HB3 := Lib.hid (HB2.out.trans (hb3.mono HB2.out.size))
  have h32 : (Sh.sum l).length = 32 := by unfold Sh.sum; exact St.bytes_len _
  have hsz := size35l h32
  have hone := bvs_one (Sh.sum l)
  have hds : none32.size = (bvs (Sh.sum l)).size := by rw [bvs_size, h32]; rfl
  obtain ⟨dv, hdv⟩ : ∃ dv, bvs (Sh.sum l) = dv := ⟨_, rfl⟩
  rw [hdv] at hsz hone hds ⊢
  have HDV := Lib.hid hdv
  clear hdv hb3 HD2 HB2 HS h32
  go_wp2_with (refine wpList_store_row rfl _ _ _ rfl w.heap.size dv rfl rfl 23 _ HD3.out hsz hds hone ?_)
  refine bodyPost_ret (v := .agg dv) (results_cell_row rfl _ _ w.heap.size 23 dv (0, 0) _ rfl (Rw.row HD3.out dv) Try.underlying23 rfl hsz) rfl ⟨by rw [HDV.out], HB3.out.trans (below_setRow (Below.refl _ _) (Nat.le_refl _) _)⟩
end Go.Proofs.Ytkialijipcbgkaa
