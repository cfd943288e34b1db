/-
  PfB: simfs: act, Arm, Acts, Dead, Room.
  PfC: bytes.Clone; copy into an own slice from a place on.
  PfDo: simfs.change.do: a file's bytes behind an act, written over where they lie.
-/
import Derived.Test.YtmcbjcbnckpfkaaPn11
import Derived.Test.YtmcbjcbnckpfkaaPn03
import Derived.Laws.CopyRow
import Derived.Laws.IdiomCopy
import Derived.StillTailTactics
namespace Go.Proofs.Ytmcbjcbnckpfkaa
open Go.RowKit
set_option linter.unusedVariables false
section
variable {w : World} {fp : Fp} {s : Nat} {t : Sf.St} {b : Nat} {who : Who} {bf bs bn : Nat} {vr : Sl} {ff : Int → Option RawX} {rn : List RawN}
set_option maxHeartbeats 2000000 in
set_option maxRecDepth 100000 in
theorem pact_head (h : IsHead w b (headP t bf bs bn vr)) (ha : t.acts ≤ 4398046511104) (hf : t.fuse < 9223372036854775808) :
    Calls Try.prog 44 #[.pointer (some ⟨b, 0, none⟩)] w (fun e w' => e = .returned (.int .i64 ((Sf.blown t).1 : Nat)) ∧ IsHead w' b (headP (Sf.blown t).2 bf bs bn vr) ∧ Turned (fun k => k = b) w w') := by
  have d6 : w.cell? ⟨b, 6, none⟩ = some (.int .i64 (t.acts : Nat)) := head_cellP h rfl
  have z6 : w.frozen? ⟨b, 6, none⟩ = false := frozen_of_row w b 6 _ _ h
  have wa : IntKind.i64.wrap ((t.acts : Int) + 1) = (t.acts : Int) + 1 := by rw [IntKind.wrap_i64]; omega
  have na : ((t.acts + 1 : Nat) : Int) = (t.acts : Int) + 1 := by omega
  have h1 := head_setP h 6 (.int .i64 ((t.acts : Int) + 1)) (C' := headP { t with acts := t.acts + 1 } bf bs bn vr) (by unfold headP; rw [← na]; rfl)
  have T1 : Turned (fun k => k = b) w (w.setCell ⟨b, 6, none⟩ (.int .i64 ((t.acts : Int) + 1))) := Turned.setCell (F := fun k => k = b) (Turned.refl (fun k => k = b) w) (p := ⟨b, 6, none⟩) (fun _ => rfl) _
  obtain ⟨w1, hw1⟩ : ∃ w1, w.setCell ⟨b, 6, none⟩ (.int .i64 ((t.acts : Int) + 1)) = w1 := ⟨_, rfl⟩
  rw [hw1] at h1 T1
  have d7 : w1.cell? ⟨b, 7, none⟩ = some (.int .i64 (t.fuse : Nat)) := head_cellP h1 rfl
  have z7 : w1.frozen? ⟨b, 7, none⟩ = false := frozen_of_row w1 b 7 _ _ h1
  have HH1 := Lib.hid h1
  have HT1 := Lib.hid T1
  clear h h1 T1 na
  by_cases h0 : t.fuse = 0
  · have hz : ((t.fuse : Int) == 0) = true := by rw [beq_iff_eq]; omega
    have HE : Hid (Sf.blown t = (0, { t with acts := t.acts + 1 })) := if_pos h0
    clear h0
    go_enter Try.func44, Try.ntmps44
    go_wp2
    go_ret
    rw [HE.out]
    exact ⟨rfl, HH1.out, HT1.out⟩
  · have hz : ((t.fuse : Int) == 0) = false := by rw [beq_eq_false_iff_ne]; omega
    have wf : IntKind.i64.wrap ((t.fuse : Int) - 1) = (t.fuse : Int) - 1 := by rw [IntKind.wrap_i64]; omega
    have nf : ((t.fuse - 1 : Nat) : Int) = (t.fuse : Int) - 1 := by omega
    have h2 := head_setP HH1.out 7 (.int .i64 ((t.fuse : Int) - 1)) (C' := headP { t with acts := t.acts + 1, fuse := t.fuse - 1 } bf bs bn vr) (by unfold headP; rw [← nf]; rfl)
    have T2 := Turned.setCell (F := fun k => k = b) HT1.out (p := ⟨b, 7, none⟩) (fun _ => rfl) (.int .i64 ((t.fuse : Int) - 1))
    obtain ⟨w2, hw2⟩ : ∃ w2, w1.setCell ⟨b, 7, none⟩ (.int .i64 ((t.fuse : Int) - 1)) = w2 := ⟨_, rfl⟩
    rw [hw2] at h2 T2
    have d72 : w2.cell? ⟨b, 7, none⟩ = some (.int .i64 ((t.fuse : Int) - 1)) := by rw [← nf]; exact head_cellP h2 rfl
    have z8 : w2.frozen? ⟨b, 8, none⟩ = false := frozen_of_row w2 b 8 _ _ h2
    have d8 : w2.cell? ⟨b, 8, none⟩ = some (.bool t.dead) := head_cellP h2 rfl
    have HH2 := Lib.hid h2
    have HT2 := Lib.hid T2
    clear h2 T2 nf
    by_cases h1 : t.fuse = 1
    · have hq : ¬ (0 : Int) < (t.fuse : Int) - 1 := by omega
      have HE : Hid (Sf.blown t = (13, { t with acts := t.acts + 1, fuse := 0, dead := true })) := by unfold Hid Sf.blown; rw [if_neg h0, if_pos h1]
      have h3 := head_setP HH2.out 8 (.bool true) (C' := headP { t with acts := t.acts + 1, fuse := 0, dead := true } bf bs bn vr) (by unfold headP; simp only [h1]; rfl)
      have T3 := Turned.setCell (F := fun k => k = b) HT2.out (p := ⟨b, 8, none⟩) (fun _ => rfl) (.bool true)
      have HH3 := Lib.hid h3
      have HT3 := Lib.hid T3
      clear h0 h1 h3 T3
      go_enter Try.func44, Try.ntmps44
      go_wp2
      go_ret
      rw [HE.out]
      exact ⟨rfl, HH3.out, HT3.out⟩
    · have hq : (0 : Int) < (t.fuse : Int) - 1 := by omega
      have HE : Hid (Sf.blown t = (0, { t with acts := t.acts + 1, fuse := t.fuse - 1 })) := by unfold Hid Sf.blown; rw [if_neg h0, if_neg h1]
      clear h0 h1
      go_enter Try.func44, Try.ntmps44
      go_wp2
      go_ret
      rw [HE.out]
      exact ⟨rfl, HH2.out, HT2.out⟩
theorem GoodS.blown (h : GoodS (s + 1) t) (ha : t.acts < 1099511627776) : GoodS s (Sf.blown t).2 := by
  have e : ∀ u : Sf.St, u.room = t.room → u.files = t.files → u.sure = t.sure → u.seen = t.seen → u.row = t.row → u.acts = t.acts + 1 → u.fuse ≤ t.fuse → GoodS s u := fun u h1 h2 h3 h4 h5 h6 h7 =>
    ⟨by rw [h1]; exact h.room, by rw [h2, h6]; have := h.files; omega, by rw [h5, h6]; have := h.rows; omega, by rw [h6]; omega, by have := h.fuse; omega, by rw [h3]; exact h.sure, by rw [h4]; exact h.seen, by rw [h5]; exact h.row,
     fun d hd => by rw [h2]; rw [h3, h4, h5] at hd; exact h.lens d hd, by rw [h4]; exact h.nums, fun f hf => by rw [h2] at hf; rw [h6]; have := h.frow f hf; omega⟩
  unfold Sf.blown
  split
  · exact e _ rfl rfl rfl rfl rfl rfl (Nat.le_refl _)
  · split
    · exact e _ rfl rfl rfl rfl rfl rfl (Nat.zero_le _)
    · exact e _ rfl rfl rfl rfl rfl rfl (Nat.sub_le _ _)
theorem pblown_same (t : Sf.St) : (Sf.blown t).2.files = t.files ∧ (Sf.blown t).2.sure = t.sure ∧ (Sf.blown t).2.seen = t.seen ∧ (Sf.blown t).2.row = t.row ∧ (Sf.blown t).2.room = t.room ∧ (Sf.blown t).2.acts = t.acts + 1 := by
  unfold Sf.blown
  split
  · exact ⟨rfl, rfl, rfl, rfl, rfl, rfl⟩
  · split <;> exact ⟨rfl, rfl, rfl, rfl, rfl, rfl⟩
theorem PBody.congr {u : Sf.St} {q : Nat} (h : PBody w who s t bf bs bn vr ff rn) (h1 : u.files = t.files) (h2 : u.sure = t.sure) (h3 : u.seen = t.seen) (h4 : u.row = t.row) (h5 : t.acts + s ≤ u.acts + q) : PBody w who q u bf bs bn vr ff rn :=
  ⟨h.files.mono_ (by omega), by rw [h3]; exact h.names.mono_ (by omega), by rw [h2]; exact h.sure.mono_ (by omega), h.row, by rw [h4, h2]; exact h.hrow, by rw [h3, h2]; exact h.hseen, fun hr => h.nil (by rw [← h4]; exact hr),
   fun i x hx => by rw [h1]; exact h.file i x hx, fun n hn => h.there n (by
     obtain ⟨d, hd, he⟩ := hn
     rw [h2, h3, h4] at hd
     exact ⟨d, hd, he⟩), h.filesW, h.namesW, h.sureW, h.rowW⟩
/-- An act is counted. -/
theorem pact_disk (h : PHas w fp (s + 1) t b who bf bs bn vr ff rn) (ha : t.acts < 1099511627776) :
    Calls Try.prog 44 #[.pointer (some ⟨b, 0, none⟩)] w (fun e w' => e = .returned (.int .i64 ((Sf.blown t).1 : Nat)) ∧ PHas w' fp s (Sf.blown t).2 b who bf bs bn vr ff rn ∧ Turned (fun k => k = b) w w') := by
  refine (pact_head h.head (by omega) h.good.fuse).mono ?_
  rintro e w' ⟨rfl, h1, hT⟩
  obtain ⟨e1, e2, e3, e4, e5, e6⟩ := pblown_same t
  refine ⟨rfl, ⟨h1, (h.body.turned hT fun k hk => .inr (by rw [hk]; exact h.mine)).congr e1 e2 e3 e4 (by omega), h.good.blown ha, h.mine, h.m, h.r, fun k hk => Nat.lt_of_lt_of_le (h.lt k hk) hT.size⟩, hT⟩
theorem turned_mine (h : PHas w fp s t b who bf bs bn vr ff rn) {w' : World} (hT : Turned (fun k => k = b) w w') : Turned fp.M w w' := hT.mono fun k _ hk => (h.m k).2 (by rw [hk, h.mine]; rfl)
set_option maxHeartbeats 1000000 in
set_option maxRecDepth 100000 in
theorem parm_any (h : PDisk w fp t b) (n : Int) (hn : I64 n) : Calls Try.prog 37 #[.pointer (some ⟨b, 0, none⟩), .int .i64 n] w (IsDeed PDisk fp b (Sf.arm t n) w) := by
  obtain ⟨who, bf, bs, bn, vr, ff, rn, h⟩ := h
  have CR := Lib.hid (prefusal_disk h)
  have HH := Lib.hid h
  have d7 : w.cell? ⟨b, 7, none⟩ = some (.int .i64 (t.fuse : Nat)) := h.cell rfl
  have z7 : w.frozen? ⟨b, 7, none⟩ = false := frozen_of_row w b 7 _ _ h.head
  have T1 : Turned (fun k => k = b) w (w.setCell ⟨b, 7, none⟩ (.int .i64 n)) := Turned.setCell (F := fun k => k = b) (Turned.refl (fun k => k = b) w) (p := ⟨b, 7, none⟩) (fun _ => rfl) _
  have HT := Lib.hid T1
  clear h T1
  cases hd : t.dead with
  | true =>
    have HE : Hid (Sf.arm t n = (13, t)) := if_pos hd
    rw [hd] at CR
    clear hd
    go_enter Try.func37, Try.ntmps37
    go_wp2_with fail
    refine CR.out.mono ?_
    rintro e1 w1 ⟨rfl, rfl⟩
    clear CR
    go_wp2
    go_ret
    rw [HE.out]
    exact ⟨rfl, fp, ⟨_, _, _, _, _, _, _, HH.out⟩, Fp.Next.refl _ _, Turned.refl _ _⟩
  | false =>
    rw [hd] at CR
    by_cases h0 : n < 0
    · have HE : Hid (Sf.arm t n = (2, t)) := by unfold Hid Sf.arm; rw [hd, if_neg (by simp), if_pos h0]
      clear hd
      go_enter Try.func37, Try.ntmps37
      go_wp2_with fail
      refine CR.out.mono ?_
      rintro e1 w1 ⟨rfl, rfl⟩
      clear CR
      go_wp2
      go_ret
      rw [HE.out]
      exact ⟨rfl, fp, ⟨_, _, _, _, _, _, _, HH.out⟩, Fp.Next.refl _ _, Turned.refl _ _⟩
    · have HE : Hid (Sf.arm t n = (0, { t with fuse := n.toNat })) := by unfold Hid Sf.arm; rw [hd, if_neg (by simp), if_neg h0]
      have hn2 := hn
      unfold I64 at hn2
      have nn : ((n.toNat : Nat) : Int) = n := by omega
      have h1 := head_setP HH.out.head 7 (.int .i64 n) (C' := headP { t with fuse := n.toNat } bf bs bn vr) (by unfold headP; rw [← nn]; rfl)
      have H1 := Lib.hid h1
      have HG : Hid (GoodS 0 { t with fuse := n.toNat }) := ⟨HH.out.good.room, HH.out.good.files, HH.out.good.rows, HH.out.good.acts, by show n.toNat < _; omega, HH.out.good.sure, HH.out.good.seen, HH.out.good.row, HH.out.good.lens, HH.out.good.nums, HH.out.good.frow⟩
      clear hd h1 nn
      go_enter Try.func37, Try.ntmps37
      go_wp2_with fail
      refine CR.out.mono ?_
      rintro e1 w1 ⟨rfl, rfl⟩
      clear CR
      go_wp2
      go_ret
      rw [HE.out]
      refine ⟨rfl, fp, ⟨who, bf, bs, bn, vr, ff, rn, H1.out, (HH.out.body.turned HT.out fun k hk => .inr (by rw [hk]; exact HH.out.mine)).congr rfl rfl rfl rfl (Nat.le_refl _), HG.out, HH.out.mine, HH.out.m, HH.out.r, fun k hk => Nat.lt_of_lt_of_le (HH.out.lt k hk) HT.out.size⟩, Fp.Next.refl _ _, turned_mine HH.out HT.out⟩
set_option maxHeartbeats 1000000 in
set_option maxRecDepth 100000 in
theorem pacts_any (h : PDisk w fp t b) : Calls Try.prog 28 #[.pointer (some ⟨b, 0, none⟩)] w (IsNum t.acts w) := by
  obtain ⟨who, bf, bs, bn, vr, ff, rn, h⟩ := h
  have CM := Lib.hid (pmade_cell (w := w) (b := b) (some bf) (h.cell rfl))
  have d6 : w.cell? ⟨b, 6, none⟩ = some (.int .i64 (t.acts : Nat)) := h.cell rfl
  clear h
  go_enter Try.func28, Try.ntmps28
  go_wp2_with fail
  refine CM.out.mono ?_
  rintro e1 w1 ⟨rfl, rfl⟩
  clear CM
  go_wp2
  go_ret
  exact ⟨rfl, Below.refl _ _⟩
set_option maxHeartbeats 1000000 in
set_option maxRecDepth 100000 in
theorem pdead_any (h : PDisk w fp t b) : Calls Try.prog 29 #[.pointer (some ⟨b, 0, none⟩)] w (IsBool t.dead w) := by
  obtain ⟨who, bf, bs, bn, vr, ff, rn, h⟩ := h
  have CM := Lib.hid (pmade_cell (w := w) (b := b) (some bf) (h.cell rfl))
  have d8 : w.cell? ⟨b, 8, none⟩ = some (.bool t.dead) := h.cell rfl
  clear h
  go_enter Try.func29, Try.ntmps29
  go_wp2_with fail
  refine CM.out.mono ?_
  rintro e1 w1 ⟨rfl, rfl⟩
  clear CM
  go_wp2
  go_ret
  exact ⟨rfl, Below.refl _ _⟩
set_option maxHeartbeats 1000000 in
set_option maxRecDepth 100000 in
theorem proom_any (h : PDisk w fp t b) : Calls Try.prog 27 #[.pointer (some ⟨b, 0, none⟩)] w (IsNum (Sf.roomOf t) w) := by
  obtain ⟨who, bf, bs, bn, vr, ff, rn, h⟩ := h
  have CR := Lib.hid (prefusal_disk h)
  have h0 : w.cell? ⟨b, 0, none⟩ = some (.int .i64 (t.room : Nat)) := h.cell rfl
  clear h
  cases hd : t.dead with
  | true =>
    have HR : Hid (Sf.roomOf t = 0) := by unfold Hid Sf.roomOf; rw [hd]; rfl
    rw [hd] at CR
    clear hd
    go_enter Try.func27, Try.ntmps27
    go_wp2_with fail
    refine CR.out.mono ?_
    rintro e1 w1 ⟨rfl, rfl⟩
    clear CR
    go_wp2
    go_ret
    exact ⟨by rw [HR.out]; rfl, Below.refl _ _⟩
  | false =>
    have HR : Hid (Sf.roomOf t = t.room) := by unfold Hid Sf.roomOf; rw [hd]; rfl
    rw [hd] at CR
    clear hd
    go_enter Try.func27, Try.ntmps27
    go_wp2_with fail
    refine CR.out.mono ?_
    rintro e1 w1 ⟨rfl, rfl⟩
    clear CR
    go_wp2
    go_ret
    exact ⟨by rw [HR.out]; rfl, Below.refl _ _⟩
end
end Go.Proofs.Ytmcbjcbnckpfkaa
namespace Go.Proofs.Ytmcbjcbnckpfkaa
open Go.RowKit
set_option linter.unusedVariables false
theorem equalIn_slice_nil (w : World) (d : Nat) (A : Option Addr) (n c : Nat) : (Op.equalIn (d + 1) 22 (.slice A n c) (.slice none 0 0)).run Try.prog w = .ok A.isNone w := by
  cases A <;> simp [Op.equalIn, run_underlying Try.underlying22]
theorem eql_nil_slice (w : World) (A : Option Addr) (n c : Nat) : (binOp .eql 22 (.slice A n c) (.slice none 0 0)).run Try.prog w = .ok (.bool A.isNone) w := by
  simp only [binOp]
  simp [show Op.equal 22 (.slice A n c) (.slice none 0 0) = Op.equalIn (9999 + 1) 22 (.slice A n c) (.slice none 0 0) from rfl, equalIn_slice_nil w 9999 A n c]
set_option maxHeartbeats 1000000 in
set_option maxRecDepth 100000 in
theorem pbclone_any (v : Value) (l : List Nat) (B : Nat) (w : World) (h : Lv yK w B v l) (hB : B ≤ w.heap.size) (hsz : l.length ≤ 140737488355328) :
    Calls Try.prog 55 #[v] w (IsL1 yK l w) := by
  have H0 := Lib.hid h
  obtain ⟨A, c, rfl, h1, h2, h3, _⟩ := h
  cases A with
  | none =>
    have hc := h3 rfl
    have hl : l = [] := List.eq_nil_of_length_eq_zero (by omega)
    subst hl hc
    have hq := fun w => eql_nil_slice w none 0 0
    clear h1 h2 h3 hsz hB
    go_enter Try.func55, Try.ntmps55
    go_wp2
    go_ret
    exact ⟨none, 0, rfl, OwnL.nil_ _ _ _, Below.refl _ _⟩
  | some a =>
    have HN : Hid (OwnL yK (w.alloc (.cells #[] 5)) w.heap.size (.slice (some ⟨w.heap.size, 0, none⟩) 0 0) []) := ⟨by simp, .inr ⟨w.heap.size, [], rfl, Nat.le_refl _, by simp, by simp [maxLen], heap_alloc_new w _⟩⟩
    have H1 := Lib.hid (H0.out.below_ ((Below.refl w.heap.size w).alloc (Nat.le_refl _) (.cells #[] 5)) hB)
    have hb : Below w.heap.size w (w.alloc (.cells #[] 5)) := (Below.refl _ _).alloc (Nat.le_refl _) _
    have HB := Lib.hid hb
    clear hb
    have hq := fun w => eql_nil_slice w (some a) l.length c
    go_enter Try.func55, Try.ntmps55
    go_wp2_with (at_builtin; go_must (refine wpList_append_l _ yK rfl _ _ rfl w.heap.size _ rfl [] HN.out _ rfl B l H1.out (by show _ * 1 ≤ _; simp; omega) (by simp only [maxLen, List.length_nil]; omega) (by simp) ?_; intro A3 c3 w1 hA hG))
    go_ret
    simp only [List.nil_append] at hA
    exact ⟨A3, c3, by simp, hA, HB.out.grown hG HB.out.size (fun k hk => by have e : w.heap.size = k := Option.some.inj hk; omega)⟩
theorem sizeY : (Try.prog.info? 5).map (·.size) = some 1 := by kernel_rfl
theorem flatY (l : List Nat) : yK.flat l = l.map fun x => Value.int .u8 (x : Nat) := by
  induction l with
  | nil => rfl
  | cons x l ih => rw [flat_cons, ih]; rfl
set_option maxRecDepth 100000 in
/-- copy into an own slice, from a place on. -/
theorem copy_at {w : World} {base B n c : Nat} {A : Option Addr} {l : List Nat} (h : OwnL yK w base (.slice A n c) l) (k : Nat) (hk : k ≤ l.length) {x : Value} {m : List Nat} (hx : Lv yK w B x m) :
    ∃ A' w2, (∀ w, (Instr.slice 22 (.slice A n c) (some (.int .i64 (k : Nat))) none none).run Try.prog w = .ok (.slice A' (n - k) (c - k)) w) ∧
      (∀ w, (Instr.sliceAt 22 (.slice A n c) (some (.int .i64 (k : Nat))) none none).run Try.prog w = .ok (.slice A' (n - k) (c - k)) w) ∧
      (Builtin.copy_ #[22, 22] 3 #[.slice A' (n - k) (c - k), x]).run Try.prog w = .ok (.int .i64 ((Nat.min m.length (l.length - k) : Nat))) w2 ∧
      OwnL yK w2 base (.slice A n c) (l.take k ++ m.take (Nat.min m.length (l.length - k)) ++ l.drop (k + Nat.min m.length (l.length - k))) ∧ w.grownBy w2 (Value.slice A n c).ownBlock := by
  have hform := h.form_
  obtain ⟨en, hc1, hc2⟩ := hform.len_
  subst en
  have hu : Try.prog.underlying yK.s = some (.slice (Try.prog.elem yK.s)) := yK.under
  have h1' : ∀ w, (Instr.slice yK.s (.slice A l.length c) (some (.int .i64 (k : Nat))) none none).run Try.prog w = .ok (.slice (if c = k then A else A.map (·.add (k * yK.size))) (l.length - k) (c - k)) w := by
    intro w
    rw [run_slice_l (P := Try.prog) w yK.s A l.length c hu .i64 (k : Nat) (by omega) (by omega), elem_size yK rfl]
    simp only [Result.andThen, sliced, Int.toNat_natCast]
  have h2' : ∀ w, (Instr.sliceAt yK.s (.slice A l.length c) (some (.int .i64 (k : Nat))) none none).run Try.prog w = .ok (.slice (if c = k then A else A.map (·.add (k * yK.size))) (l.length - k) (c - k)) w := by
    intro w
    rw [run_sliceAt_slice (P := Try.prog) w _ _ _ _ _ hu]
    exact h1' w
  have h1 : ∀ w, (Instr.slice 22 (.slice A l.length c) (some (.int .i64 (k : Nat))) none none).run Try.prog w = .ok (.slice (if c = k then A else A.map (·.add (k * yK.size))) (l.length - k) (c - k)) w := h1'
  have h2 : ∀ w, (Instr.sliceAt 22 (.slice A l.length c) (some (.int .i64 (k : Nat))) none none).run Try.prog w = .ok (.slice (if c = k then A else A.map (·.add (k * yK.size))) (l.length - k) (c - k)) w := h2'
  obtain ⟨A1, c1, rfl, hm1, hm2, hm3, hm4, hm5⟩ := hx
  obtain ⟨q, hq⟩ : ∃ q, Nat.min m.length (l.length - k) = q := ⟨_, rfl⟩
  have hq1 : q ≤ m.length := by rw [← hq]; exact Nat.min_le_left _ _
  have hq2 : q ≤ l.length - k := by rw [← hq]; exact Nat.min_le_right _ _
  rw [hq]
  by_cases h0 : 0 < q
  · rcases h.2 with ⟨e, e2⟩ | ⟨g, s, e, hb, hs, hml, hh⟩
    · subst e2
      simp at hq2
      omega
    · injection e with e1 e2 e3
      subst e1 e3
      obtain ⟨b, off, rfl, hbB, hcell⟩ := hm5 (by omega)
      have hne : ¬ l.length + s.length = k := by omega
      have ea : (⟨g, 0, none⟩ : Addr).add k = ⟨g, k, none⟩ := by rw [add_addr, Nat.zero_add]
      have hrun := run_copy_row (P := Try.prog) w 22 22 3 5 g k (l.length - k) (l.length + s.length - k) ⟨b, off, none⟩ m.length c1 _ 5 (yK.flat (m.take q)) Try.underlying22 sizeY hh
        (by rw [flat_len, List.length_take, hq, Nat.min_eq_left hq1]; exact Nat.mul_one _) (fun j v hj => by
          rw [add_addr]
          refine hcell j v ?_
          have e2 : yK.flat m = yK.flat (m.take q) ++ yK.flat (m.drop q) := by rw [← flat_app, List.take_append_drop]
          rw [e2, List.getElem?_append_left (List.getElem?_eq_some_iff.1 hj).1]
          exact hj) (by
          rw [flat_len, List.length_take, Nat.min_eq_left hq1, List.size_toArray, flat_len, List.length_append]
          show k + q * 1 ≤ (l.length + s.length) * 1
          omega) (fun u hu => flat_one_cell _ u hu)
      have hlen : (l.take k ++ m.take q ++ l.drop (k + q)).length = l.length := by simp; omega
      have hcs : ((yK.flat (l ++ s)).toArray.toList.take k ++ yK.flat (m.take q) ++ (yK.flat (l ++ s)).toArray.toList.drop (k + (yK.flat (m.take q)).length)).toArray = (yK.flat ((l.take k ++ m.take q ++ l.drop (k + q)) ++ s)).toArray := by
        have ef : (yK.flat (m.take q)).length = q := by rw [flat_len, List.length_take, Nat.min_eq_left hq1]; exact Nat.mul_one _
        rw [ef, List.toList_toArray, flatY, flatY, flatY, List.map_append, List.map_append, List.map_append, List.map_append]
        congr 1
        rw [List.take_append_of_le_length (by rw [List.length_map]; exact hk), List.drop_append_of_le_length (by rw [List.length_map]; omega), List.map_take, List.map_drop]
        simp [List.append_assoc]
      rw [hcs] at hrun
      refine ⟨_, w.setRow g (yK.flat ((l.take k ++ m.take q ++ l.drop (k + q)) ++ s)).toArray, h1, h2, ?_, ⟨fun y hy => ?_, .inr ⟨g, s, by rw [hlen], hb, hs, by rw [hlen]; exact hml, setRow_heap w g _ _ _ _ hh⟩⟩, ⟨rfl, rfl, rfl, by simp, fun i _ hi => setRow_other w g i _ (fun e => hi (by rw [e]; rfl))⟩⟩
      · rw [if_neg hne, show yK.size = 1 from rfl, Nat.mul_one, Option.map_some, ea, hrun]
        congr 1
        rw [flat_len, List.length_take, Nat.min_eq_left hq1]
        show goInt ((q * 1 : Nat) : Int) = _
        rw [Nat.mul_one]; rfl
      · rcases List.mem_append.1 hy with hy | hy
        · rcases List.mem_append.1 hy with hy | hy
          · exact h.1 y (List.mem_of_mem_take hy)
          · exact hm4 y (List.mem_of_mem_take hy)
        · exact h.1 y (List.mem_of_mem_drop hy)
  · have hz : q = 0 := by omega
    rw [hz]
    have hrun := run_copy_none (P := Try.prog) w 22 22 3 5 (if c = k then A else A.map (·.add (k * yK.size))) A1 (l.length - k) (c - k) m.length c1 Try.underlying22 sizeY (by rw [hq, hz])
    refine ⟨_, w, h1, h2, hrun, ?_, ⟨rfl, rfl, rfl, Nat.le_refl _, fun _ _ _ => rfl⟩⟩
    simpa using h
end Go.Proofs.Ytmcbjcbnckpfkaa
namespace Go.Proofs.Ytmcbjcbnckpfkaa
open Go.RowKit
set_option linter.unusedVariables false
def cV (c : RawC) : Value := .agg #[.int .i64 (c.at_ : Nat), .slice c.sl.A c.sl.n c.sl.c, .bool c.cut]
/-- A call that answers these bytes, where they lay or in new memory. -/
def IsDone (v : Value) (base : Nat) (l : List Nat) (w : World) (e : Ending) (w' : World) : Prop :=
  ∃ A c, e = .returned (.slice A l.length c) ∧ OwnL yK w' base (.slice A l.length c) l ∧ w.grownBy w' v.ownBlock ∧ Moved w v (.slice A l.length c)
theorem OwnL.cutOff {P : Program} {α : Type} {K : El P α} {w : World} {base n c k : Nat} {A : Option Addr} {l : List α} (h : OwnL K w base (.slice A n c) l) (hk : k ≤ l.length) : OwnL K w base (.slice A k c) (l.take k) := by
  cases A with
  | none =>
    rcases h.2 with ⟨e, rfl⟩ | ⟨g, s, e, _⟩
    · injection e with _ e2 e3
      subst e2 e3
      have : k = 0 := by simpa using hk
      subst this
      exact OwnL.nil_ _ _ _
    · cases e
  | some a =>
    rcases h.2 with ⟨e, _⟩ | ⟨g, s, e, _⟩
    · cases e
    · injection e with e1 e2 e3
      injection e1 with e1
      subst e1
      exact h.take_ hk
/-- A list of one's own is in no block of another kind. -/
theorem own_ne {P : Program} {α : Type} {K : El P α} {w : World} {base b : Nat} {v : Value} {l : List α} {cs : Array Value} {T : TypeId} {fr : Nat × Nat} (h : OwnL K w base v l) (hb : w.heap[b]? = some (.cells cs T fr)) (hT : T ≠ K.e) : v.ownBlock ≠ some b := by
  intro e
  rcases h.2 with ⟨rfl, _⟩ | ⟨g, s, rfl, _, _, _, hh⟩
  · cases e
  · have eg : g = b := Option.some.inj e
    subst eg
    rw [hb] at hh
    injection hh with hh
    injection hh with _ hh _
    exact hT hh
set_option maxHeartbeats 2000000 in
set_option maxRecDepth 100000 in
theorem pcdo_any (c : RawC) (v : Value) (l : List Nat) (base B : Nat) (m : List Nat) (w : World) (hv : OwnL yK w base v l) (hm : Lv yK w B (slV c.sl) m) (hap : 0 < m.length → Apart (slV c.sl) v) (ha : c.at_ ≤ l.length) (hl : l.length ≤ 1099511627776) (hml : m.length ≤ 1099511627776) (hbase : base ≤ w.heap.size) (hB : B ≤ w.heap.size) :
    Calls Try.prog 62 #[cV c, v] w (IsDone v base (Sf.done l ⟨c.cut, c.at_, m⟩) w) := by
  obtain ⟨at_, ⟨Ac, nc, cc⟩, cut⟩ := c
  simp only [slV] at hm hap ha
  obtain ⟨A, cv, rfl, hc1, hc2, _, _⟩ := hv.form_
  change Calls _ _ #[.agg #[.int .i64 (at_ : Nat), .slice Ac nc cc, .bool cut], .slice A l.length cv] w _
  obtain ⟨w1, hw1⟩ : ∃ w1, w.alloc (.cells #[.int .i64 (at_ : Nat), .slice Ac nc cc, .bool cut] 96) = w1 := ⟨_, rfl⟩
  have hbx := heap_alloc_new w (.cells #[.int .i64 (at_ : Nat), .slice Ac nc cc, .bool cut] 96)
  have hbb : Below w.heap.size w (w.alloc (.cells #[.int .i64 (at_ : Nat), .slice Ac nc cc, .bool cut] 96)) := (Below.refl _ _).alloc (Nat.le_refl _) _
  have hgr : w.grownBy (w.alloc (.cells #[.int .i64 (at_ : Nat), .slice Ac nc cc, .bool cut] 96)) none := World.grownBy_alloc w _ none
  have hsz : w1.heap.size = w.heap.size + 1 := by rw [← hw1]; simp
  rw [hw1] at hbx hbb hgr
  have hv1 : OwnL yK w1 base (.slice A l.length cv) l := hv.below_ hbb (Nat.le_refl _)
  have hm1 : Lv yK w1 B (.slice Ac nc cc) m := hm.below_ hbb hB
  have h0 : w1.cell? ⟨w.heap.size, 0, none⟩ = some (.int .i64 (at_ : Nat)) := by rw [cell_of_row _ _ 0 _ _ _ hbx]; rfl
  have h1 : w1.cell? ⟨w.heap.size, 1, none⟩ = some (.slice Ac nc cc) := by rw [cell_of_row _ _ 1 _ _ _ hbx]; rfl
  have h2 : w1.cell? ⟨w.heap.size, 2, none⟩ = some (.bool cut) := by rw [cell_of_row _ _ 2 _ _ _ hbx]; rfl
  have HV := Lib.hid hv1
  have HM := Lib.hid hm1
  have HG := Lib.hid hgr
  have HBX := Lib.hid hbx
  cases cut with
  | true =>
    have HE : Hid (Sf.done l ⟨true, at_, m⟩ = l.take at_) := if_pos rfl
    have k1 := fun w => cut_to yK rfl A l.length cv at_ (by omega) w
    have k2 := fun w => cutAt_to yK rfl A l.length cv at_ (by omega) w
    change ∀ w, (Instr.slice 22 (.slice A l.length cv) none (some (.int .i64 (at_ : Nat))) none).run Try.prog w = .ok (.slice A at_ cv) w at k1
    change ∀ w, (Instr.sliceAt 22 (.slice A l.length cv) none (some (.int .i64 (at_ : Nat))) none).run Try.prog w = .ok (.slice A at_ cv) w at k2
    have HT : Hid ((l.take at_).length = at_) := by unfold Hid; rw [List.length_take]; omega
    have HO := Lib.hid (hv1.cutOff (k := at_) ha)
    clear hv hm hv1 hm1 hbx hbb hgr hap
    go_enter Try.func62, Try.ntmps62
    go_wp2
    go_ret
    rw [HE.out]
    refine ⟨A, cv, by rw [HT.out]; rfl, by rw [HT.out]; exact HO.out, ?_, ?_⟩
    · exact ⟨HG.out.os, HG.out.tape, HG.out.output, HG.out.size, fun k hk _ => HG.out.block k hk (by simp)⟩
    · rw [HT.out]
      intro k hk
      refine .inl ?_
      cases A <;> exact hk
  | false =>
    obtain ⟨A', w2, k1, k2, hcp, hown, hg2⟩ := copy_at (w := w1.drew) (hv1.drew_) at_ ha (hm1.drew_)
    obtain ⟨q, hq⟩ : ∃ q, Nat.min m.length (l.length - at_) = q := ⟨_, rfl⟩
    have hq1 : q ≤ m.length := by rw [← hq]; exact Nat.min_le_left _ _
    have hq2 : q ≤ l.length - at_ := by rw [← hq]; exact Nat.min_le_right _ _
    have hq3 : q = m.length ∨ q = l.length - at_ := by
      rcases Nat.le_total m.length (l.length - at_) with h | h
      · exact .inl (by rw [← hq]; exact Nat.min_eq_left h)
      · exact .inr (by rw [← hq]; exact Nat.min_eq_right h)
    rw [hq] at hcp hown
    replace hg2 : w1.grownBy w2 (Value.slice A l.length cv).ownBlock := ⟨hg2.os, hg2.tape, hg2.output, hg2.size, hg2.block⟩
    have HD : Hid ((l.take at_ ++ m.take q ++ l.drop (at_ + q)) ++ m.drop q = Sf.done l ⟨false, at_, m⟩) := by
      show _ = l.take at_ ++ m ++ l.drop (at_ + m.length)
      rcases hq3 with h | h
      · rw [h, List.drop_length, List.take_length, List.append_nil]
      · rw [List.drop_of_length_le (l := l) (i := at_ + q) (by omega), List.drop_of_length_le (l := l) (i := at_ + m.length) (by omega), List.append_nil, List.append_nil, List.append_assoc, List.take_append_drop]
    have HL : Hid ((l.take at_ ++ m.take q ++ l.drop (at_ + q)).length = l.length) := by unfold Hid; simp; omega
    obtain ⟨L2, hL2⟩ : ∃ L2, l.take at_ ++ m.take q ++ l.drop (at_ + q) = L2 := ⟨_, rfl⟩
    rw [hL2] at HD HL hown
    clear hL2
    have HLS : Hid (L2.length + (m.length - q) = (Sf.done l ⟨false, at_, m⟩).length) := by unfold Hid; rw [← HD.out, List.length_append, List.length_drop]
    have hm2 : Lv yK w2 B (.slice Ac nc cc) m := hm1.turnedB_ (Turned.of_grown hg2) fun hp k hk e => hap hp k hk e
    obtain ⟨en, hcn, hcm⟩ := hm.len_
    subst en
    obtain ⟨A2, k3, k4, hdrop, _⟩ := cut_from yK rfl Ac m.length cc q hq1 hcn
    change ∀ w, (Instr.slice 22 (.slice Ac m.length cc) (some (.int .i64 (q : Nat))) none none).run Try.prog w = .ok (.slice A2 (m.length - q) (cc - q)) w at k3
    change ∀ w, (Instr.sliceAt 22 (.slice Ac m.length cc) (some (.int .i64 (q : Nat))) none none).run Try.prog w = .ok (.slice A2 (m.length - q) (cc - q)) w at k4
    have HM2 := Lib.hid (hdrop _ _ _ hm2)
    have HO2 := Lib.hid hown
    have HG2 := Lib.hid hg2
    have b1 : w2.cell? ⟨w.heap.size, 1, none⟩ = some (.slice Ac m.length cc) := by
      have hb2 : w2.heap[w.heap.size]? = w1.heap[w.heap.size]? := hg2.block _ (by omega) (fun e => by have := (hv.lt_ w.heap.size e.symm).2; omega)
      rw [cell_of_row _ _ 1 _ _ _ (hb2.trans hbx)]; rfl
    have HML : Hid (m.length ≤ 1099511627776 ∧ l.length ≤ 1099511627776) := ⟨hml, hl⟩
    have HDL : Hid ((m.drop q).length = m.length - q) := by unfold Hid; rw [List.length_drop]
    have HBS : Hid (base ≤ w2.heap.size) := by have := hg2.size; unfold Hid; omega
    have HLT : Hid (∀ k, (Value.slice A l.length cv).ownBlock = some k → k < w.heap.size) := fun k hk => (hv.lt_ k hk).2
    have h0d : w1.drew.cell? ⟨w.heap.size, 0, none⟩ = some (.int .i64 (at_ : Nat)) := h0
    have h1d : w1.drew.cell? ⟨w.heap.size, 1, none⟩ = some (.slice Ac m.length cc) := h1
    clear hv hm hv1 hm1 hbx hbb hgr hap hm2 hdrop hown hg2 hq hq3 hcm
    go_enter Try.func62, Try.ntmps62
    go_wp2
    go_still_tail 6, (by kernel_rfl)
    change wpList _ _ _ _ _ w1.drew
    go_wp2_with (at_builtin; go_must (refine wpList_append_m _ yK rfl _ _ rfl base _ rfl _ HO2.out _ rfl B (m.drop q) HM2.out (by rw [HL.out, HDL.out]; show _ * 1 ≤ _; have := HML.out; omega) (by rw [HL.out, HDL.out]; have := HML.out; simp only [maxLen]; omega) HBS.out ?_; intro A3 c3 w3 hA hG hMv))
    rw [HD.out] at hA hMv
    go_ret
    refine ⟨A3, c3, by rw [← HLS.out]; rfl, hA, ?_, ?_⟩
    · exact ⟨hG.os.trans (HG2.out.os.trans HG.out.os), hG.tape.trans (HG2.out.tape.trans HG.out.tape), hG.output.trans (HG2.out.output.trans HG.out.output), Nat.le_trans HG.out.size (Nat.le_trans HG2.out.size hG.size), fun k hk hne => (hG.block k (Nat.lt_of_lt_of_le hk (Nat.le_trans HG.out.size HG2.out.size)) hne).trans ((HG2.out.block k (Nat.lt_of_lt_of_le hk HG.out.size) hne).trans (HG.out.block k hk (by simp)))⟩
    · intro k hk
      rcases hMv k hk with h | h
      · exact .inl h
      · have := HG2.out.size
        exact .inr (by omega)
end Go.Proofs.Ytmcbjcbnckpfkaa
