/-
  PfA: simfs: made, refusal, find, act.
  PfB: simfs: act, Arm, Acts, Dead, Room.
  PfC: bytes.Clone; copy into an own slice from a place on.
-/
import Derived.Test.YtmcbjcbnckpfkaaGreatPt13
import Derived.Test.YtmcbjcbnckpfkaaGreatPt03
import Derived.Laws.CopyRow
import Derived.Laws.IdiomCopy
namespace Go.Proofs.YtmcbjcbnckpfkaaGreat
open Go.RowKit
set_option linter.unusedVariables false
theorem equalIn_map_nil (w : World) (d : Nat) (t k e : TypeId) (p : Option Nat) (h : Tryz.prog.underlying t = some (.map k e)) : (Op.equalIn (d + 1) t (.map p) (.map none)).run Tryz.prog w = .ok p.isNone w := by
  cases p <;> simp [Op.equalIn, run_underlying h]
theorem neq_map_nil (w : World) (t k e : TypeId) (p : Option Nat) (h : Tryz.prog.underlying t = some (.map k e)) : (binOp .neq t (.map p) (.map none)).run Tryz.prog w = .ok (.bool (!p.isNone)) w := by
  simp only [binOp]
  simp [show Op.equal t (.map p) (.map none) = Op.equalIn (9999 + 1) t (.map p) (.map none) from rfl, equalIn_map_nil w 9999 t k e p h]
theorem eql_map_nil (w : World) (t k e : TypeId) (p : Option Nat) (h : Tryz.prog.underlying t = some (.map k e)) : (binOp .eql t (.map p) (.map none)).run Tryz.prog w = .ok (.bool p.isNone) w := by
  simp only [binOp]
  simp [show Op.equal t (.map p) (.map none) = Op.equalIn (9999 + 1) t (.map p) (.map none) from rfl, equalIn_map_nil w 9999 t k e p h]
theorem head_cellP {w : World} {b : Nat} {C : Array Value} (h : IsHead w b C) {j : Nat} {u : Value} (hj : C[j]? = some u) : w.cell? ⟨b, j, none⟩ = some u := by
  rw [cell_of_row _ b j _ _ _ h]; exact hj
theorem head_setP {w : World} {b : Nat} {C C' : Array Value} (h : IsHead w b C) (j : Nat) (u : Value) (hC : C.set! j u = C') : IsHead (w.setCell ⟨b, j, none⟩ u) b C' := by
  unfold IsHead
  rw [heap_setCell_same w b j _ _ u h, ← hC]
  rfl
section
variable {w : World} {b : Nat}
set_option maxHeartbeats 1000000 in
set_option maxRecDepth 100000 in
theorem pmade_cell (m : Option Nat) (h : w.cell? ⟨b, 1, none⟩ = some (.map m)) : Calls Tryz.prog 55 #[.pointer (some ⟨b, 0, none⟩)] w (fun e w' => e = .returned (.bool m.isSome) ∧ w = w') := by
  have hq := fun w => neq_map_nil w 77 _ _ m Tryz.underlying77
  go_enter Tryz.func55, Tryz.ntmps55
  go_wp2
  go_ret
  exact ⟨rfl, rfl⟩
set_option maxHeartbeats 1000000 in
set_option maxRecDepth 100000 in
theorem prefusal_cell (m : Nat) (h : w.cell? ⟨b, 1, none⟩ = some (.map (some m))) (d : Bool) (h8 : w.cell? ⟨b, 8, none⟩ = some (.bool d)) :
    Calls Tryz.prog 67 #[.pointer (some ⟨b, 0, none⟩)] w (fun e w' => e = .returned (.int .i64 (if d then 13 else 0)) ∧ w = w') := by
  have CM := Lib.hid (pmade_cell (some m) h)
  cases d with
  | true =>
    go_enter Tryz.func67, Tryz.ntmps67
    go_wp2_with fail
    refine CM.out.mono ?_
    rintro e1 w1 ⟨rfl, rfl⟩
    clear CM
    go_wp2
    go_ret
    exact ⟨rfl, rfl⟩
  | false =>
    go_enter Tryz.func67, Tryz.ntmps67
    go_wp2_with fail
    refine CM.out.mono ?_
    rintro e1 w1 ⟨rfl, rfl⟩
    clear CM
    go_wp2
    go_ret
    exact ⟨rfl, rfl⟩
end
section
variable {w : World} {fp : Fp} {s : Nat} {t : Sf.St} {b : Nat} {who : Who} {bf bs bn : Nat} {vr : Sl} {ff : Int → Option RawX} {rn : List RawN}
theorem prefusal_disk (h : PHas w fp s t b who bf bs bn vr ff rn) : Calls Tryz.prog 67 #[.pointer (some ⟨b, 0, none⟩)] w (fun e w' => e = .returned (.int .i64 (if t.dead then 13 else 0)) ∧ w = w') :=
  prefusal_cell bf (h.cell rfl) t.dead (h.cell rfl)
set_option maxHeartbeats 1000000 in
set_option maxRecDepth 100000 in
theorem pfind_disk (h : PHas w fp s t b who bf bs bn vr ff rn) (u : ByteArray) (hu : u.size ≤ maxLen) :
    Calls Tryz.prog 70 #[.pointer (some ⟨b, 0, none⟩), .string u] w (fun e w' => e = .returned (.tuple #[.int .i64 ((Sf.get t u).1 : Nat), .int .i64 ((Sf.get t u).2 : Nat)]) ∧ w = w') := by
  have CR := Lib.hid (prefusal_disk h)
  have h5 : w.cell? ⟨b, 5, none⟩ = some (.map (some bn)) := h.cell rfl
  have hl := h.body.names.look_ok (x := u) hu
  change (Instr.lookup 75 (.map (some bn)) (.string u) true).run Tryz.prog w = .ok (.tuple #[.int .i64 ((Sf.dirF t.seen u).getD 0), .bool (Sf.dirF t.seen u).isSome]) w at hl
  clear h
  cases hd : t.dead with
  | true =>
    have HE := Lib.hid (Sf.get_dead hd u)
    rw [hd] at CR
    clear hd hl
    go_enter Tryz.func70, Tryz.ntmps70
    go_wp2_with fail
    refine CR.out.mono ?_
    rintro e1 w1 ⟨rfl, rfl⟩
    clear CR
    go_wp2
    go_ret2
    rw [HE.out]
    exact ⟨rfl, rfl⟩
  | false =>
    rw [hd] at CR
    cases hf : Sf.find t.seen u with
    | none =>
      have HE : Hid (Sf.get t u = (0, 7)) := by unfold Hid Sf.get; rw [hd, hf]; rfl
      have e1 : Sf.dirF t.seen u = none := by unfold Sf.dirF; rw [hf]; rfl
      rw [e1] at hl
      clear hd hf e1
      go_enter Tryz.func70, Tryz.ntmps70
      go_wp2_with fail
      refine CR.out.mono ?_
      rintro e1 w1 ⟨rfl, rfl⟩
      clear CR
      go_wp2
      go_ret2
      rw [HE.out]
      exact ⟨rfl, rfl⟩
    | some n =>
      have HE : Hid (Sf.get t u = (n, 0)) := by unfold Hid Sf.get; rw [hd, hf]; rfl
      have e1 : Sf.dirF t.seen u = some (n : Int) := by unfold Sf.dirF; rw [hf]; rfl
      rw [e1] at hl
      clear hd hf e1
      go_enter Tryz.func70, Tryz.ntmps70
      go_wp2_with fail
      refine CR.out.mono ?_
      rintro e1 w1 ⟨rfl, rfl⟩
      clear CR
      go_wp2
      go_ret2
      rw [HE.out]
      exact ⟨rfl, rfl⟩
end
end Go.Proofs.YtmcbjcbnckpfkaaGreat
namespace Go.Proofs.YtmcbjcbnckpfkaaGreat
open Go.RowKit
set_option linter.unusedVariables false
section
variable {w : World} {fp : Fp} {s : Nat} {t : Sf.St} {b : Nat} {who : Who} {bf bs bn : Nat} {vr : Sl} {ff : Int → Option RawX} {rn : List RawN}
set_option maxHeartbeats 2000000 in
set_option maxRecDepth 100000 in
theorem pact_head (h : IsHead w b (headP t bf bs bn vr)) (ha : t.acts ≤ 4398046511104) (hf : t.fuse < 9223372036854775808) :
    Calls Tryz.prog 72 #[.pointer (some ⟨b, 0, none⟩)] w (fun e w' => e = .returned (.int .i64 ((Sf.blown t).1 : Nat)) ∧ IsHead w' b (headP (Sf.blown t).2 bf bs bn vr) ∧ Turned (fun k => k = b) w w') := by
  have d6 : w.cell? ⟨b, 6, none⟩ = some (.int .i64 (t.acts : Nat)) := head_cellP h rfl
  have z6 : w.frozen? ⟨b, 6, none⟩ = false := frozen_of_row w b 6 _ _ h
  have wa : IntKind.i64.wrap ((t.acts : Int) + 1) = (t.acts : Int) + 1 := by rw [IntKind.wrap_i64]; omega
  have na : ((t.acts + 1 : Nat) : Int) = (t.acts : Int) + 1 := by omega
  have h1 := head_setP h 6 (.int .i64 ((t.acts : Int) + 1)) (C' := headP { t with acts := t.acts + 1 } bf bs bn vr) (by unfold headP; rw [← na]; rfl)
  have T1 : Turned (fun k => k = b) w (w.setCell ⟨b, 6, none⟩ (.int .i64 ((t.acts : Int) + 1))) := Turned.setCell (F := fun k => k = b) (Turned.refl (fun k => k = b) w) (p := ⟨b, 6, none⟩) (fun _ => rfl) _
  obtain ⟨w1, hw1⟩ : ∃ w1, w.setCell ⟨b, 6, none⟩ (.int .i64 ((t.acts : Int) + 1)) = w1 := ⟨_, rfl⟩
  rw [hw1] at h1 T1
  have d7 : w1.cell? ⟨b, 7, none⟩ = some (.int .i64 (t.fuse : Nat)) := head_cellP h1 rfl
  have z7 : w1.frozen? ⟨b, 7, none⟩ = false := frozen_of_row w1 b 7 _ _ h1
  have HH1 := Lib.hid h1
  have HT1 := Lib.hid T1
  clear h h1 T1 na
  by_cases h0 : t.fuse = 0
  · have hz : ((t.fuse : Int) == 0) = true := by rw [beq_iff_eq]; omega
    have HE : Hid (Sf.blown t = (0, { t with acts := t.acts + 1 })) := if_pos h0
    clear h0
    go_enter Tryz.func72, Tryz.ntmps72
    go_wp2
    go_ret
    rw [HE.out]
    exact ⟨rfl, HH1.out, HT1.out⟩
  · have hz : ((t.fuse : Int) == 0) = false := by rw [beq_eq_false_iff_ne]; omega
    have wf : IntKind.i64.wrap ((t.fuse : Int) - 1) = (t.fuse : Int) - 1 := by rw [IntKind.wrap_i64]; omega
    have nf : ((t.fuse - 1 : Nat) : Int) = (t.fuse : Int) - 1 := by omega
    have h2 := head_setP HH1.out 7 (.int .i64 ((t.fuse : Int) - 1)) (C' := headP { t with acts := t.acts + 1, fuse := t.fuse - 1 } bf bs bn vr) (by unfold headP; rw [← nf]; rfl)
    have T2 := Turned.setCell (F := fun k => k = b) HT1.out (p := ⟨b, 7, none⟩) (fun _ => rfl) (.int .i64 ((t.fuse : Int) - 1))
    obtain ⟨w2, hw2⟩ : ∃ w2, w1.setCell ⟨b, 7, none⟩ (.int .i64 ((t.fuse : Int) - 1)) = w2 := ⟨_, rfl⟩
    rw [hw2] at h2 T2
    have d72 : w2.cell? ⟨b, 7, none⟩ = some (.int .i64 ((t.fuse : Int) - 1)) := by rw [← nf]; exact head_cellP h2 rfl
    have z8 : w2.frozen? ⟨b, 8, none⟩ = false := frozen_of_row w2 b 8 _ _ h2
    have d8 : w2.cell? ⟨b, 8, none⟩ = some (.bool t.dead) := head_cellP h2 rfl
    have HH2 := Lib.hid h2
    have HT2 := Lib.hid T2
    clear h2 T2 nf
    by_cases h1 : t.fuse = 1
    · have hq : ¬ (0 : Int) < (t.fuse : Int) - 1 := by omega
      have HE : Hid (Sf.blown t = (13, { t with acts := t.acts + 1, fuse := 0, dead := true })) := by unfold Hid Sf.blown; rw [if_neg h0, if_pos h1]
      have h3 := head_setP HH2.out 8 (.bool true) (C' := headP { t with acts := t.acts + 1, fuse := 0, dead := true } bf bs bn vr) (by unfold headP; simp only [h1]; rfl)
      have T3 := Turned.setCell (F := fun k => k = b) HT2.out (p := ⟨b, 8, none⟩) (fun _ => rfl) (.bool true)
      have HH3 := Lib.hid h3
      have HT3 := Lib.hid T3
      clear h0 h1 h3 T3
      go_enter Tryz.func72, Tryz.ntmps72
      go_wp2
      go_ret
      rw [HE.out]
      exact ⟨rfl, HH3.out, HT3.out⟩
    · have hq : (0 : Int) < (t.fuse : Int) - 1 := by omega
      have HE : Hid (Sf.blown t = (0, { t with acts := t.acts + 1, fuse := t.fuse - 1 })) := by unfold Hid Sf.blown; rw [if_neg h0, if_neg h1]
      clear h0 h1
      go_enter Tryz.func72, Tryz.ntmps72
      go_wp2
      go_ret
      rw [HE.out]
      exact ⟨rfl, HH2.out, HT2.out⟩
theorem GoodS.blown (h : GoodS (s + 1) t) (ha : t.acts < 1099511627776) : GoodS s (Sf.blown t).2 := by
  have e : ∀ u : Sf.St, u.room = t.room → u.files = t.files → u.sure = t.sure → u.seen = t.seen → u.row = t.row → u.acts = t.acts + 1 → u.fuse ≤ t.fuse → GoodS s u := fun u h1 h2 h3 h4 h5 h6 h7 =>
    ⟨by rw [h1]; exact h.room, by rw [h2, h6]; have := h.files; omega, by rw [h5, h6]; have := h.rows; omega, by rw [h6]; omega, by have := h.fuse; omega, by rw [h3]; exact h.sure, by rw [h4]; exact h.seen, by rw [h5]; exact h.row,
     fun d hd => by rw [h2]; rw [h3, h4, h5] at hd; exact h.lens d hd, by rw [h4]; exact h.nums, fun f hf => by rw [h2] at hf; rw [h6]; have := h.frow f hf; omega⟩
  unfold Sf.blown
  split
  · exact e _ rfl rfl rfl rfl rfl rfl (Nat.le_refl _)
  · split
    · exact e _ rfl rfl rfl rfl rfl rfl (Nat.zero_le _)
    · exact e _ rfl rfl rfl rfl rfl rfl (Nat.sub_le _ _)
theorem pblown_same (t : Sf.St) : (Sf.blown t).2.files = t.files ∧ (Sf.blown t).2.sure = t.sure ∧ (Sf.blown t).2.seen = t.seen ∧ (Sf.blown t).2.row = t.row ∧ (Sf.blown t).2.room = t.room ∧ (Sf.blown t).2.acts = t.acts + 1 := by
  unfold Sf.blown
  split
  · exact ⟨rfl, rfl, rfl, rfl, rfl, rfl⟩
  · split <;> exact ⟨rfl, rfl, rfl, rfl, rfl, rfl⟩
theorem PBody.congr {u : Sf.St} {q : Nat} (h : PBody w who s t bf bs bn vr ff rn) (h1 : u.files = t.files) (h2 : u.sure = t.sure) (h3 : u.seen = t.seen) (h4 : u.row = t.row) (h5 : t.acts + s ≤ u.acts + q) : PBody w who q u bf bs bn vr ff rn :=
  ⟨h.files.mono_ (by omega), by rw [h3]; exact h.names.mono_ (by omega), by rw [h2]; exact h.sure.mono_ (by omega), h.row, by rw [h4, h2]; exact h.hrow, by rw [h3, h2]; exact h.hseen, fun hr => h.nil (by rw [← h4]; exact hr),
   fun i x hx => by rw [h1]; exact h.file i x hx, fun n hn => h.there n (by
     obtain ⟨d, hd, he⟩ := hn
     rw [h2, h3, h4] at hd
     exact ⟨d, hd, he⟩), h.filesW, h.namesW, h.sureW, h.rowW⟩
/-- An act is counted. -/
theorem pact_disk (h : PHas w fp (s + 1) t b who bf bs bn vr ff rn) (ha : t.acts < 1099511627776) :
    Calls Tryz.prog 72 #[.pointer (some ⟨b, 0, none⟩)] w (fun e w' => e = .returned (.int .i64 ((Sf.blown t).1 : Nat)) ∧ PHas w' fp s (Sf.blown t).2 b who bf bs bn vr ff rn ∧ Turned (fun k => k = b) w w') := by
  refine (pact_head h.head (by omega) h.good.fuse).mono ?_
  rintro e w' ⟨rfl, h1, hT⟩
  obtain ⟨e1, e2, e3, e4, e5, e6⟩ := pblown_same t
  refine ⟨rfl, ⟨h1, (h.body.turned hT fun k hk => .inr (by rw [hk]; exact h.mine)).congr e1 e2 e3 e4 (by omega), h.good.blown ha, h.mine, h.m, h.r, fun k hk => Nat.lt_of_lt_of_le (h.lt k hk) hT.size⟩, hT⟩
theorem turned_mine (h : PHas w fp s t b who bf bs bn vr ff rn) {w' : World} (hT : Turned (fun k => k = b) w w') : Turned fp.M w w' := hT.mono fun k _ hk => (h.m k).2 (by rw [hk, h.mine]; rfl)
set_option maxHeartbeats 1000000 in
set_option maxRecDepth 100000 in
theorem parm_any (h : PDisk w fp t b) (n : Int) (hn : I64 n) : Calls Tryz.prog 29 #[.pointer (some ⟨b, 0, none⟩), .int .i64 n] w (IsDeed PDisk fp b (Sf.arm t n) w) := by
  obtain ⟨who, bf, bs, bn, vr, ff, rn, h⟩ := h
  have CR := Lib.hid (prefusal_disk h)
  have HH := Lib.hid h
  have d7 : w.cell? ⟨b, 7, none⟩ = some (.int .i64 (t.fuse : Nat)) := h.cell rfl
  have z7 : w.frozen? ⟨b, 7, none⟩ = false := frozen_of_row w b 7 _ _ h.head
  have T1 : Turned (fun k => k = b) w (w.setCell ⟨b, 7, none⟩ (.int .i64 n)) := Turned.setCell (F := fun k => k = b) (Turned.refl (fun k => k = b) w) (p := ⟨b, 7, none⟩) (fun _ => rfl) _
  have HT := Lib.hid T1
  clear h T1
  cases hd : t.dead with
  | true =>
    have HE : Hid (Sf.arm t n = (13, t)) := if_pos hd
    rw [hd] at CR
    clear hd
    go_enter Tryz.func29, Tryz.ntmps29
    go_wp2_with fail
    refine CR.out.mono ?_
    rintro e1 w1 ⟨rfl, rfl⟩
    clear CR
    go_wp2
    go_ret
    rw [HE.out]
    exact ⟨rfl, fp, ⟨_, _, _, _, _, _, _, HH.out⟩, Fp.Next.refl _ _, Turned.refl _ _⟩
  | false =>
    rw [hd] at CR
    by_cases h0 : n < 0
    · have HE : Hid (Sf.arm t n = (2, t)) := by unfold Hid Sf.arm; rw [hd, if_neg (by simp), if_pos h0]
      clear hd
      go_enter Tryz.func29, Tryz.ntmps29
      go_wp2_with fail
      refine CR.out.mono ?_
      rintro e1 w1 ⟨rfl, rfl⟩
      clear CR
      go_wp2
      go_ret
      rw [HE.out]
      exact ⟨rfl, fp, ⟨_, _, _, _, _, _, _, HH.out⟩, Fp.Next.refl _ _, Turned.refl _ _⟩
    · have HE : Hid (Sf.arm t n = (0, { t with fuse := n.toNat })) := by unfold Hid Sf.arm; rw [hd, if_neg (by simp), if_neg h0]
      have hn2 := hn
      unfold I64 at hn2
      have nn : ((n.toNat : Nat) : Int) = n := by omega
      have h1 := head_setP HH.out.head 7 (.int .i64 n) (C' := headP { t with fuse := n.toNat } bf bs bn vr) (by unfold headP; rw [← nn]; rfl)
      have H1 := Lib.hid h1
      have HG : Hid (GoodS 0 { t with fuse := n.toNat }) := ⟨HH.out.good.room, HH.out.good.files, HH.out.good.rows, HH.out.good.acts, by show n.toNat < _; omega, HH.out.good.sure, HH.out.good.seen, HH.out.good.row, HH.out.good.lens, HH.out.good.nums, HH.out.good.frow⟩
      clear hd h1 nn
      go_enter Tryz.func29, Tryz.ntmps29
      go_wp2_with fail
      refine CR.out.mono ?_
      rintro e1 w1 ⟨rfl, rfl⟩
      clear CR
      go_wp2
      go_ret
      rw [HE.out]
      refine ⟨rfl, fp, ⟨who, bf, bs, bn, vr, ff, rn, H1.out, (HH.out.body.turned HT.out fun k hk => .inr (by rw [hk]; exact HH.out.mine)).congr rfl rfl rfl rfl (Nat.le_refl _), HG.out, HH.out.mine, HH.out.m, HH.out.r, fun k hk => Nat.lt_of_lt_of_le (HH.out.lt k hk) HT.out.size⟩, Fp.Next.refl _ _, turned_mine HH.out HT.out⟩
set_option maxHeartbeats 1000000 in
set_option maxRecDepth 100000 in
theorem pacts_any (h : PDisk w fp t b) : Calls Tryz.prog 46 #[.pointer (some ⟨b, 0, none⟩)] w (IsNum t.acts w) := by
  obtain ⟨who, bf, bs, bn, vr, ff, rn, h⟩ := h
  have CM := Lib.hid (pmade_cell (w := w) (b := b) (some bf) (h.cell rfl))
  have d6 : w.cell? ⟨b, 6, none⟩ = some (.int .i64 (t.acts : Nat)) := h.cell rfl
  clear h
  go_enter Tryz.func46, Tryz.ntmps46
  go_wp2_with fail
  refine CM.out.mono ?_
  rintro e1 w1 ⟨rfl, rfl⟩
  clear CM
  go_wp2
  go_ret
  exact ⟨rfl, Below.refl _ _⟩
set_option maxHeartbeats 1000000 in
set_option maxRecDepth 100000 in
theorem pdead_any (h : PDisk w fp t b) : Calls Tryz.prog 48 #[.pointer (some ⟨b, 0, none⟩)] w (IsBool t.dead w) := by
  obtain ⟨who, bf, bs, bn, vr, ff, rn, h⟩ := h
  have CM := Lib.hid (pmade_cell (w := w) (b := b) (some bf) (h.cell rfl))
  have d8 : w.cell? ⟨b, 8, none⟩ = some (.bool t.dead) := h.cell rfl
  clear h
  go_enter Tryz.func48, Tryz.ntmps48
  go_wp2_with fail
  refine CM.out.mono ?_
  rintro e1 w1 ⟨rfl, rfl⟩
  clear CM
  go_wp2
  go_ret
  exact ⟨rfl, Below.refl _ _⟩
set_option maxHeartbeats 1000000 in
set_option maxRecDepth 100000 in
theorem proom_any (h : PDisk w fp t b) : Calls Tryz.prog 44 #[.pointer (some ⟨b, 0, none⟩)] w (IsNum (Sf.roomOf t) w) := by
  obtain ⟨who, bf, bs, bn, vr, ff, rn, h⟩ := h
  have CR := Lib.hid (prefusal_disk h)
  have h0 : w.cell? ⟨b, 0, none⟩ = some (.int .i64 (t.room : Nat)) := h.cell rfl
  clear h
  cases hd : t.dead with
  | true =>
    have HR : Hid (Sf.roomOf t = 0) := by unfold Hid Sf.roomOf; rw [hd]; rfl
    rw [hd] at CR
    clear hd
    go_enter Tryz.func44, Tryz.ntmps44
    go_wp2_with fail
    refine CR.out.mono ?_
    rintro e1 w1 ⟨rfl, rfl⟩
    clear CR
    go_wp2
    go_ret
    exact ⟨by rw [HR.out]; rfl, Below.refl _ _⟩
  | false =>
    have HR : Hid (Sf.roomOf t = t.room) := by unfold Hid Sf.roomOf; rw [hd]; rfl
    rw [hd] at CR
    clear hd
    go_enter Tryz.func44, Tryz.ntmps44
    go_wp2_with fail
    refine CR.out.mono ?_
    rintro e1 w1 ⟨rfl, rfl⟩
    clear CR
    go_wp2
    go_ret
    exact ⟨by rw [HR.out]; rfl, Below.refl _ _⟩
end
end Go.Proofs.YtmcbjcbnckpfkaaGreat
namespace Go.Proofs.YtmcbjcbnckpfkaaGreat
open Go.RowKit
set_option linter.unusedVariables false
theorem equalIn_slice_nil (w : World) (d : Nat) (A : Option Addr) (n c : Nat) : (Op.equalIn (d + 1) 33 (.slice A n c) (.slice none 0 0)).run Tryz.prog w = .ok A.isNone w := by
  cases A <;> simp [Op.equalIn, run_underlying Tryz.underlying33]
theorem eql_nil_slice (w : World) (A : Option Addr) (n c : Nat) : (binOp .eql 33 (.slice A n c) (.slice none 0 0)).run Tryz.prog w = .ok (.bool A.isNone) w := by
  simp only [binOp]
  simp [show Op.equal 33 (.slice A n c) (.slice none 0 0) = Op.equalIn (9999 + 1) 33 (.slice A n c) (.slice none 0 0) from rfl, equalIn_slice_nil w 9999 A n c]
set_option maxHeartbeats 1000000 in
set_option maxRecDepth 100000 in
theorem pbclone_any (v : Value) (l : List Nat) (B : Nat) (w : World) (h : Lv yK w B v l) (hB : B ≤ w.heap.size) (hsz : l.length ≤ 140737488355328) :
    Calls Tryz.prog 74 #[v] w (IsL1 yK l w) := by
  have H0 := Lib.hid h
  obtain ⟨A, c, rfl, h1, h2, h3, _⟩ := h
  cases A with
  | none =>
    have hc := h3 rfl
    have hl : l = [] := List.eq_nil_of_length_eq_zero (by omega)
    subst hl hc
    have hq := fun w => eql_nil_slice w none 0 0
    clear h1 h2 h3 hsz hB
    go_enter Tryz.func74, Tryz.ntmps74
    go_wp2
    go_ret
    exact ⟨none, 0, rfl, OwnL.nil_ _ _ _, Below.refl _ _⟩
  | some a =>
    have HN : Hid (OwnL yK (w.alloc (.cells #[] 5)) w.heap.size (.slice (some ⟨w.heap.size, 0, none⟩) 0 0) []) := ⟨by simp, .inr ⟨w.heap.size, [], rfl, Nat.le_refl _, by simp, by simp [maxLen], heap_alloc_new w _⟩⟩
    have H1 := Lib.hid (H0.out.below_ ((Below.refl w.heap.size w).alloc (Nat.le_refl _) (.cells #[] 5)) hB)
    have hb : Below w.heap.size w (w.alloc (.cells #[] 5)) := (Below.refl _ _).alloc (Nat.le_refl _) _
    have HB := Lib.hid hb
    clear hb
    have hq := fun w => eql_nil_slice w (some a) l.length c
    go_enter Tryz.func74, Tryz.ntmps74
    go_wp2_with (at_builtin; go_must (refine wpList_append_l _ yK rfl _ _ rfl w.heap.size _ rfl [] HN.out _ rfl B l H1.out (by show _ * 1 ≤ _; simp; omega) (by simp only [maxLen, List.length_nil]; omega) (by simp) ?_; intro A3 c3 w1 hA hG))
    go_ret
    simp only [List.nil_append] at hA
    exact ⟨A3, c3, by simp, hA, HB.out.grown hG HB.out.size (fun k hk => by have e : w.heap.size = k := Option.some.inj hk; omega)⟩
theorem sizeY : (Tryz.prog.info? 5).map (·.size) = some 1 := by kernel_rfl
theorem flatY (l : List Nat) : yK.flat l = l.map fun x => Value.int .u8 (x : Nat) := by
  induction l with
  | nil => rfl
  | cons x l ih => rw [flat_cons, ih]; rfl
set_option maxRecDepth 100000 in
/-- copy into an own slice, from a place on. -/
theorem copy_at {w : World} {base B n c : Nat} {A : Option Addr} {l : List Nat} (h : OwnL yK w base (.slice A n c) l) (k : Nat) (hk : k ≤ l.length) {x : Value} {m : List Nat} (hx : Lv yK w B x m) :
    ∃ A' w2, (∀ w, (Instr.slice 33 (.slice A n c) (some (.int .i64 (k : Nat))) none none).run Tryz.prog w = .ok (.slice A' (n - k) (c - k)) w) ∧
      (∀ w, (Instr.sliceAt 33 (.slice A n c) (some (.int .i64 (k : Nat))) none none).run Tryz.prog w = .ok (.slice A' (n - k) (c - k)) w) ∧
      (Builtin.copy_ #[33, 33] 3 #[.slice A' (n - k) (c - k), x]).run Tryz.prog w = .ok (.int .i64 ((Nat.min m.length (l.length - k) : Nat))) w2 ∧
      OwnL yK w2 base (.slice A n c) (l.take k ++ m.take (Nat.min m.length (l.length - k)) ++ l.drop (k + Nat.min m.length (l.length - k))) ∧ w.grownBy w2 (Value.slice A n c).ownBlock := by
  have hform := h.form_
  obtain ⟨en, hc1, hc2⟩ := hform.len_
  subst en
  have hu : Tryz.prog.underlying yK.s = some (.slice (Tryz.prog.elem yK.s)) := yK.under
  have h1' : ∀ w, (Instr.slice yK.s (.slice A l.length c) (some (.int .i64 (k : Nat))) none none).run Tryz.prog w = .ok (.slice (if c = k then A else A.map (·.add (k * yK.size))) (l.length - k) (c - k)) w := by
    intro w
    rw [run_slice_l (P := Tryz.prog) w yK.s A l.length c hu .i64 (k : Nat) (by omega) (by omega), elem_size yK rfl]
    simp only [Result.andThen, sliced, Int.toNat_natCast]
  have h2' : ∀ w, (Instr.sliceAt yK.s (.slice A l.length c) (some (.int .i64 (k : Nat))) none none).run Tryz.prog w = .ok (.slice (if c = k then A else A.map (·.add (k * yK.size))) (l.length - k) (c - k)) w := by
    intro w
    rw [run_sliceAt_slice (P := Tryz.prog) w _ _ _ _ _ hu]
    exact h1' w
  have h1 : ∀ w, (Instr.slice 33 (.slice A l.length c) (some (.int .i64 (k : Nat))) none none).run Tryz.prog w = .ok (.slice (if c = k then A else A.map (·.add (k * yK.size))) (l.length - k) (c - k)) w := h1'
  have h2 : ∀ w, (Instr.sliceAt 33 (.slice A l.length c) (some (.int .i64 (k : Nat))) none none).run Tryz.prog w = .ok (.slice (if c = k then A else A.map (·.add (k * yK.size))) (l.length - k) (c - k)) w := h2'
  obtain ⟨A1, c1, rfl, hm1, hm2, hm3, hm4, hm5⟩ := hx
  obtain ⟨q, hq⟩ : ∃ q, Nat.min m.length (l.length - k) = q := ⟨_, rfl⟩
  have hq1 : q ≤ m.length := by rw [← hq]; exact Nat.min_le_left _ _
  have hq2 : q ≤ l.length - k := by rw [← hq]; exact Nat.min_le_right _ _
  rw [hq]
  by_cases h0 : 0 < q
  · rcases h.2 with ⟨e, e2⟩ | ⟨g, s, e, hb, hs, hml, hh⟩
    · subst e2
      simp at hq2
      omega
    · injection e with e1 e2 e3
      subst e1 e3
      obtain ⟨b, off, rfl, hbB, hcell⟩ := hm5 (by omega)
      have hne : ¬ l.length + s.length = k := by omega
      have ea : (⟨g, 0, none⟩ : Addr).add k = ⟨g, k, none⟩ := by rw [add_addr, Nat.zero_add]
      have hrun := run_copy_row (P := Tryz.prog) w 33 33 3 5 g k (l.length - k) (l.length + s.length - k) ⟨b, off, none⟩ m.length c1 _ 5 (yK.flat (m.take q)) Tryz.underlying33 sizeY hh
        (by rw [flat_len, List.length_take, hq, Nat.min_eq_left hq1]; exact Nat.mul_one _) (fun j v hj => by
          rw [add_addr]
          refine hcell j v ?_
          have e2 : yK.flat m = yK.flat (m.take q) ++ yK.flat (m.drop q) := by rw [← flat_app, List.take_append_drop]
          rw [e2, List.getElem?_append_left (List.getElem?_eq_some_iff.1 hj).1]
          exact hj) (by
          rw [flat_len, List.length_take, Nat.min_eq_left hq1, List.size_toArray, flat_len, List.length_append]
          show k + q * 1 ≤ (l.length + s.length) * 1
          omega) (fun u hu => flat_one_cell _ u hu)
      have hlen : (l.take k ++ m.take q ++ l.drop (k + q)).length = l.length := by simp; omega
      have hcs : ((yK.flat (l ++ s)).toArray.toList.take k ++ yK.flat (m.take q) ++ (yK.flat (l ++ s)).toArray.toList.drop (k + (yK.flat (m.take q)).length)).toArray = (yK.flat ((l.take k ++ m.take q ++ l.drop (k + q)) ++ s)).toArray := by
        have ef : (yK.flat (m.take q)).length = q := by rw [flat_len, List.length_take, Nat.min_eq_left hq1]; exact Nat.mul_one _
        rw [ef, List.toList_toArray, flatY, flatY, flatY, List.map_append, List.map_append, List.map_append, List.map_append]
        congr 1
        rw [List.take_append_of_le_length (by rw [List.length_map]; exact hk), List.drop_append_of_le_length (by rw [List.length_map]; omega), List.map_take, List.map_drop]
        simp [List.append_assoc]
      rw [hcs] at hrun
      refine ⟨_, w.setRow g (yK.flat ((l.take k ++ m.take q ++ l.drop (k + q)) ++ s)).toArray, h1, h2, ?_, ⟨fun y hy => ?_, .inr ⟨g, s, by rw [hlen], hb, hs, by rw [hlen]; exact hml, setRow_heap w g _ _ _ _ hh⟩⟩, ⟨rfl, rfl, rfl, by simp, fun i _ hi => setRow_other w g i _ (fun e => hi (by rw [e]; rfl))⟩⟩
      · rw [if_neg hne, show yK.size = 1 from rfl, Nat.mul_one, Option.map_some, ea, hrun]
        congr 1
        rw [flat_len, List.length_take, Nat.min_eq_left hq1]
        show goInt ((q * 1 : Nat) : Int) = _
        rw [Nat.mul_one]; rfl
      · rcases List.mem_append.1 hy with hy | hy
        · rcases List.mem_append.1 hy with hy | hy
          · exact h.1 y (List.mem_of_mem_take hy)
          · exact hm4 y (List.mem_of_mem_take hy)
        · exact h.1 y (List.mem_of_mem_drop hy)
  · have hz : q = 0 := by omega
    rw [hz]
    have hrun := run_copy_none (P := Tryz.prog) w 33 33 3 5 (if c = k then A else A.map (·.add (k * yK.size))) A1 (l.length - k) (c - k) m.length c1 Tryz.underlying33 sizeY (by rw [hq, hz])
    refine ⟨_, w, h1, h2, hrun, ?_, ⟨rfl, rfl, rfl, Nat.le_refl _, fun _ _ _ => rfl⟩⟩
    simpa using h
end Go.Proofs.YtmcbjcbnckpfkaaGreat
