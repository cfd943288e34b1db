/-
  SfDead: Chapter 14: a dead disk does nothing; a deed counts at most one act; it has no name that is too long to be read.
  PfA: simfs: made, refusal, find, act.
  PfB: simfs: act, Arm, Acts, Dead, Room.
-/
import Derived.Test.YtmcbjcbnckpfkaaGreatPk04
import Derived.Test.YtmcbjcbnckpfkaaGreatPk12
namespace Go.Proofs.YtmcbjcbnckpfkaaGreat.Sf
open Go.RowKit
set_option linter.unusedVariables false
theorem get_dead {t : St} (h : t.dead = true) (s : ByteArray) : get t s = (0, 13) := by unfold get; rw [if_pos h]
theorem dead_deed {t : St} (h : t.dead = true) (o : Op) : doOp t o = (if o.call ≤ 8 then 13 else 0, t) := by
  unfold doOp
  by_cases h0 : o.call = 0
  · rw [if_pos h0, if_pos (by omega)]; unfold create; rw [if_pos h]
  rw [if_neg h0]
  by_cases h1 : o.call = 1
  · rw [if_pos h1, if_pos (by omega)]; unfold append; rw [get_dead h, if_pos (by decide)]
  rw [if_neg h1]
  by_cases h2 : o.call = 2
  · rw [if_pos h2, if_pos (by omega)]; unfold write; rw [get_dead h, if_pos (by decide)]
  rw [if_neg h2]
  by_cases h3 : o.call = 3
  · rw [if_pos h3, if_pos (by omega)]; unfold cut; rw [get_dead h, if_pos (by decide)]
  rw [if_neg h3]
  by_cases h4 : o.call = 4
  · rw [if_pos h4, if_pos (by omega)]; unfold rename; rw [get_dead h, if_pos (by decide)]
  rw [if_neg h4]
  by_cases h5 : o.call = 5
  · rw [if_pos h5, if_pos (by omega)]; unfold remove; rw [get_dead h, if_pos (by decide)]
  rw [if_neg h5]
  by_cases h6 : o.call = 6
  · rw [if_pos h6, if_pos (by omega)]; unfold sync; rw [get_dead h, if_pos (by decide)]
  rw [if_neg h6]
  by_cases h7 : o.call = 7
  · rw [if_pos h7, if_pos (by omega)]; unfold syncDir; rw [if_pos h]
  rw [if_neg h7]
  by_cases h8 : o.call = 8
  · rw [if_pos h8, if_pos (by omega)]; unfold arm; rw [if_pos h]
  rw [if_neg h8, if_neg (by omega)]
theorem used_dead {t : St} (h : t.dead = true) : used t = 0 := by unfold used; rw [if_pos h]
theorem names_dead {t : St} (h : t.dead = true) : names t = [] := by unfold names; rw [if_pos h]
theorem room_dead {t : St} (h : t.dead = true) : roomOf t = 0 := by unfold roomOf; rw [if_pos h]
theorem blown_acts (t : St) : (blown t).2.acts = t.acts + 1 := by
  unfold blown
  split
  · rfl
  · split <;> rfl
theorem arm_acts (t : St) (n : Int) : (arm t n).2.acts ≤ t.acts := by
  unfold arm
  split
  · exact Nat.le_refl _
  · split <;> exact Nat.le_refl _
theorem acts_le (t : St) (o : Op) : (doOp t o).2.acts ≤ t.acts + 1 := by
  have hb := blown_acts
  unfold doOp
  split
  · unfold create; split; · simp
    split; · simp
    split; · simp
    split; · simp
    unfold turn; rw [hb]; simp
  split
  · unfold append; split; · simp
    split; · simp
    unfold add; rw [hb]; simp
  split
  · unfold write; split; · simp
    split; · simp
    split; · simp
    unfold add; rw [hb]; simp
  split
  · unfold cut; split; · simp
    split; · simp
    unfold add; rw [hb]; simp
  split
  · unfold rename; split; · simp
    split; · simp
    unfold turn; rw [hb]; simp
  split
  · unfold remove; split; · simp
    unfold turn; rw [hb]; simp
  split
  · unfold sync; split; · simp
    split; · rw [hb]; simp
    simp only [hb]; simp
  split
  · unfold syncDir; split; · simp
    split; · rw [hb]; simp
    simp only [hb]; simp
  split
  · unfold arm; split; · simp
    split <;> simp
  simp
end Go.Proofs.YtmcbjcbnckpfkaaGreat.Sf
namespace Go.Proofs.YtmcbjcbnckpfkaaGreat
open Go.RowKit
set_option linter.unusedVariables false
theorem equalIn_map_nil (w : World) (d : Nat) (t k e : TypeId) (p : Option Nat) (h : Tryz.prog.underlying t = some (.map k e)) : (Op.equalIn (d + 1) t (.map p) (.map none)).run Tryz.prog w = .ok p.isNone w := by
  cases p <;> simp [Op.equalIn, run_underlying h]
theorem neq_map_nil (w : World) (t k e : TypeId) (p : Option Nat) (h : Tryz.prog.underlying t = some (.map k e)) : (binOp .neq t (.map p) (.map none)).run Tryz.prog w = .ok (.bool (!p.isNone)) w := by
  simp only [binOp]
  simp [show Op.equal t (.map p) (.map none) = Op.equalIn (9999 + 1) t (.map p) (.map none) from rfl, equalIn_map_nil w 9999 t k e p h]
theorem eql_map_nil (w : World) (t k e : TypeId) (p : Option Nat) (h : Tryz.prog.underlying t = some (.map k e)) : (binOp .eql t (.map p) (.map none)).run Tryz.prog w = .ok (.bool p.isNone) w := by
  simp only [binOp]
  simp [show Op.equal t (.map p) (.map none) = Op.equalIn (9999 + 1) t (.map p) (.map none) from rfl, equalIn_map_nil w 9999 t k e p h]
theorem head_cellP {w : World} {b : Nat} {C : Array Value} (h : IsHead w b C) {j : Nat} {u : Value} (hj : C[j]? = some u) : w.cell? ⟨b, j, none⟩ = some u := by
  rw [cell_of_row _ b j _ _ _ h]; exact hj
theorem head_setP {w : World} {b : Nat} {C C' : Array Value} (h : IsHead w b C) (j : Nat) (u : Value) (hC : C.set! j u = C') : IsHead (w.setCell ⟨b, j, none⟩ u) b C' := by
  unfold IsHead
  rw [heap_setCell_same w b j _ _ u h, ← hC]
  rfl
section
variable {w : World} {b : Nat}
set_option maxHeartbeats 1000000 in
set_option maxRecDepth 100000 in
theorem pmade_cell (m : Option Nat) (h : w.cell? ⟨b, 1, none⟩ = some (.map m)) : Calls Tryz.prog 55 #[.pointer (some ⟨b, 0, none⟩)] w (fun e w' => e = .returned (.bool m.isSome) ∧ w = w') := by
  have hq := fun w => neq_map_nil w 77 _ _ m Tryz.underlying77
  go_enter Tryz.func55, Tryz.ntmps55
  go_wp2
  go_ret
  exact ⟨rfl, rfl⟩
set_option maxHeartbeats 1000000 in
set_option maxRecDepth 100000 in
theorem prefusal_cell (m : Nat) (h : w.cell? ⟨b, 1, none⟩ = some (.map (some m))) (d : Bool) (h8 : w.cell? ⟨b, 8, none⟩ = some (.bool d)) :
    Calls Tryz.prog 67 #[.pointer (some ⟨b, 0, none⟩)] w (fun e w' => e = .returned (.int .i64 (if d then 13 else 0)) ∧ w = w') := by
  have CM := Lib.hid (pmade_cell (some m) h)
  cases d with
  | true =>
    go_enter Tryz.func67, Tryz.ntmps67
    go_wp2_with fail
    refine CM.out.mono ?_
    rintro e1 w1 ⟨rfl, rfl⟩
    clear CM
    go_wp2
    go_ret
    exact ⟨rfl, rfl⟩
  | false =>
    go_enter Tryz.func67, Tryz.ntmps67
    go_wp2_with fail
    refine CM.out.mono ?_
    rintro e1 w1 ⟨rfl, rfl⟩
    clear CM
    go_wp2
    go_ret
    exact ⟨rfl, rfl⟩
end
section
variable {w : World} {fp : Fp} {s : Nat} {t : Sf.St} {b : Nat} {who : Who} {bf bs bn : Nat} {vr : Sl} {ff : Int → Option RawX} {rn : List RawN}
theorem prefusal_disk (h : PHas w fp s t b who bf bs bn vr ff rn) : Calls Tryz.prog 67 #[.pointer (some ⟨b, 0, none⟩)] w (fun e w' => e = .returned (.int .i64 (if t.dead then 13 else 0)) ∧ w = w') :=
  prefusal_cell bf (h.cell rfl) t.dead (h.cell rfl)
set_option maxHeartbeats 1000000 in
set_option maxRecDepth 100000 in
theorem pfind_disk (h : PHas w fp s t b who bf bs bn vr ff rn) (u : ByteArray) (hu : u.size ≤ maxLen) :
    Calls Tryz.prog 70 #[.pointer (some ⟨b, 0, none⟩), .string u] w (fun e w' => e = .returned (.tuple #[.int .i64 ((Sf.get t u).1 : Nat), .int .i64 ((Sf.get t u).2 : Nat)]) ∧ w = w') := by
  have CR := Lib.hid (prefusal_disk h)
  have h5 : w.cell? ⟨b, 5, none⟩ = some (.map (some bn)) := h.cell rfl
  have hl := h.body.names.look_ok (x := u) hu
  change (Instr.lookup 75 (.map (some bn)) (.string u) true).run Tryz.prog w = .ok (.tuple #[.int .i64 ((Sf.dirF t.seen u).getD 0), .bool (Sf.dirF t.seen u).isSome]) w at hl
  clear h
  cases hd : t.dead with
  | true =>
    have HE := Lib.hid (Sf.get_dead hd u)
    rw [hd] at CR
    clear hd hl
    go_enter Tryz.func70, Tryz.ntmps70
    go_wp2_with fail
    refine CR.out.mono ?_
    rintro e1 w1 ⟨rfl, rfl⟩
    clear CR
    go_wp2
    go_ret2
    rw [HE.out]
    exact ⟨rfl, rfl⟩
  | false =>
    rw [hd] at CR
    cases hf : Sf.find t.seen u with
    | none =>
      have HE : Hid (Sf.get t u = (0, 7)) := by unfold Hid Sf.get; rw [hd, hf]; rfl
      have e1 : Sf.dirF t.seen u = none := by unfold Sf.dirF; rw [hf]; rfl
      rw [e1] at hl
      clear hd hf e1
      go_enter Tryz.func70, Tryz.ntmps70
      go_wp2_with fail
      refine CR.out.mono ?_
      rintro e1 w1 ⟨rfl, rfl⟩
      clear CR
      go_wp2
      go_ret2
      rw [HE.out]
      exact ⟨rfl, rfl⟩
    | some n =>
      have HE : Hid (Sf.get t u = (n, 0)) := by unfold Hid Sf.get; rw [hd, hf]; rfl
      have e1 : Sf.dirF t.seen u = some (n : Int) := by unfold Sf.dirF; rw [hf]; rfl
      rw [e1] at hl
      clear hd hf e1
      go_enter Tryz.func70, Tryz.ntmps70
      go_wp2_with fail
      refine CR.out.mono ?_
      rintro e1 w1 ⟨rfl, rfl⟩
      clear CR
      go_wp2
      go_ret2
      rw [HE.out]
      exact ⟨rfl, rfl⟩
end
end Go.Proofs.YtmcbjcbnckpfkaaGreat
namespace Go.Proofs.YtmcbjcbnckpfkaaGreat
open Go.RowKit
set_option linter.unusedVariables false
section
variable {w : World} {fp : Fp} {s : Nat} {t : Sf.St} {b : Nat} {who : Who} {bf bs bn : Nat} {vr : Sl} {ff : Int → Option RawX} {rn : List RawN}
set_option maxHeartbeats 2000000 in
set_option maxRecDepth 100000 in
theorem pact_head (h : IsHead w b (headP t bf bs bn vr)) (ha : t.acts ≤ 4398046511104) (hf : t.fuse < 9223372036854775808) :
    Calls Tryz.prog 72 #[.pointer (some ⟨b, 0, none⟩)] w (fun e w' => e = .returned (.int .i64 ((Sf.blown t).1 : Nat)) ∧ IsHead w' b (headP (Sf.blown t).2 bf bs bn vr) ∧ Turned (fun k => k = b) w w') := by
  have d6 : w.cell? ⟨b, 6, none⟩ = some (.int .i64 (t.acts : Nat)) := head_cellP h rfl
  have z6 : w.frozen? ⟨b, 6, none⟩ = false := frozen_of_row w b 6 _ _ h
  have wa : IntKind.i64.wrap ((t.acts : Int) + 1) = (t.acts : Int) + 1 := by rw [IntKind.wrap_i64]; omega
  have na : ((t.acts + 1 : Nat) : Int) = (t.acts : Int) + 1 := by omega
  have h1 := head_setP h 6 (.int .i64 ((t.acts : Int) + 1)) (C' := headP { t with acts := t.acts + 1 } bf bs bn vr) (by unfold headP; rw [← na]; rfl)
  have T1 : Turned (fun k => k = b) w (w.setCell ⟨b, 6, none⟩ (.int .i64 ((t.acts : Int) + 1))) := Turned.setCell (F := fun k => k = b) (Turned.refl (fun k => k = b) w) (p := ⟨b, 6, none⟩) (fun _ => rfl) _
  obtain ⟨w1, hw1⟩ : ∃ w1, w.setCell ⟨b, 6, none⟩ (.int .i64 ((t.acts : Int) + 1)) = w1 := ⟨_, rfl⟩
  rw [hw1] at h1 T1
  have d7 : w1.cell? ⟨b, 7, none⟩ = some (.int .i64 (t.fuse : Nat)) := head_cellP h1 rfl
  have z7 : w1.frozen? ⟨b, 7, none⟩ = false := frozen_of_row w1 b 7 _ _ h1
  have HH1 := Lib.hid h1
  have HT1 := Lib.hid T1
  clear h h1 T1 na
  by_cases h0 : t.fuse = 0
  · have hz : ((t.fuse : Int) == 0) = true := by rw [beq_iff_eq]; omega
    have HE : Hid (Sf.blown t = (0, { t with acts := t.acts + 1 })) := if_pos h0
    clear h0
    go_enter Tryz.func72, Tryz.ntmps72
    go_wp2
    go_ret
    rw [HE.out]
    exact ⟨rfl, HH1.out, HT1.out⟩
  · have hz : ((t.fuse : Int) == 0) = false := by rw [beq_eq_false_iff_ne]; omega
    have wf : IntKind.i64.wrap ((t.fuse : Int) - 1) = (t.fuse : Int) - 1 := by rw [IntKind.wrap_i64]; omega
    have nf : ((t.fuse - 1 : Nat) : Int) = (t.fuse : Int) - 1 := by omega
    have h2 := head_setP HH1.out 7 (.int .i64 ((t.fuse : Int) - 1)) (C' := headP { t with acts := t.acts + 1, fuse := t.fuse - 1 } bf bs bn vr) (by unfold headP; rw [← nf]; rfl)
    have T2 := Turned.setCell (F := fun k => k = b) HT1.out (p := ⟨b, 7, none⟩) (fun _ => rfl) (.int .i64 ((t.fuse : Int) - 1))
    obtain ⟨w2, hw2⟩ : ∃ w2, w1.setCell ⟨b, 7, none⟩ (.int .i64 ((t.fuse : Int) - 1)) = w2 := ⟨_, rfl⟩
    rw [hw2] at h2 T2
    have d72 : w2.cell? ⟨b, 7, none⟩ = some (.int .i64 ((t.fuse : Int) - 1)) := by rw [← nf]; exact head_cellP h2 rfl
    have z8 : w2.frozen? ⟨b, 8, none⟩ = false := frozen_of_row w2 b 8 _ _ h2
    have d8 : w2.cell? ⟨b, 8, none⟩ = some (.bool t.dead) := head_cellP h2 rfl
    have HH2 := Lib.hid h2
    have HT2 := Lib.hid T2
    clear h2 T2 nf
    by_cases h1 : t.fuse = 1
    · have hq : ¬ (0 : Int) < (t.fuse : Int) - 1 := by omega
      have HE : Hid (Sf.blown t = (13, { t with acts := t.acts + 1, fuse := 0, dead := true })) := by unfold Hid Sf.blown; rw [if_neg h0, if_pos h1]
      have h3 := head_setP HH2.out 8 (.bool true) (C' := headP { t with acts := t.acts + 1, fuse := 0, dead := true } bf bs bn vr) (by unfold headP; simp only [h1]; rfl)
      have T3 := Turned.setCell (F := fun k => k = b) HT2.out (p := ⟨b, 8, none⟩) (fun _ => rfl) (.bool true)
      have HH3 := Lib.hid h3
      have HT3 := Lib.hid T3
      clear h0 h1 h3 T3
      go_enter Tryz.func72, Tryz.ntmps72
      go_wp2
      go_ret
      rw [HE.out]
      exact ⟨rfl, HH3.out, HT3.out⟩
    · have hq : (0 : Int) < (t.fuse : Int) - 1 := by omega
      have HE : Hid (Sf.blown t = (0, { t with acts := t.acts + 1, fuse := t.fuse - 1 })) := by unfold Hid Sf.blown; rw [if_neg h0, if_neg h1]
      clear h0 h1
      go_enter Tryz.func72, Tryz.ntmps72
      go_wp2
      go_ret
      rw [HE.out]
      exact ⟨rfl, HH2.out, HT2.out⟩
theorem GoodS.blown (h : GoodS (s + 1) t) (ha : t.acts < 1099511627776) : GoodS s (Sf.blown t).2 := by
  have e : ∀ u : Sf.St, u.room = t.room → u.files = t.files → u.sure = t.sure → u.seen = t.seen → u.row = t.row → u.acts = t.acts + 1 → u.fuse ≤ t.fuse → GoodS s u := fun u h1 h2 h3 h4 h5 h6 h7 =>
    ⟨by rw [h1]; exact h.room, by rw [h2, h6]; have := h.files; omega, by rw [h5, h6]; have := h.rows; omega, by rw [h6]; omega, by have := h.fuse; omega, by rw [h3]; exact h.sure, by rw [h4]; exact h.seen, by rw [h5]; exact h.row,
     fun d hd => by rw [h2]; rw [h3, h4, h5] at hd; exact h.lens d hd, by rw [h4]; exact h.nums, fun f hf => by rw [h2] at hf; rw [h6]; have := h.frow f hf; omega⟩
  unfold Sf.blown
  split
  · exact e _ rfl rfl rfl rfl rfl rfl (Nat.le_refl _)
  · split
    · exact e _ rfl rfl rfl rfl rfl rfl (Nat.zero_le _)
    · exact e _ rfl rfl rfl rfl rfl rfl (Nat.sub_le _ _)
theorem pblown_same (t : Sf.St) : (Sf.blown t).2.files = t.files ∧ (Sf.blown t).2.sure = t.sure ∧ (Sf.blown t).2.seen = t.seen ∧ (Sf.blown t).2.row = t.row ∧ (Sf.blown t).2.room = t.room ∧ (Sf.blown t).2.acts = t.acts + 1 := by
  unfold Sf.blown
  split
  · exact ⟨rfl, rfl, rfl, rfl, rfl, rfl⟩
  · split <;> exact ⟨rfl, rfl, rfl, rfl, rfl, rfl⟩
theorem PBody.congr {u : Sf.St} {q : Nat} (h : PBody w who s t bf bs bn vr ff rn) (h1 : u.files = t.files) (h2 : u.sure = t.sure) (h3 : u.seen = t.seen) (h4 : u.row = t.row) (h5 : t.acts + s ≤ u.acts + q) : PBody w who q u bf bs bn vr ff rn :=
  ⟨h.files.mono_ (by omega), by rw [h3]; exact h.names.mono_ (by omega), by rw [h2]; exact h.sure.mono_ (by omega), h.row, by rw [h4, h2]; exact h.hrow, by rw [h3, h2]; exact h.hseen, fun hr => h.nil (by rw [← h4]; exact hr),
   fun i x hx => by rw [h1]; exact h.file i x hx, fun n hn => h.there n (by
     obtain ⟨d, hd, he⟩ := hn
     rw [h2, h3, h4] at hd
     exact ⟨d, hd, he⟩), h.filesW, h.namesW, h.sureW, h.rowW⟩
/-- An act is counted. -/
theorem pact_disk (h : PHas w fp (s + 1) t b who bf bs bn vr ff rn) (ha : t.acts < 1099511627776) :
    Calls Tryz.prog 72 #[.pointer (some ⟨b, 0, none⟩)] w (fun e w' => e = .returned (.int .i64 ((Sf.blown t).1 : Nat)) ∧ PHas w' fp s (Sf.blown t).2 b who bf bs bn vr ff rn ∧ Turned (fun k => k = b) w w') := by
  refine (pact_head h.head (by omega) h.good.fuse).mono ?_
  rintro e w' ⟨rfl, h1, hT⟩
  obtain ⟨e1, e2, e3, e4, e5, e6⟩ := pblown_same t
  refine ⟨rfl, ⟨h1, (h.body.turned hT fun k hk => .inr (by rw [hk]; exact h.mine)).congr e1 e2 e3 e4 (by omega), h.good.blown ha, h.mine, h.m, h.r, fun k hk => Nat.lt_of_lt_of_le (h.lt k hk) hT.size⟩, hT⟩
theorem turned_mine (h : PHas w fp s t b who bf bs bn vr ff rn) {w' : World} (hT : Turned (fun k => k = b) w w') : Turned fp.M w w' := hT.mono fun k _ hk => (h.m k).2 (by rw [hk, h.mine]; rfl)
set_option maxHeartbeats 1000000 in
set_option maxRecDepth 100000 in
theorem parm_any (h : PDisk w fp t b) (n : Int) (hn : I64 n) : Calls Tryz.prog 29 #[.pointer (some ⟨b, 0, none⟩), .int .i64 n] w (IsDeed PDisk fp b (Sf.arm t n) w) := by
  obtain ⟨who, bf, bs, bn, vr, ff, rn, h⟩ := h
  have CR := Lib.hid (prefusal_disk h)
  have HH := Lib.hid h
  have d7 : w.cell? ⟨b, 7, none⟩ = some (.int .i64 (t.fuse : Nat)) := h.cell rfl
  have z7 : w.frozen? ⟨b, 7, none⟩ = false := frozen_of_row w b 7 _ _ h.head
  have T1 : Turned (fun k => k = b) w (w.setCell ⟨b, 7, none⟩ (.int .i64 n)) := Turned.setCell (F := fun k => k = b) (Turned.refl (fun k => k = b) w) (p := ⟨b, 7, none⟩) (fun _ => rfl) _
  have HT := Lib.hid T1
  clear h T1
  cases hd : t.dead with
  | true =>
    have HE : Hid (Sf.arm t n = (13, t)) := if_pos hd
    rw [hd] at CR
    clear hd
    go_enter Tryz.func29, Tryz.ntmps29
    go_wp2_with fail
    refine CR.out.mono ?_
    rintro e1 w1 ⟨rfl, rfl⟩
    clear CR
    go_wp2
    go_ret
    rw [HE.out]
    exact ⟨rfl, fp, ⟨_, _, _, _, _, _, _, HH.out⟩, Fp.Next.refl _ _, Turned.refl _ _⟩
  | false =>
    rw [hd] at CR
    by_cases h0 : n < 0
    · have HE : Hid (Sf.arm t n = (2, t)) := by unfold Hid Sf.arm; rw [hd, if_neg (by simp), if_pos h0]
      clear hd
      go_enter Tryz.func29, Tryz.ntmps29
      go_wp2_with fail
      refine CR.out.mono ?_
      rintro e1 w1 ⟨rfl, rfl⟩
      clear CR
      go_wp2
      go_ret
      rw [HE.out]
      exact ⟨rfl, fp, ⟨_, _, _, _, _, _, _, HH.out⟩, Fp.Next.refl _ _, Turned.refl _ _⟩
    · have HE : Hid (Sf.arm t n = (0, { t with fuse := n.toNat })) := by unfold Hid Sf.arm; rw [hd, if_neg (by simp), if_neg h0]
      have hn2 := hn
      unfold I64 at hn2
      have nn : ((n.toNat : Nat) : Int) = n := by omega
      have h1 := head_setP HH.out.head 7 (.int .i64 n) (C' := headP { t with fuse := n.toNat } bf bs bn vr) (by unfold headP; rw [← nn]; rfl)
      have H1 := Lib.hid h1
      have HG : Hid (GoodS 0 { t with fuse := n.toNat }) := ⟨HH.out.good.room, HH.out.good.files, HH.out.good.rows, HH.out.good.acts, by show n.toNat < _; omega, HH.out.good.sure, HH.out.good.seen, HH.out.good.row, HH.out.good.lens, HH.out.good.nums, HH.out.good.frow⟩
      clear hd h1 nn
      go_enter Tryz.func29, Tryz.ntmps29
      go_wp2_with fail
      refine CR.out.mono ?_
      rintro e1 w1 ⟨rfl, rfl⟩
      clear CR
      go_wp2
      go_ret
      rw [HE.out]
      refine ⟨rfl, fp, ⟨who, bf, bs, bn, vr, ff, rn, H1.out, (HH.out.body.turned HT.out fun k hk => .inr (by rw [hk]; exact HH.out.mine)).congr rfl rfl rfl rfl (Nat.le_refl _), HG.out, HH.out.mine, HH.out.m, HH.out.r, fun k hk => Nat.lt_of_lt_of_le (HH.out.lt k hk) HT.out.size⟩, Fp.Next.refl _ _, turned_mine HH.out HT.out⟩
set_option maxHeartbeats 1000000 in
set_option maxRecDepth 100000 in
theorem pacts_any (h : PDisk w fp t b) : Calls Tryz.prog 46 #[.pointer (some ⟨b, 0, none⟩)] w (IsNum t.acts w) := by
  obtain ⟨who, bf, bs, bn, vr, ff, rn, h⟩ := h
  have CM := Lib.hid (pmade_cell (w := w) (b := b) (some bf) (h.cell rfl))
  have d6 : w.cell? ⟨b, 6, none⟩ = some (.int .i64 (t.acts : Nat)) := h.cell rfl
  clear h
  go_enter Tryz.func46, Tryz.ntmps46
  go_wp2_with fail
  refine CM.out.mono ?_
  rintro e1 w1 ⟨rfl, rfl⟩
  clear CM
  go_wp2
  go_ret
  exact ⟨rfl, Below.refl _ _⟩
set_option maxHeartbeats 1000000 in
set_option maxRecDepth 100000 in
theorem pdead_any (h : PDisk w fp t b) : Calls Tryz.prog 48 #[.pointer (some ⟨b, 0, none⟩)] w (IsBool t.dead w) := by
  obtain ⟨who, bf, bs, bn, vr, ff, rn, h⟩ := h
  have CM := Lib.hid (pmade_cell (w := w) (b := b) (some bf) (h.cell rfl))
  have d8 : w.cell? ⟨b, 8, none⟩ = some (.bool t.dead) := h.cell rfl
  clear h
  go_enter Tryz.func48, Tryz.ntmps48
  go_wp2_with fail
  refine CM.out.mono ?_
  rintro e1 w1 ⟨rfl, rfl⟩
  clear CM
  go_wp2
  go_ret
  exact ⟨rfl, Below.refl _ _⟩
set_option maxHeartbeats 1000000 in
set_option maxRecDepth 100000 in
theorem proom_any (h : PDisk w fp t b) : Calls Tryz.prog 44 #[.pointer (some ⟨b, 0, none⟩)] w (IsNum (Sf.roomOf t) w) := by
  obtain ⟨who, bf, bs, bn, vr, ff, rn, h⟩ := h
  have CR := Lib.hid (prefusal_disk h)
  have h0 : w.cell? ⟨b, 0, none⟩ = some (.int .i64 (t.room : Nat)) := h.cell rfl
  clear h
  cases hd : t.dead with
  | true =>
    have HR : Hid (Sf.roomOf t = 0) := by unfold Hid Sf.roomOf; rw [hd]; rfl
    rw [hd] at CR
    clear hd
    go_enter Tryz.func44, Tryz.ntmps44
    go_wp2_with fail
    refine CR.out.mono ?_
    rintro e1 w1 ⟨rfl, rfl⟩
    clear CR
    go_wp2
    go_ret
    exact ⟨by rw [HR.out]; rfl, Below.refl _ _⟩
  | false =>
    have HR : Hid (Sf.roomOf t = t.room) := by unfold Hid Sf.roomOf; rw [hd]; rfl
    rw [hd] at CR
    clear hd
    go_enter Tryz.func44, Tryz.ntmps44
    go_wp2_with fail
    refine CR.out.mono ?_
    rintro e1 w1 ⟨rfl, rfl⟩
    clear CR
    go_wp2
    go_ret
    exact ⟨by rw [HR.out]; rfl, Below.refl _ _⟩
end
end Go.Proofs.YtmcbjcbnckpfkaaGreat
