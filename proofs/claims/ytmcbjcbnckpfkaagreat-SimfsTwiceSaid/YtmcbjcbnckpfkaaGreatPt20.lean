/-
  PfU: simfs: Used: a sum over the directory, in whatever order.
  PfL: simfs: findPlace, Size, Read.
  PfF: simfs: doToFile.
-/
import Derived.Test.YtmcbjcbnckpfkaaGreatPt14
import Derived.JoinedCond
import Derived.Test.YtmcbjcbnckpfkaaGreatPt17
import Derived.Test.YtmcbjcbnckpfkaaGreatPt16
import Derived.Test.YtmcbjcbnckpfkaaGreatPt08
namespace Go.Proofs.YtmcbjcbnckpfkaaGreat
open Go.RowKit
set_option linter.unusedVariables false
namespace Sf
/-- The entries that a range has passed. -/
def passed (d : Dir) (L : ByteArray → Bool) : Dir := d.filter fun e => !L e.1
theorem passed_none {d : Dir} {L : ByteArray → Bool} (h : ∀ e ∈ d, L e.1 = true) : passed d L = [] := by
  unfold passed
  rw [List.filter_eq_nil_iff]
  intro e he
  simp [h e he]
theorem passed_all {d : Dir} {L : ByteArray → Bool} (h : ∀ e ∈ d, L e.1 = false) : passed d L = d := by
  unfold passed
  rw [List.filter_eq_self]
  intro e he
  simp [h e he]
/-- One more. -/
theorem passed_step {d : Dir} (hd : (d.map (·.1)).Nodup) {L : ByteArray → Bool} {x : ByteArray} {n : Nat} (h : (x, n) ∈ d) (hL : L x = true) : (passed d (fun z => L z && !decide (z = x))).Perm ((x, n) :: passed d L) := by
  induction d with
  | nil => cases h
  | cons e d ih =>
    rw [List.map_cons, List.nodup_cons] at hd
    unfold passed at ih ⊢
    rcases List.mem_cons.1 h with h1 | h1
    · subst h1
      rw [List.filter_cons_of_pos (by simp), List.filter_cons_of_neg (by simp [hL])]
      refine List.Perm.cons _ ?_
      have : d.filter (fun e => !(L e.1 && !decide (e.1 = x))) = d.filter (fun e => !L e.1) := List.filter_congr fun e he => by
        have hne : e.1 ≠ x := fun e2 => hd.1 (List.mem_map.2 ⟨e, he, e2⟩)
        simp [hne]
      rw [this]
    · have hne : e.1 ≠ x := fun e2 => hd.1 (by rw [e2]; exact List.mem_map.2 ⟨_, h1, rfl⟩)
      by_cases he : L e.1 = true
      · rw [List.filter_cons_of_neg (by simp [he, hne]), List.filter_cons_of_neg (by simp [he])]
        exact ih hd.2 h1
      · have he' : L e.1 = false := by simpa using he
        rw [List.filter_cons_of_pos (by simp [he']), List.filter_cons_of_pos (by simp [he'])]
        exact ((ih hd.2 h1).cons e).trans (List.Perm.swap _ _ _)
theorem passed_sub (d : Dir) (L : ByteArray → Bool) : (passed d L).Sublist d := List.filter_sublist
theorem lens_cons (t : St) (e : ByteArray × Nat) (d : Dir) : lens t (e :: d) = len t e.2 + lens t d := by unfold lens; rw [List.map_cons, List.sum_cons]
theorem lens_bound {t : St} {m : Nat} : ∀ (d : Dir), (∀ e ∈ d, len t e.2 ≤ m) → lens t d ≤ d.length * m
  | [], _ => by simp [lens]
  | e :: d, h => by
    rw [lens_cons, List.length_cons, Nat.succ_mul]
    have := h e (List.mem_cons_self ..)
    have := lens_bound d (fun e he => h e (List.mem_cons_of_mem _ he))
    omega
end Sf
theorem file_now (u v x : Value) (w : World) : (Instr.field 87 (.agg #[u, v, x]) 2).run Tryz.prog w = .ok x w := by
  simp [Instr.field, go_sem, part, run_underlying Tryz.underlying87, asAgg]
theorem wpList_next_dir (w : World) {ops : Array Oper} {rest : List Oper} {o : Oper} {a : Act} {Q : Exit → Act → World → Prop} (hg : o.guard = none) (it : Operand) (hop : o.op = Op.next it false) (b r n : Nat) (f : ByteArray → Option Int) (L : ByteArray → Bool) (cnt : Nat) (hit : a.eval it = .pointer (some ⟨r, 0, none⟩)) (h : IsRg dM w b r n f L cnt)
    (hDone : (∀ x : ByteArray, x.size ≤ maxLen → L x = false) → wpList Tryz.prog ops Q rest (a.put o.dst (.tuple #[.bool false])) w)
    (hMore : ∀ (x : ByteArray) (c : Int) (w' : World) (cnt' : Nat), x.size ≤ maxLen → L x = true → f x = some c → IsRg dM w' b r n f (fun z => L z && !decide (z = x)) cnt' → cnt' < cnt → w.grownBy w' (some r) → w'.heap.size = w.heap.size →
      (Instr.entry (.pointer (some ⟨r, 0, none⟩))).run Tryz.prog w' = .ok (.tuple #[.string x, .int .i64 c]) w' → wpList Tryz.prog ops Q rest (a.put o.dst (.tuple #[.bool true, .string x, .int .i64 c])) w') :
    wpList Tryz.prog ops Q (o :: rest) a w := wpList_next_mp w dM dM_ok hg it hop b r n f L cnt hit h hDone hMore
section
variable {w : World} {fp : Fp} {s : Nat} {t : Sf.St} {b : Nat} {who : Who} {bf bs bn : Nat} {vr : Sl} {ff : Int → Option RawX} {rn : List RawN}
/-- A file that is reached. -/
theorem PHas.file_at (h : PHas w fp s t b who bf bs bn vr ff rn) {n : Nat} (hn : Reach t n) : ∃ x, ff (n : Int) = some x ∧ n < t.files.length ∧ HasX w who n x (Sf.fileAt t n) := by
  obtain ⟨x, hx⟩ := Option.isSome_iff_exists.1 (h.body.there n hn)
  obtain ⟨m, f, h1, h2, h3⟩ := h.body.file _ x hx
  have e : m = n := by omega
  subst e
  refine ⟨x, hx, (List.getElem?_eq_some_iff.1 h2).1, ?_⟩
  have : Sf.fileAt t m = f := by unfold Sf.fileAt; rw [List.getD_eq_getElem?_getD, h2]; rfl
  rw [this]
  exact h3
theorem HasX.len_le {i : Nat} {x : RawX} {f : Sf.File} (h : HasX w who i x f) : (Sf.now f).length ≤ 1048576 := by have := h.ok.len f.row.length (Nat.le_refl _); rwa [Sf.bytes_all] at this
/-- A file's value, looked up in the map. -/
theorem look_file {w' : World} {k : Nat} (hm : IsMp fM w' bf k ff) {n : Nat} {x : RawX} (hx : ff (n : Int) = some x) (hn : n < 9223372036854775807) : (Instr.lookup 77 (.map (some bf)) (.int .i64 (n : Nat)) false).run Tryz.prog w' = .ok (xV x) w' := by
  have := hm.look (x := (n : Int)) (WalkArith.wf_i64 (by omega))
  rw [hx] at this
  exact this
set_option maxHeartbeats 4000000 in
set_option maxRecDepth 100000 in
theorem pused_disk (h : PHas w fp s t b who bf bs bn vr ff rn) (hs4 : s ≤ 4) : Calls Tryz.prog 42 #[.pointer (some ⟨b, 0, none⟩)] w (IsNum (Sf.used t) w) := by
  have CR := Lib.hid (prefusal_disk h)
  cases hd : t.dead with
  | true =>
    have HE : Hid (Sf.used t = 0) := if_pos hd
    rw [hd] at CR
    clear h hd
    go_enter Tryz.func42, Tryz.ntmps42
    go_wp2_with fail
    refine CR.out.mono ?_
    rintro e1 w1 ⟨rfl, rfl⟩
    clear CR
    go_wp2
    go_ret
    exact ⟨by rw [HE.out]; rfl, Below.refl _ _⟩
  | false =>
    have HE : Hid (Sf.used t = Sf.lens t t.seen) := if_neg (by rw [hd]; simp)
    rw [hd] at CR
    have h5 : w.cell? ⟨b, 5, none⟩ = some (.map (some bn)) := h.cell rfl
    have h1 : w.cell? ⟨b, 1, none⟩ = some (.map (some bf)) := h.cell rfl
    have hb : b < w.heap.size := h.lt b (by rw [h.mine]; rfl)
    have hbf := h.body.files.lt_
    have hbn := h.body.names.lt_
    obtain ⟨k, hk⟩ : ∃ k, 64 + t.acts + s = k := ⟨_, rfl⟩
    have HN := h.body.names
    rw [hk] at HN
    have HNM := Lib.hid HN
    have HFM := Lib.hid h.body.files
    have HOK := Lib.hid h.good.seen
    have HL := Lib.hid (h.good.lens t.seen (.inr (.inl rfl)))
    have HFA : Hid (∀ e ∈ t.seen, ∃ x, ff (e.2 : Int) = some x ∧ e.2 < t.files.length ∧ x.now.n = Sf.len t e.2 ∧ Sf.len t e.2 ≤ 1048576) := fun e he => by
      obtain ⟨x, h1, h2, h3⟩ := h.file_at (n := e.2) ⟨t.seen, .inr (.inl rfl), e, he, rfl⟩
      exact ⟨x, h1, h2, (h3.now.form_.len_).1, h3.len_le⟩
    have HFL : Hid (t.files.length ≤ 9223372036854775807) := by have := h.good.files; have := h.good.acts; unfold Hid; omega
    have HB : Hid (b < w.heap.size ∧ bf < w.heap.size ∧ bn < w.heap.size) := ⟨hb, hbf, hbn⟩
    have HC : Hid (∀ w', Below w.heap.size w w' → w'.cell? ⟨b, 1, none⟩ = some (.map (some bf)) ∧ IsMp fM w' bf (64 + t.acts + s) ff) := fun w' hb' => ⟨(hb'.cell (p := ⟨b, 1, none⟩) hb).trans h1, h.body.files.of_block (hb'.block bf hbf)⟩
    clear h hd hb hbf hbn HN hk h1
    go_enter Tryz.func42, Tryz.ntmps42
    go_wp2_with fail
    refine CR.out.mono ?_
    rintro e1 w1 ⟨rfl, rfl⟩
    clear CR
    go_wp2_with (at_range; refine wpList_range_mp _ dM rfl _ rfl bn k _ rfl HNM.out ?_; intro w0 cnt0 hrg0 hcnt hg0 hs0)
    go_frame
    have HB0 : Hid (Below w.heap.size w w0) := (Below.refl w.heap.size w).grown hg0 (Nat.le_refl _) (fun j hj => by cases hj)
    have HR0 := Lib.hid hrg0
    clear hrg0 hg0 hs0 hcnt h5
    go_loopw [3] (fun u wr => ∃ (L : ByteArray → Bool) (cnt : Nat), Hid (IsRg dM wr bn w.heap.size k (Sf.dirF t.seen) L cnt) ∧ u = .int .i64 (Sf.lens t (Sf.passed t.seen L) : Nat) ∧ Hid (Below w.heap.size w wr)) (fun _ wr => wr.rangeLeft bn w.heap.size)
    case atStart =>
      refine ⟨_, cnt0, HR0.out, ?_, HB0.out⟩
      rw [Sf.passed_none (fun e he => by
        unfold Sf.dirF
        rw [HOK.out.find.2 (show (e.1, e.2) ∈ t.seen from he)]
        rfl)]
      rfl
    case round =>
      obtain ⟨L, cnt, HRG, rfl, HBW⟩ := hrel
      clear HR0 HB0
      go_wp2_with (at_next; refine wpList_next_dir _ rfl _ rfl bn w.heap.size k _ L cnt rfl HRG.out ?_ ?_)
      · intro hl0
        have HP : Hid (Sf.passed t.seen L = t.seen) := Sf.passed_all fun e he => hl0 e.1 (Sf.name_max (HOK.out.name e he))
        clear hl0
        go_wp2
        go_ret
        exact ⟨by rw [HE.out, HP.out]; rfl, HBW.out⟩
      · intro x c w1 cnt1 hx hLx hfx hrg1 hlt hg1 hs1 hen
        obtain ⟨n, hfd, rfl⟩ : ∃ n : Nat, Sf.find t.seen x = some n ∧ (n : Int) = c := by
          unfold Sf.dirF at hfx
          obtain ⟨n, h1, h2⟩ := Option.map_eq_some_iff.1 hfx
          exact ⟨n, h1, h2⟩
        have hm := HOK.out.find.1 hfd
        obtain ⟨y, hy, hyl, hyn, hym⟩ := HFA.out _ hm
        simp only at hy hyl hyn hym
        have hyi : n < 9223372036854775807 := Nat.lt_of_lt_of_le hyl HFL.out
        have hb1 : Below w.heap.size w w1 := HBW.out.grown hg1 HBW.out.size (fun j hj => by rw [← Option.some.inj hj]; exact Nat.le_refl _)
        obtain ⟨c1, hmp⟩ := HC.out w1 hb1
        have hlk := look_file hmp hy hyi
        have hst := Sf.passed_step HOK.out.nodup hm hLx
        have hle : Sf.lens t (Sf.passed t.seen L) ≤ 67108864 := by
          have h1 := Sf.lens_bound (t := t) (m := 1048576) (Sf.passed t.seen L) (fun e he => by
            obtain ⟨_, _, _, _, h⟩ := HFA.out e ((Sf.passed_sub _ _).subset he)
            exact h)
          have h2 := (Sf.passed_sub t.seen L).length_le
          have h3 := HL.out.1
          have h4 : (Sf.passed t.seen L).length * 1048576 ≤ 64 * 1048576 := Nat.mul_le_mul_right _ (by omega)
          omega
        have HSUM : Hid (Sf.lens t (Sf.passed t.seen (fun z => L z && !decide (z = x))) = Sf.lens t (Sf.passed t.seen L) + Sf.len t n) := by
          unfold Hid
          rw [Sf.lens_perm hst, Sf.lens_cons, Nat.add_comm]
        obtain ⟨m, hmm⟩ : ∃ m, Sf.lens t (Sf.passed t.seen L) = m := ⟨_, rfl⟩
        obtain ⟨q, hq⟩ : ∃ q, Sf.len t n = q := ⟨_, rfl⟩
        rw [hmm] at HSUM hle
        rw [hmm]
        rw [hq] at HSUM hyn hym
        have wsum : IntKind.i64.wrap ((m : Int) + (q : Int)) = (m : Int) + (q : Int) := by rw [IntKind.wrap_i64]; omega
        obtain ⟨⟨a1, a2, a3⟩, ⟨a4, a5, a6⟩, ⟨a7, a8, a9⟩⟩ := y
        simp only at hyn
        subst hyn
        change (Instr.lookup 77 (.map (some bf)) (.int .i64 (n : Nat)) false).run Tryz.prog w1 = .ok (.agg #[.slice a1 a2 a3, .slice a4 a5 a6, .slice a7 a8 a9]) w1 at hlk
        have HRG1 := Lib.hid hrg1
        have HB1 := Lib.hid hb1
        have HLT := Lib.hid hlt
        have HLE := Lib.hid (HRG.out.left_eq)
        clear hmm hq hle hst hmp hb1 hg1 hs1 hrg1 hlt hm hy hfd hfx hyl HRG HBW hLx hx
        have hfd := fun w => file_now (.slice a1 a2 a3) (.slice a4 a5 a6) (.slice a7 a8 a9) w
        go_wp2
        go_roundw
        case rel => exact ⟨_, cnt1, HRG1.out, by rw [HSUM.out]; go_num, HB1.out⟩
        case measure => rw [HRG1.out.left_eq, HLE.out]; exact HLT.out
theorem pused_any (h : PDisk w fp t b) : Calls Tryz.prog 42 #[.pointer (some ⟨b, 0, none⟩)] w (IsNum (Sf.used t) w) := by
  obtain ⟨who, bf, bs, bn, vr, ff, rn, h⟩ := h
  exact pused_disk h (Nat.zero_le _)
end
end Go.Proofs.YtmcbjcbnckpfkaaGreat
namespace Go.Proofs.YtmcbjcbnckpfkaaGreat
open Go.RowKit
set_option linter.unusedVariables false
namespace Sf
def placeOf (t : St) (s : ByteArray) (a : Int) : Nat × Nat := if (get t s).2 ≠ 0 then (0, (get t s).2) else if a < 0 ∨ (len t (get t s).1 : Int) < a then (0, 2) else ((get t s).1, 0)
theorem len_used_p {t : St} {s : ByteArray} {k : Nat} (h : get t s = (k, 0)) : len t k ≤ used t := by
  obtain ⟨hd, hf⟩ := get_ok (t := t) (s := s) (by rw [h])
  rw [h] at hf
  rw [used_lens hd]
  have := lens_sub (t := t) (List.singleton_sublist.2 (find_mem hf))
  simpa [lens] using this
end Sf
section
variable {w : World} {fp : Fp} {s : Nat} {t : Sf.St} {b : Nat} {who : Who} {bf bs bn : Nat} {vr : Sl} {ff : Int → Option RawX} {rn : List RawN}
/-- What is looked up of a name's file. -/
theorem PHas.look (h : PHas w fp s t b who bf bs bn vr ff rn) (hs4 : s ≤ 4) {u : ByteArray} {k : Nat} (hg : Sf.get t u = (k, 0)) :
    ∃ x, ff (k : Int) = some x ∧ k < t.files.length ∧ HasX w who k x (Sf.fileAt t k) ∧ x.now.n = Sf.len t k ∧ Sf.len t k ≤ 1048576 ∧ Sf.len t k ≤ x.now.c ∧ x.now.c ≤ maxLen ∧ (Instr.lookup 77 (.map (some bf)) (.int .i64 (k : Nat)) false).run Tryz.prog w = .ok (.agg #[slV x.sure, slV x.row, slV x.now]) w := by
  obtain ⟨x, h1, h2, h3⟩ := h.file_of hg
  obtain ⟨e1, e2, e3⟩ := h3.now.form_.len_
  exact ⟨x, h1, h2, h3, e1, h3.len_le, e2, e3, look_file h.body.files h1 (by have := h.good.files; have := h.good.acts; omega)⟩
set_option maxHeartbeats 2000000 in
set_option maxRecDepth 100000 in
theorem pfindPlace_disk (h : PHas w fp s t b who bf bs bn vr ff rn) (hs4 : s ≤ 4) (u : ByteArray) (hu : u.size ≤ maxLen) (a : Int) :
    Calls Tryz.prog 75 #[.pointer (some ⟨b, 0, none⟩), .string u, .int .i64 a] w (fun e w' => e = .returned (.tuple #[.int .i64 ((Sf.placeOf t u a).1 : Nat), .int .i64 ((Sf.placeOf t u a).2 : Nat)]) ∧ w = w') := by
  have CF := Lib.hid (pfind_disk h u hu)
  have c1 : w.cell? ⟨b, 1, none⟩ = some (.map (some bf)) := h.cell rfl
  obtain ⟨k, er, hge⟩ : ∃ k er, Sf.get t u = (k, er) := ⟨_, _, rfl⟩
  have HE0 : Hid (Sf.placeOf t u a = if er ≠ 0 then (0, er) else if a < 0 ∨ (Sf.len t k : Int) < a then (0, 2) else (k, 0)) := by unfold Hid Sf.placeOf; rw [hge]
  rw [hge] at CF
  by_cases he : er = 0
  · subst he
    have HE1 := Lib.hid (HE0.out.trans (if_neg (by simp)))
    obtain ⟨x, _, _, _, hn, _, _, _, hlk⟩ := h.look hs4 hge
    obtain ⟨⟨a1, a2, a3⟩, ⟨a4, a5, a6⟩, ⟨a7, a8, a9⟩⟩ := x
    simp only [slV] at hn hlk
    obtain ⟨m, hm⟩ : ∃ m, Sf.len t k = m := ⟨_, rfl⟩
    rw [hm] at HE1 hn
    subst hn
    have hfd := fun w => file_now (.slice a1 a2 a3) (.slice a4 a5 a6) (.slice a7 a8 a9) w
    clear h hge hm HE0
    by_cases h0 : a < 0
    · have HE : Hid (Sf.placeOf t u a = (0, 2)) := HE1.out.trans (if_pos (.inl h0))
      clear HE1
      go_enter Tryz.func75, Tryz.ntmps75
      go_wp2_with fail
      refine CF.out.mono ?_
      rintro e1 w1 ⟨rfl, rfl⟩
      clear CF
      go_wp2
      go_ret2
      rw [HE.out]
      exact ⟨rfl, rfl⟩
    · by_cases h1 : (a8 : Int) < a
      · have HE : Hid (Sf.placeOf t u a = (0, 2)) := HE1.out.trans (if_pos (.inr h1))
        clear HE1
        go_enter Tryz.func75, Tryz.ntmps75
        go_wp2_with fail
        refine CF.out.mono ?_
        rintro e1 w1 ⟨rfl, rfl⟩
        clear CF
        go_wp2
        go_ret2
        rw [HE.out]
        exact ⟨rfl, rfl⟩
      · have HE : Hid (Sf.placeOf t u a = (k, 0)) := HE1.out.trans (if_neg (by omega))
        clear HE1
        go_enter Tryz.func75, Tryz.ntmps75
        go_wp2_with fail
        refine CF.out.mono ?_
        rintro e1 w1 ⟨rfl, rfl⟩
        clear CF
        go_wp2
        go_ret2
        rw [HE.out]
        exact ⟨rfl, rfl⟩
  · have hq : ((er : Int) != 0) = true := by rw [bne_iff_ne]; omega
    have HE : Hid (Sf.placeOf t u a = (0, er)) := HE0.out.trans (if_pos he)
    clear h hge HE0 he c1
    go_enter Tryz.func75, Tryz.ntmps75
    go_wp2_with fail
    refine CF.out.mono ?_
    rintro e1 w1 ⟨rfl, rfl⟩
    clear CF
    go_wp2
    go_ret2
    rw [HE.out]
    exact ⟨rfl, rfl⟩
set_option maxHeartbeats 2000000 in
set_option maxRecDepth 100000 in
theorem psizeOf_any (h : PDisk w fp t b) (u : ByteArray) (hu : u.size ≤ maxLen) : Calls Tryz.prog 51 #[.pointer (some ⟨b, 0, none⟩), .string u] w (IsNE (Sf.size t u) w) := by
  obtain ⟨who, bf, bs, bn, vr, ff, rn, h⟩ := h
  have CF := Lib.hid (pfind_disk h u hu)
  have c1 : w.cell? ⟨b, 1, none⟩ = some (.map (some bf)) := h.cell rfl
  obtain ⟨k, er, hge⟩ : ∃ k er, Sf.get t u = (k, er) := ⟨_, _, rfl⟩
  have HE0 : Hid (Sf.size t u = if er ≠ 0 then (0, er) else (Sf.len t k, 0)) := by unfold Hid Sf.size; rw [hge]
  rw [hge] at CF
  by_cases he : er = 0
  · subst he
    have HE := Lib.hid (HE0.out.trans (if_neg (by simp)))
    obtain ⟨x, _, _, _, hn, _, _, _, hlk⟩ := h.look (Nat.zero_le _) hge
    obtain ⟨⟨a1, a2, a3⟩, ⟨a4, a5, a6⟩, ⟨a7, a8, a9⟩⟩ := x
    simp only [slV] at hn hlk
    have HN := Lib.hid hn
    have hfd := fun w => file_now (.slice a1 a2 a3) (.slice a4 a5 a6) (.slice a7 a8 a9) w
    clear h hge HE0 hn
    go_enter Tryz.func51, Tryz.ntmps51
    go_wp2_with fail
    refine CF.out.mono ?_
    rintro e1 w1 ⟨rfl, rfl⟩
    clear CF
    go_wp2
    go_ret2
    rw [HE.out]
    exact ⟨by rw [HN.out]; rfl, Below.refl _ _⟩
  · have hq : ((er : Int) != 0) = true := by rw [bne_iff_ne]; omega
    have HE : Hid (Sf.size t u = (0, er)) := HE0.out.trans (if_pos he)
    clear h hge HE0 he c1
    go_enter Tryz.func51, Tryz.ntmps51
    go_wp2_with fail
    refine CF.out.mono ?_
    rintro e1 w1 ⟨rfl, rfl⟩
    clear CF
    go_wp2
    go_ret2
    rw [HE.out]
    exact ⟨rfl, Below.refl _ _⟩
set_option maxHeartbeats 4000000 in
set_option maxRecDepth 100000 in
theorem pread_any (h : PDisk w fp t b) (u : ByteArray) (hu : u.size ≤ maxLen) (a n : Int) (ha : I64 a) (hn : I64 n) : Calls Tryz.prog 24 #[.pointer (some ⟨b, 0, none⟩), .string u, .int .i64 a, .int .i64 n] w (IsLE yK (Sf.read t u a n) w) := by
  obtain ⟨who, bf, bs, bn, vr, ff, rn, h⟩ := h
  have CF := Lib.hid (pfind_disk h u hu)
  have c1 : w.cell? ⟨b, 1, none⟩ = some (.map (some bf)) := h.cell rfl
  obtain ⟨k, er, hge⟩ : ∃ k er, Sf.get t u = (k, er) := ⟨_, _, rfl⟩
  have HE0 : Hid (Sf.read t u a n = if er ≠ 0 then ([], er) else if a < 0 ∨ (Sf.len t k : Int) < a ∨ n < 0 then ([], 2) else (((Sf.now (Sf.fileAt t k)).drop a.toNat).take n.toNat, 0)) := by unfold Hid Sf.read; rw [hge]
  rw [hge] at CF
  by_cases he : er = 0
  · subst he
    have HE1 := Lib.hid (HE0.out.trans (if_neg (by simp)))
    obtain ⟨x, _, _, hX, hxn, hl20, hxc, hxm, hlk⟩ := h.look (Nat.zero_le _) hge
    have hnow := hX.now.form_
    obtain ⟨⟨a1, a2, a3⟩, ⟨a4, a5, a6⟩, ⟨a7, a8, a9⟩⟩ := x
    simp only [slV] at hxn hlk hnow hxc hxm
    have HNW := Lib.hid hnow
    have HLN : Hid ((Sf.now (Sf.fileAt t k)).length = a8) := hxn.symm
    have hfd := fun w => file_now (.slice a1 a2 a3) (.slice a4 a5 a6) (.slice a7 a8 a9) w
    obtain ⟨m, hm⟩ : ∃ m, Sf.len t k = m := ⟨_, rfl⟩
    rw [hm] at HE1 hxn hl20 hxc
    subst hxn
    obtain ⟨l, hl⟩ : ∃ l, Sf.now (Sf.fileAt t k) = l := ⟨_, rfl⟩
    rw [hl] at HE1 HNW HLN
    clear h hge hm HE0 hX hnow hl
    have bad : ∀ (hE : Sf.read t u a n = ([], 2)) (hor : a < 0 ∨ (a8 : Int) < a ∨ n < 0), Calls Tryz.prog 24 #[.pointer (some ⟨b, 0, none⟩), .string u, .int .i64 a, .int .i64 n] w (IsLE yK (Sf.read t u a n) w) := fun hE hor => by
      have HE := Lib.hid hE
      clear hE HE1
      by_cases h0 : a < 0
      · clear hor
        go_enter Tryz.func24, Tryz.ntmps24
        go_wp2_with fail
        refine CF.out.mono ?_
        rintro e1 w1 ⟨rfl, rfl⟩
        clear CF
        go_wp2
        go_ret2
        exact IsLE.none_ HE.out rfl
      · by_cases h1 : (a8 : Int) < a
        · clear hor
          go_enter Tryz.func24, Tryz.ntmps24
          go_wp2_with fail
          refine CF.out.mono ?_
          rintro e1 w1 ⟨rfl, rfl⟩
          clear CF
          go_wp2
          go_ret2
          exact IsLE.none_ HE.out rfl
        · have h2 : n < 0 := by omega
          clear hor
          go_enter Tryz.func24, Tryz.ntmps24
          go_wp2_with fail
          refine CF.out.mono ?_
          rintro e1 w1 ⟨rfl, rfl⟩
          clear CF
          go_wp2
          go_ret2
          exact IsLE.none_ HE.out rfl
    by_cases hor : a < 0 ∨ (a8 : Int) < a ∨ n < 0
    · exact bad (HE1.out.trans (if_pos hor)) hor
    · have HE := Lib.hid (HE1.out.trans (if_neg hor))
      have h0 : ¬ a < 0 := fun h => hor (.inl h)
      have h1 : ¬ (a8 : Int) < a := fun h => hor (.inr (.inl h))
      have h2 : ¬ n < 0 := fun h => hor (.inr (.inr h))
      clear bad HE1 hor
      obtain ⟨p, rfl⟩ : ∃ p : Nat, (p : Int) = a := ⟨a.toNat, by omega⟩
      obtain ⟨q, rfl⟩ : ∃ q : Nat, (q : Int) = n := ⟨n.toNat, by omega⟩
      rw [Int.toNat_natCast, Int.toNat_natCast] at HE
      obtain ⟨A', k1, k2, hdr, _⟩ := cut_from yK rfl a7 a8 a9 p (by omega) hxc
      change ∀ w, (Instr.slice 33 (.slice a7 a8 a9) (some (.int .i64 (p : Nat))) none none).run Tryz.prog w = .ok (.slice A' (a8 - p) (a9 - p)) w at k1
      change ∀ w, (Instr.sliceAt 33 (.slice a7 a8 a9) (some (.int .i64 (p : Nat))) none none).run Tryz.prog w = .ok (.slice A' (a8 - p) (a9 - p)) w at k2
      have hd := hdr w w.heap.size l HNW.out
      have hlen := HLN.out
      have HG : Hid (∀ g, g ≤ a8 - p → (∀ w, (Instr.slice 33 (.slice A' (a8 - p) (a9 - p)) none (some (.int .i64 (g : Nat))) none).run Tryz.prog w = .ok (.slice A' g (a9 - p)) w) ∧ (∀ w, (Instr.sliceAt 33 (.slice A' (a8 - p) (a9 - p)) none (some (.int .i64 (g : Nat))) none).run Tryz.prog w = .ok (.slice A' g (a9 - p)) w) ∧
          Calls Tryz.prog 74 #[.slice A' g (a9 - p)] w (IsL1 yK ((l.drop p).take g) w)) := fun g hg => by
        have htk := hd.take_ (k := g) (by rw [List.length_drop]; omega)
        exact ⟨fun w => cut_to yK rfl A' (a8 - p) (a9 - p) g (by omega) w, fun w => cutAt_to yK rfl A' (a8 - p) (a9 - p) g (by omega) w, pbclone_any _ _ w.heap.size w htk (Nat.le_refl _) (by rw [List.length_take, List.length_drop]; omega)⟩
      have nsub : ((a8 - p : Nat) : Int) = (a8 : Int) - (p : Int) := by omega
      clear hd hdr HNW
      by_cases hqq : (a8 : Int) - (p : Int) < (q : Int)
      · obtain ⟨k3, k4, hcl⟩ := HG.out (a8 - p) (Nat.le_refl _)
        rw [nsub] at k3 k4
        have HLE : Hid ((l.drop p).take (a8 - p) = (l.drop p).take q) := by
          unfold Hid
          rw [List.take_of_length_le (by rw [List.length_drop]; omega), List.take_of_length_le (by rw [List.length_drop]; omega)]
        rw [HLE.out] at hcl
        obtain ⟨D, hD⟩ : ∃ D, (l.drop p).take q = D := ⟨_, rfl⟩
        rw [hD] at hcl HE
        have CB := Lib.hid hcl
        have hmt : (min (q : Int) ((a8 - p : Nat) : Int)).toNat = a8 - p := by omega
        clear HG hcl HLN hlen nsub HLE hD
        go_enter Tryz.func24, Tryz.ntmps24
        go_wp2_with fail
        refine CF.out.mono ?_
        rintro e1 w1 ⟨rfl, rfl⟩
        clear CF
        go_wp2_with fail
        refine CB.out.mono ?_
        rintro e2 w2 ⟨A2, c2, rfl, ho, hb⟩
        have HO := Lib.hid ho
        have HB := Lib.hid hb
        clear CB ho hb
        go_wp2
        go_ret2
        exact IsLE.of HE.out rfl rfl HO.out HB.out
      · obtain ⟨k3, k4, hcl⟩ := HG.out q (by omega)
        obtain ⟨D, hD⟩ : ∃ D, (l.drop p).take q = D := ⟨_, rfl⟩
        rw [hD] at hcl HE
        have CB := Lib.hid hcl
        have hmt : (min (q : Int) ((a8 - p : Nat) : Int)).toNat = q := by omega
        clear HG hcl HLN hlen nsub hD
        go_enter Tryz.func24, Tryz.ntmps24
        go_wp2_with fail
        refine CF.out.mono ?_
        rintro e1 w1 ⟨rfl, rfl⟩
        clear CF
        go_wp2_with fail
        refine CB.out.mono ?_
        rintro e2 w2 ⟨A2, c2, rfl, ho, hb⟩
        have HO := Lib.hid ho
        have HB := Lib.hid hb
        clear CB ho hb
        go_wp2
        go_ret2
        exact IsLE.of HE.out rfl rfl HO.out HB.out
  · have hq : ((er : Int) != 0) = true := by rw [bne_iff_ne]; omega
    have HE : Hid (Sf.read t u a n = ([], er)) := HE0.out.trans (if_pos he)
    clear h hge HE0 he c1
    go_enter Tryz.func24, Tryz.ntmps24
    go_wp2_with fail
    refine CF.out.mono ?_
    rintro e1 w1 ⟨rfl, rfl⟩
    clear CF
    go_wp2
    go_ret2
    exact IsLE.none_ HE.out rfl
end
end Go.Proofs.YtmcbjcbnckpfkaaGreat
namespace Go.Proofs.YtmcbjcbnckpfkaaGreat
open Go.RowKit
set_option linter.unusedVariables false
section
variable {w : World} {fp : Fp} {s : Nat} {t : Sf.St} {b : Nat} {who : Who} {bf bs bn : Nat} {vr : Sl} {ff : Int → Option RawX} {rn : List RawN}
set_option maxHeartbeats 4000000 in
set_option maxRecDepth 100000 in
theorem pdoToFile_disk (h : PHas w fp 0 t b who bf bs bn vr ff rn) (hf : Sf.Few t) {n : Nat} {x : RawX} (hn : n < t.files.length) (hx : ff (n : Int) = some x) (hX : HasX w who n x (Sf.fileAt t n)) (c : RawC) (m : List Nat) {bl : Nat} (hm : Lv yK w bl (slV c.sl) m) (hbl : bl ≤ w.heap.size) (B0 : Nat) (hB0 : B0 ≤ w.heap.size) (hnew : 0 < m.length → ∀ k, (slV c.sl).ownBlock = some k → who k = none ∧ k < w.heap.size ∧ B0 ≤ k)
    (ha : c.at_ ≤ (Sf.now (Sf.fileAt t n)).length) (hml : m.length ≤ 1048576) (hcut : c.cut = true → m = []) (hD : (Sf.done (Sf.now (Sf.fileAt t n)) ⟨c.cut, c.at_, m⟩).length ≤ 1048576) :
    Calls Tryz.prog 76 #[.pointer (some ⟨b, 0, none⟩), .int .i64 (n : Nat), cV c] w (fun e w' => e = .returned (.int .i64 ((Sf.add t n ⟨c.cut, c.at_, m⟩).1 : Nat)) ∧ ∃ f', PDisk w' f' (Sf.add t n ⟨c.cut, c.at_, m⟩).2 b ∧ fp.Next f' B0 ∧ Turned fp.M w w') := by
  obtain ⟨f, hfe⟩ : ∃ f, Sf.fileAt t n = f := ⟨_, rfl⟩
  rw [hfe] at hX ha hD
  obtain ⟨rc, hrl, hrow, hacts⟩ := hX.row
  have hnl : (Sf.now f).length ≤ 1048576 := by have := hX.ok.len f.row.length (Nat.le_refl _); rwa [Sf.bytes_all] at this
  have hfr : f.row.length ≤ t.acts := by
    have : f ∈ t.files := by
      rw [← hfe]; unfold Sf.fileAt
      rw [List.getD_eq_getElem?_getD, List.getElem?_eq_getElem hn]; exact List.getElem_mem hn
    exact h.good.frow f this
  have hac := h.good.acts
  have hffl := h.good.files
  -- the box
  obtain ⟨at_, ⟨Ac, nc, cc⟩, cut⟩ := c
  simp only [slV] at hm hnew ha hcut hD ⊢
  change Calls _ _ #[.pointer (some ⟨b, 0, none⟩), .int .i64 (n : Nat), .agg #[.int .i64 (at_ : Nat), .slice Ac nc cc, .bool cut]] w _
  obtain ⟨W, hW⟩ : ∃ W, w.alloc (.cells #[.int .i64 (at_ : Nat), .slice Ac nc cc, .bool cut] 113) = W := ⟨_, rfl⟩
  have hWs : W.heap.size = w.heap.size + 1 := by rw [← hW]; simp
  have hW0 : W.heap[w.heap.size]? = some (.cells #[.int .i64 (at_ : Nat), .slice Ac nc cc, .bool cut] 113 (0, 0)) := by rw [← hW]; exact heap_alloc_new _ _
  have hb : Below w.heap.size w W := by rw [← hW]; exact (Below.refl _ _).alloc (Nat.le_refl _) _
  have HW := h.below hb
  have hTW : Turned (fun _ => False) w W := by rw [← hW]; exact (Turned.refl _ _).alloc _
  have hXW : HasX W who n x f := hX.turned hTW (fun _ h => h.elim)
  have hmW : Lv yK W bl (.slice Ac nc cc) m := hm.below_ hb hbl
  -- the call
  have hap : Apart (slV x.row) (slV x.now) := fun k h1 h2 => by
    have e1 := hX.rowW k h1
    have e2 := hX.nowW k h2
    rw [e1] at e2
    cases e2
  have hap2 : 0 < m.length → Apart (.slice Ac nc cc) (slV x.now) := fun hp k h1 h2 => by
    have e1 := (hnew hp k h1).1
    have e2 := hX.nowW k h2
    rw [e1] at e2
    cases e2
  have hap3 : 0 < m.length → Apart (.slice Ac nc cc) (slV x.row) := fun hp k h1 h2 => by
    have e1 := (hnew hp k h1).1
    have e2 := hX.rowW k h2
    rw [e1] at e2
    cases e2
  have hrowW : OwnL cK W 0 (slV x.row) rc := hrow.turned_ hTW (fun _ _ h => h)
  have hnowW : OwnL yK W 0 (slV x.now) (Sf.now f) := hXW.now
  have CC := Lib.hid (pchanged_any ⟨at_, ⟨Ac, nc, cc⟩, cut⟩ x (Sf.now f) m rc W.drew bl hrowW.drew_ hnowW.drew_ hmW.drew_ (by have := hb.size; show bl ≤ W.heap.size; omega) hap hap2 hap3 ha (by omega) (by omega) (by show at_ ≤ _; omega) (by omega))
  change Hid (Calls _ _ #[xV x, .agg #[.int .i64 (at_ : Nat), .slice Ac nc cc, .bool cut]] W.drew _) at CC
  -- what stays
  obtain ⟨F, hF⟩ : ∃ F : Nat → Prop, (fun k => (slV x.row).ownBlock = some k ∨ (slV x.now).ownBlock = some k) = F := ⟨_, rfl⟩
  rw [hF] at CC
  have HFW : Hid (∀ k, F k → who k = some (.frow n) ∨ who k = some (.fnow n)) := fun k hk => by rw [← hF] at hk; exact hk.imp (fun h => hX.rowW k h) (fun h => hX.nowW k h)
  have HFN : Hid (∀ k r, who k = some r → r ≠ .frow n → r ≠ .fnow n → ¬ F k) := fun k r hk h1 h2 hf => by
    rcases HFW.out k hf with h | h <;> rw [hk] at h
    · exact h1 (Option.some.inj h)
    · exact h2 (Option.some.inj h)
  have HHC : Hid (∀ w', Turned F W w' → IsHead w' b (headP t bf bs bn vr)) := fun w' ht => (ht.block b (HW.lt b (by rw [HW.mine]; rfl)) (HFN.out b _ h.mine (by simp) (by simp))).trans HW.head
  have HC : Hid (∀ w', Turned F W w' → w'.cell? ⟨b, 1, none⟩ = some (.map (some bf))) := fun w' ht => head_cellP (HHC.out w' ht) rfl
  have HY : Hid (∀ w', Turned F W w' → w'.cell? ⟨w.heap.size, 0, none⟩ = some (.int .i64 (at_ : Nat)) ∧ w'.cell? ⟨w.heap.size, 1, none⟩ = some (.slice Ac nc cc) ∧ w'.cell? ⟨w.heap.size, 2, none⟩ = some (.bool cut)) := fun w' ht => by
    have hh := (ht.block w.heap.size (by omega) (fun hf => by
      have h2 := h.new (Nat.le_refl w.heap.size)
      rcases HFW.out _ hf with h3 | h3 <;> rw [h2] at h3 <;> cases h3)).trans hW0
    exact ⟨by rw [cell_of_row _ _ 0 _ _ _ hh]; rfl, by rw [cell_of_row _ _ 1 _ _ _ hh]; rfl, by rw [cell_of_row _ _ 2 _ _ _ hh]; rfl⟩
  have hni : (Lit.int .i64 (n : Int)).wf = true := WalkArith.wf_i64 (by omega)
  have HMP : Hid (∀ w', Turned F W w' → IsMp fM w' bf (64 + t.acts + 0) ff) := fun w' ht => HW.body.files.turned_ ht (HFN.out bf _ h.body.filesW (by simp) (by simp))
  have HLK : Hid (∀ w', Turned F W w' → (Instr.lookup 77 (.map (some bf)) (.int .i64 (n : Nat)) false).run Tryz.prog w' = .ok (xV x) w') := fun w' ht => by
    have := (HMP.out w' ht).look (x := (n : Int)) hni
    rw [hx] at this
    exact this
  have HH := Lib.hid h
  have HFEW := Lib.hid hf
  have HX := Lib.hid hX
  have HBW := Lib.hid hb
  have HS0 : Hid (Turned F W W.drew) := (Turned.refl F W).drew
  have HNI := Lib.hid hni
  have HAC : Hid (t.acts ≤ 1099511627776 ∧ n < t.files.length ∧ f.row.length ≤ t.acts ∧ B0 ≤ w.heap.size ∧ W.heap.size = w.heap.size + 1 ∧ rc.length = f.row.length) := ⟨hac, hn, hfr, hB0, hWs, hrl⟩
  have HXE := Lib.hid hx
  obtain ⟨C, hC⟩ : ∃ C, xV x = C := ⟨_, rfl⟩
  rw [hC] at CC HLK
  have HACTS := Lib.hid hacts
  have HNEW := Lib.hid hnew
  have HM0 := Lib.hid hm
  have HDL := Lib.hid hD
  have HAT := Lib.hid ha
  have HCUT := Lib.hid hcut
  have HML := Lib.hid hml
  have HFE := Lib.hid hfe
  clear hf hX hXW hnew hm hD ha hcut hml hfe hrow hacts hap hap2 hap3 hrowW hnowW hb HW hTW hmW hF hni hac hffl hfr hnl h hx
  go_enter Tryz.func76, Tryz.ntmps76
  go_wp2
  refine wp_region_m (fun w' => Turned F W w') 13 (by kernel_rfl) ?_
  have hH := HS0.out
  refine wpAnyM_take (i := 0) (v := ?_) rfl (by kernel_rfl) (by kernel_rfl) (by kernel_rfl) (by kernel_rfl) (fun _ _ _ h => h) hH (Or.inl ⟨by rfl, (by intro w' hSw; go_simp; first | done | with_reducible rfl)⟩) ?_
  try simp only [Act.put, List.getElem_toArray, List.getElem_cons_zero, List.setIfInBounds_toArray, List.set_cons_zero, List.set_cons_succ]
  refine wpAnyM_take (i := 1) (v := ?_) rfl (by kernel_rfl) (by kernel_rfl) (by kernel_rfl) (by kernel_rfl) (fun _ _ _ h => h) hH (Or.inl ⟨by rfl, (by intro w' hSw; go_simp; first | done | with_reducible rfl)⟩) ?_
  try simp only [Act.put, List.getElem_toArray, List.getElem_cons_succ, List.getElem_cons_zero, List.setIfInBounds_toArray, List.set_cons_zero, List.set_cons_succ]
  refine wpAnyM_take (i := 2) (v := ?_) rfl (by kernel_rfl) (by kernel_rfl) (by kernel_rfl) (by kernel_rfl) (fun _ _ _ h => h) hH (Or.inl ⟨by rfl, (by intro w' hSw; go_simp; first | done | with_reducible rfl)⟩) ?_
  try simp only [Act.put, List.getElem_toArray, List.getElem_cons_succ, List.getElem_cons_zero, List.setIfInBounds_toArray, List.set_cons_zero, List.set_cons_succ]
  refine wpAnyM_take (i := 3) (v := ?_) rfl (by kernel_rfl) (by kernel_rfl) (by kernel_rfl) (by kernel_rfl) (fun _ _ _ h => h) hH (Or.inl ⟨by rfl, (by intro w' hSw; have s1 := HC.out w' hSw; go_simp; first | done | with_reducible rfl)⟩) ?_
  try simp only [Act.put, List.getElem_toArray, List.getElem_cons_succ, List.getElem_cons_zero, List.setIfInBounds_toArray, List.set_cons_zero, List.set_cons_succ]
  refine wpAnyM_take (i := 4) (v := ?_) rfl (by kernel_rfl) (by kernel_rfl) (by kernel_rfl) (by kernel_rfl) (fun _ _ _ h => h) hH (Or.inl ⟨by rfl, (by intro w' hSw; go_simp; first | done | with_reducible rfl)⟩) ?_
  try simp only [Act.put, List.getElem_toArray, List.getElem_cons_succ, List.getElem_cons_zero, List.setIfInBounds_toArray, List.set_cons_zero, List.set_cons_succ]
  refine wpAnyM_take (i := 5) (v := ?_) rfl (by kernel_rfl) (by kernel_rfl) (by kernel_rfl) (by kernel_rfl) (fun _ _ _ h => h) hH (Or.inl ⟨by rfl, (by intro w' hSw; go_simp; first | done | with_reducible rfl)⟩) ?_
  try simp only [Act.put, List.getElem_toArray, List.getElem_cons_succ, List.getElem_cons_zero, List.setIfInBounds_toArray, List.set_cons_zero, List.set_cons_succ]
  refine wpAnyM_take (i := 6) (v := ?_) rfl (by kernel_rfl) (by kernel_rfl) (by kernel_rfl) (by kernel_rfl) (fun _ _ _ h => h) hH (Or.inl ⟨by rfl, (by intro w' hSw; go_simp; first | done | with_reducible rfl)⟩) ?_
  try simp only [Act.put, List.getElem_toArray, List.getElem_cons_succ, List.getElem_cons_zero, List.setIfInBounds_toArray, List.set_cons_zero, List.set_cons_succ]
  refine wpAnyM_take (i := 7) (v := ?_) rfl (by kernel_rfl) (by kernel_rfl) (by kernel_rfl) (by kernel_rfl) (fun _ _ _ h => h) hH (Or.inl ⟨by rfl, (by intro w' hSw; go_simp; first | done | with_reducible rfl)⟩) ?_
  try simp only [Act.put, List.getElem_toArray, List.getElem_cons_succ, List.getElem_cons_zero, List.setIfInBounds_toArray, List.set_cons_zero, List.set_cons_succ]
  refine wpAnyM_take (i := 8) (v := ?_) rfl (by kernel_rfl) (by kernel_rfl) (by kernel_rfl) (by kernel_rfl) (fun _ _ _ h => h) hH (Or.inl ⟨by rfl, (by intro w' hSw; have s1 := HC.out w' hSw; go_simp; first | done | with_reducible rfl)⟩) ?_
  try simp only [Act.put, List.getElem_toArray, List.getElem_cons_succ, List.getElem_cons_zero, List.setIfInBounds_toArray, List.set_cons_zero, List.set_cons_succ]
  refine wpAnyM_take (i := 9) (v := ?_) rfl (by kernel_rfl) (by kernel_rfl) (by kernel_rfl) (by kernel_rfl) (fun _ _ _ h => h) hH (Or.inl ⟨by rfl, (by intro w' hSw; go_simp; first | done | with_reducible rfl)⟩) ?_
  try simp only [Act.put, List.getElem_toArray, List.getElem_cons_succ, List.getElem_cons_zero, List.setIfInBounds_toArray, List.set_cons_zero, List.set_cons_succ]
  refine wpAnyM_take (i := 10) (v := ?_) rfl (by kernel_rfl) (by kernel_rfl) (by kernel_rfl) (by kernel_rfl) (fun _ _ _ h => h) hH (Or.inl ⟨by rfl, (by intro w' hSw; have s1 := HLK.out w' hSw; go_simp; first | done | with_reducible rfl)⟩) ?_
  try simp only [Act.put, List.getElem_toArray, List.getElem_cons_succ, List.getElem_cons_zero, List.setIfInBounds_toArray, List.set_cons_zero, List.set_cons_succ]
  refine wpAnyM_take (i := 11) (v := ?_) rfl (by kernel_rfl) (by kernel_rfl) (by kernel_rfl) (by kernel_rfl) (fun _ _ _ h => h) hH (Or.inl ⟨by rfl, (by intro w' hSw; obtain ⟨s0, s1, s2⟩ := HY.out w' hSw; go_simp; first | done | with_reducible rfl)⟩) ?_
  try simp only [Act.put, List.getElem_toArray, List.getElem_cons_succ, List.getElem_cons_zero, List.setIfInBounds_toArray, List.set_cons_zero, List.set_cons_succ]
  refine wpAnyM_next (i := 12) (by kernel_rfl) rfl (fun K hK => ?_)
  go_simp
  refine CC.out.mono ?_
  rintro e W3 ⟨u, v, rfl, hr3, hn3, hT3, hmu, hmv, hap3⟩
  have hTW3 : Turned F W W3 := HS0.out.trans hT3 (fun _ _ h => h)
  have HR3 := Lib.hid hr3
  have HN3 := Lib.hid hn3
  have HMU : Hid (Moved w (slV x.row) (slV u)) := fun k hk => (hmu k hk).imp id (fun h => by have := HBW.out.size; have h2 : W.heap.size ≤ k := h; omega)
  have HMV : Hid (Moved w (slV x.now) (slV v)) := fun k hk => (hmv k hk).imp id (fun h => by have := HBW.out.size; have h2 : W.heap.size ≤ k := h; omega)
  have HAP := Lib.hid hap3
  have HT3 := Lib.hid hTW3
  obtain ⟨w4, hup, hm4, hg4⟩ := (HMP.out W3 hTW3).upd (by have := HAC.out; simp only [maxLen]; omega) HNI.out (⟨x.sure, u, v⟩ : RawX)
  change (Instr.mapUpdate 77 (.map (some bf)) (.int .i64 (n : Nat)) (xV ⟨x.sure, u, v⟩)).run Tryz.prog W3 = .ok () w4 at hup
  obtain ⟨D, hDD⟩ : ∃ D, xV ⟨x.sure, u, v⟩ = D := ⟨_, rfl⟩
  rw [hDD] at hup
  rw [hDD]
  have HM4 := Lib.hid hm4
  have HG4 := Lib.hid hg4
  refine hK.out _ _ (.inr hTW3) ?_
  clear hK K hr3 hn3 hT3 hmu hmv hap3 hTW3 hm4 hg4 CC hDD
  try simp only [Act.put, List.getElem_toArray, List.getElem_cons_succ, List.getElem_cons_zero, List.setIfInBounds_toArray, List.set_cons_zero, List.set_cons_succ]
  refine wpAnyM_next (i := 13) (by kernel_rfl) rfl (fun K hK => ?_)
  go_simp
  refine hK.out _ _ (.inl (Nat.le_refl _)) ?_
  clear hK K hup
  try simp only [Act.put, List.getElem_toArray, List.getElem_cons_succ, List.getElem_cons_zero, List.setIfInBounds_toArray, List.set_cons_zero, List.set_cons_succ]
  refine wpAnyM_done (by kernel_rfl) ?_ _
  -- the roles
  have HT4 : Hid (Turned (fun k => F k ∨ k = bf) w w4) := ((((Turned.of_below HBW.out).mono (G := fun k => F k ∨ k = bf) (fun k hk h => absurd hk (by omega))).trans HT3.out (fun _ _ h => .inl h))).trans (Turned.of_grown HG4.out) (fun k _ h => .inr (Option.some.inj h).symm)
  have hw1 : ∃ who1 : Who, More who who1 ∧ (0 < m.length → Bears who1 (.slice Ac nc cc) .bytes) ∧ (∀ k, (who1 k).isSome → (who k).isSome ∨ (B0 ≤ k ∧ k < w.heap.size)) ∧ ∀ k, (who k ≠ none ∨ w.heap.size ≤ k) → who1 k = who k := by
    by_cases h0 : 0 < m.length
    · refine ⟨lab who (.slice Ac nc cc) .bytes, lab_more (fun k hk => .inl (HNEW.out h0 k hk).1), fun _ => lab_bears _ _ _, fun k hk => (lab_some hk).imp id (fun h => ⟨(HNEW.out h0 k h).2.2, (HNEW.out h0 k h).2.1⟩), fun k hk => lab_old fun h => ?_⟩
      obtain ⟨e1, e2, _⟩ := HNEW.out h0 k h
      rcases hk with hk | hk
      · exact hk e1
      · omega
    · exact ⟨who, More.refl _, fun h => absurd h h0, fun k hk => .inl hk, fun _ _ => rfl⟩
  obtain ⟨who1, q1, q2, q3, q4⟩ := hw1
  have r1 : More who1 (lab who1 (slV u) (.frow n)) := lab_more fun k hk => by
    rcases HMU.out k hk with h | h
    · have h2 := HX.out.rowW k h
      rw [q4 k (.inl (by rw [h2]; simp))]
      exact .inr h2
    · rw [q4 k (.inr h)]
      exact .inl (HH.out.new h)
  have r2 : More (lab who1 (slV u) (.frow n)) (lab (lab who1 (slV u) (.frow n)) (slV v) (.fnow n)) := lab_more fun k hk => by
    have hne : (slV u).ownBlock ≠ some k := fun h => HAP.out k h hk
    rw [lab_old hne]
    rcases HMV.out k hk with h | h
    · have h2 := HX.out.nowW k h
      rw [q4 k (.inl (by rw [h2]; simp))]
      exact .inr h2
    · rw [q4 k (.inr h)]
      exact .inl (HH.out.new h)
  obtain ⟨who', hwho⟩ : ∃ who', lab (lab who1 (slV u) (.frow n)) (slV v) (.fnow n) = who' := ⟨_, rfl⟩
  have hmore : More who who' := by rw [← hwho]; exact (q1.trans r1).trans r2
  have hsm : ∀ k, (who' k).isSome → (who k).isSome ∨ (B0 ≤ k ∧ k < w4.heap.size) := fun k hk => by
    have hs4 := HT4.out.size
    have hs34 := HG4.out.size
    rw [← hwho] at hk
    rcases lab_some hk with hk | hk
    · rcases lab_some hk with hk | hk
      · exact (q3 k hk).imp id (fun h => ⟨h.1, by omega⟩)
      · have h3 := (HR3.out.lt_ k hk).2
        rcases HMU.out k hk with h | h
        · exact .inl (by rw [HX.out.rowW k h]; rfl)
        · exact .inr ⟨by have := HAC.out; omega, by omega⟩
    · have h3 := (HN3.out.lt_ k hk).2
      rcases HMV.out k hk with h | h
      · exact .inl (by rw [HX.out.nowW k h]; rfl)
      · exact .inr ⟨by have := HAC.out; omega, by omega⟩
  have hu4 : OwnL cK w4 0 (slV u) (rc ++ [⟨at_, ⟨Ac, nc, cc⟩, cut⟩]) := HR3.out.turned_ (Turned.of_grown HG4.out) (fun k hk e => by
    obtain rfl : bf = k := Option.some.inj e
    have h1 := r1 bf .files (q1 _ _ HH.out.body.filesW)
    rw [lab_bears _ _ _ bf hk] at h1
    cases h1)
  have hv4 : OwnL yK w4 0 (slV v) (Sf.done (Sf.now f) ⟨cut, at_, m⟩) := HN3.out.turned_ (Turned.of_grown HG4.out) (fun k hk e => by
    obtain rfl : bf = k := Option.some.inj e
    have h1 := r2 bf .files (r1 bf .files (q1 _ _ HH.out.body.filesW))
    rw [lab_bears _ _ _ bf hk] at h1
    cases h1)
  have noF : ∀ k r, who k = some r → r ≠ .frow n → r ≠ .fnow n → r ≠ .files → ¬ (F k ∨ k = bf) := fun k r hk h1 h2 h3 hf => hf.elim (HFN.out k r hk h1 h2) (fun e => by rw [e, HH.out.body.filesW] at hk; exact h3 (Option.some.inj hk).symm)
  have noF2 : ∀ r, r ≠ .frow n → r ≠ .fnow n → r ≠ .files → ∀ k, (F k ∨ k = bf) → who k ≠ some r := fun r h1 h2 h3 k hf hk => noF k r hk h1 h2 h3 hf
  have hbl4 : bl ≤ w4.heap.size := by have := HT4.out.size; omega
  have hX4 : HasX w4 who' n ⟨x.sure, u, v⟩ ⟨f.sure, f.row ++ [⟨cut, at_, m⟩]⟩ := by
    refine ⟨HX.out.sure.turned_ HT4.out (HX.out.sureW.off (noF2 _ (by simp) (by simp) (by simp))), HX.out.sureW.more hmore, by rw [Sf.now_add]; exact hv4, by rw [← hwho]; exact lab_bears _ _ _, ⟨rc ++ [⟨at_, ⟨Ac, nc, cc⟩, cut⟩], by have := HAC.out; simp; omega, hu4, fun j r a hr ha => ?_⟩, ?_, fun h => by simp at h, ?_⟩
    · by_cases hj : j < rc.length
      · rw [List.getElem?_append_left hj] at hr
        have hjf : j < f.row.length := by have := HAC.out; omega
        rw [List.getElem?_append_left hjf] at ha
        exact ((HACTS.out j r a hr ha).turned HT4.out (noF2 _ (by simp) (by simp) (by simp))).more hmore
      · have hlen : rc.length = f.row.length := HAC.out.2.2.2.2.2
        have hj2 : j = rc.length := by
          have := (List.getElem?_eq_some_iff.1 hr).1
          simp at this
          omega
        subst hj2
        simp only [List.getElem?_append_right (Nat.le_refl _), Nat.sub_self, List.getElem?_cons_zero, Option.some.injEq] at hr
        subst hr
        rw [hlen] at ha
        simp only [List.getElem?_append_right (Nat.le_refl _), Nat.sub_self, List.getElem?_cons_zero, Option.some.injEq] at ha
        subst ha
        refine ⟨rfl, rfl, ((HM0.out.turnedB_ HT4.out (fun hp k hk hf => ?_)).mono_ hbl4), fun hp => ((q2 hp).more r1).more (by rw [← hwho]; exact r2)⟩
        have e1 := (HNEW.out hp k hk).1
        rcases hf with hf | hf
        · rcases HFW.out k hf with h | h <;> rw [e1] at h <;> cases h
        · rw [hf, HH.out.body.filesW] at e1; cases e1
    · rw [← hwho]; exact (lab_bears who1 (slV u) (.frow n)).more r2
    · exact HX.out.ok.more ⟨HAT.out, HML.out, HCUT.out⟩ HDL.out (by have := HAC.out; omega)
  have hP4 : PHas w4 (fpOf who') 1 { t with files := t.files.set n ⟨f.sure, f.row ++ [⟨cut, at_, m⟩]⟩ } b who' bf bs bn vr (fun k => if k = (n : Int) then some ⟨x.sure, u, v⟩ else ff k) rn := by
    refine ⟨?_, HH.out.body.set_file (q := 1) HAC.out.2.1 HXE.out _ _ hmore HT4.out (fun k hk => ?_) HM4.out hX4 (Nat.zero_le _), HH.out.good.set_file (by have := HAC.out; simp; omega) (Nat.zero_le _), hmore _ _ HH.out.mine, fun k => Iff.rfl, fun k h => h, fun k hk => ?_⟩
    · rw [head_set_file]
      exact (HT4.out.block b (HH.out.lt b (by rw [HH.out.mine]; rfl)) (noF b _ HH.out.mine (by simp) (by simp) (by simp))).trans HH.out.head
    · rcases hk with hk | hk
      · exact (HFW.out k hk).elim (fun h => .inr (.inr (.inr (.inr (.inl h))))) (fun h => .inr (.inr (.inr (.inr (.inr h)))))
      · rw [hk]; exact .inr (.inr (.inl HH.out.body.filesW))
    · rcases hsm k hk with h | h
      · exact Nat.lt_of_lt_of_le (HH.out.lt k h) HT4.out.size
      · exact h.2
  have HP4 := Lib.hid hP4
  have HE : Hid (Sf.add t n ⟨cut, at_, m⟩ = Sf.blown { t with files := t.files.set n ⟨f.sure, f.row ++ [⟨cut, at_, m⟩]⟩ }) := by unfold Hid Sf.add; rw [HFE.out]
  have HNX : Hid (fp.Next (fpOf who') B0) := ⟨fun k hk => (hsm k hk).elim (fun h => .inl ((HH.out.m k).2 h)) (fun h => .inr h.1), fun k hk => hk.elim⟩
  have HTM : Hid (Turned fp.M w w4) := HT4.out.mono fun k _ hk => (HH.out.m k).2 (by
    rcases hk with hk | hk
    · rcases HFW.out k hk with h | h <;> rw [h] <;> rfl
    · rw [hk, HH.out.body.filesW]; rfl)
  obtain ⟨t4, ht4⟩ : ∃ u : Sf.St, { t with files := t.files.set n ⟨f.sure, f.row ++ [⟨cut, at_, m⟩]⟩ } = u := ⟨_, rfl⟩
  have HA4 : Hid (t4.acts < 1099511627776) := by rw [← ht4]; exact HFEW.out
  rw [ht4] at HP4 HE
  have CA := Lib.hid (pact_disk HP4.out HA4.out)
  clear q1 q2 q3 q4 r1 r2 hmore hsm hu4 hv4 noF noF2 hX4 hP4 ht4 hwho
  go_wp2_with fail
  refine CA.out.mono ?_
  rintro e6 w6 ⟨rfl, hD, hT⟩
  have HD6 := Lib.hid hD
  have HT6 := Lib.hid hT
  clear CA hD hT
  go_wp2
  go_ret
  rw [HE.out]
  refine ⟨rfl, fpOf who', ⟨_, _, _, _, _, _, _, HD6.out⟩, HNX.out, HTM.out.trans HT6.out (fun k hk e => ?_)⟩
  rw [e]
  exact (HH.out.m b).2 (by rw [HH.out.mine]; rfl)
end
end Go.Proofs.YtmcbjcbnckpfkaaGreat
