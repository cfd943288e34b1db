/-
  SfSure: Chapter 14: a file that is sure, of a name that is there for sure, stays, whatever is done to others.
  SfWorks: stooklaw14.works: the states that it goes through.
-/
import Derived.Test.YtmcbjcbnckpfkaaGreatPt12
import Derived.Test.YtmcbjcbnckpfkaaGreatPt25
import Derived.Test.YtmcbjcbnckpfkaaGreatPt03
import Derived.Test.YtmcbjcbnckpfkaaGreatPt01
import Derived.Lib.SlBytesConst
import Derived.BigRegion
namespace Go.Proofs.YtmcbjcbnckpfkaaGreat.Sf
open Go.RowKit
set_option linter.unusedVariables false

theorem blown_files (t : St) : (blown t).2.files = t.files := by
  unfold blown
  split
  · rfl
  · split <;> rfl
structure SureInv (s : ByteArray) (b : List Nat) (t : St) : Prop where
  file : fileAt t 0 = ⟨b, []⟩
  has : 0 < t.files.length
  sure : find t.sure s = some 0
  seen : find t.seen s = some 0
  row : ∀ d ∈ t.row, find d s = some 0
  only : ∀ e ∈ t.seen, e.1 ≠ s → e.2 ≠ 0
section
variable {s : ByteArray} {b : List Nat} {t : St}
theorem SureInv.blown_ (h : SureInv s b t) : SureInv s b (blown t).2 := by
  unfold blown
  split
  · exact ⟨h.file, h.has, h.sure, h.seen, h.row, h.only⟩
  · split
    · exact ⟨h.file, h.has, h.sure, h.seen, h.row, h.only⟩
    · exact ⟨h.file, h.has, h.sure, h.seen, h.row, h.only⟩
theorem SureInv.turn_ (h : SureInv s b t) {d : Dir} (hd : find d s = some 0) (ho : ∀ e ∈ d, e.1 ≠ s → e.2 ≠ 0) : SureInv s b (turn t d).2 := by
  unfold turn
  refine SureInv.blown_ ⟨h.file, h.has, h.sure, hd, fun x hx => ?_, ho⟩
  simp only [List.mem_append, List.mem_singleton] at hx
  rcases hx with hx | rfl
  · exact h.row x hx
  · exact hd
theorem SureInv.set_ (h : SureInv s b t) {n : Nat} (hn : n ≠ 0) (f : File) : SureInv s b { t with files := t.files.set n f } := by
  refine ⟨?_, by simpa using h.has, h.sure, h.seen, h.row, h.only⟩
  have h1 := h.file
  unfold fileAt at h1 ⊢
  simp only
  rw [List.getD_eq_getElem?_getD, List.getElem?_set_ne hn, ← List.getD_eq_getElem?_getD]
  exact h1
theorem SureInv.num (h : SureInv s b t) {u : ByteArray} (hu : u ≠ s) (hg : ¬ (get t u).2 ≠ 0) : (get t u).1 ≠ 0 := by
  obtain ⟨_, hf⟩ := get_ok (t := t) (s := u) (by omega)
  exact h.only _ (find_mem hf) hu
theorem SureInv.add_ (h : SureInv s b t) {n : Nat} (hn : n ≠ 0) (a : Act) : SureInv s b (add t n a).2 := by
  unfold add
  exact SureInv.blown_ (h.set_ hn _)
theorem SureInv.deed (h : SureInv s b t) (o : Op) (h1 : o.name ≠ s) (h2 : o.to ≠ s) : SureInv s b (doOp t o).2 := by
  unfold doOp
  split
  · unfold create; split; · exact h
    split; · exact h
    split; · exact h
    split; · exact h
    have h0 : SureInv s b { t with files := t.files ++ [noFile] } := by
      refine ⟨?_, by simp, h.sure, h.seen, h.row, h.only⟩
      have h1 := h.file
      unfold fileAt at h1 ⊢
      simp only
      rw [List.getD_eq_getElem?_getD, List.getElem?_append_left h.has, ← List.getD_eq_getElem?_getD]
      exact h1
    refine h0.turn_ ((find_with h1).trans h.seen) fun e he hs => ?_
    rcases mem_with.1 he with rfl | he
    · have := h.has; simp only; omega
    · exact h.only e he hs
  split
  · unfold append; split; · exact h
    rename_i hg
    split; · exact h
    exact h.add_ (h.num h1 hg) _
  split
  · unfold write; split; · exact h
    rename_i hg
    split; · exact h
    split; · exact h
    exact h.add_ (h.num h1 hg) _
  split
  · unfold cut; split; · exact h
    rename_i hg
    split; · exact h
    exact h.add_ (h.num h1 hg) _
  split
  · unfold rename; split; · exact h
    rename_i hg
    split; · exact h
    refine h.turn_ ?_ fun e he hs => ?_
    · rw [find_with h2, find_without h2, find_without h1]; exact h.seen
    · rcases mem_with.1 he with rfl | he
      · exact h.num h1 hg
      · exact h.only e (mem_without.1 (mem_without.1 he).1).1 hs
  split
  · unfold remove; split; · exact h
    refine h.turn_ ?_ fun e he hs => ?_
    · rw [find_without h1]; exact h.seen
    · exact h.only e (mem_without.1 he).1 hs
  split
  · unfold sync; split; · exact h
    rename_i hg
    split; · exact h.blown_
    have hb := h.blown_
    have e : (blown t).2.files = t.files := blown_files t
    have := hb.set_ (h.num h1 hg) ⟨now (fileAt t (get t o.name).1), []⟩
    rw [e] at this
    exact this
  split
  · unfold syncDir; split; · exact h
    split; · exact h.blown_
    have hb := h.blown_
    exact ⟨hb.file, hb.has, h.seen, hb.seen, by simp, hb.only⟩
  split
  · unfold arm; split; · exact h
    split; · exact h
    exact ⟨h.file, h.has, h.sure, h.seen, h.row, h.only⟩
  exact h
/-- What is read of it behind a failure. -/
theorem SureInv.left_ (h : SureInv s b t) (l : List Int) (hb : b.length ≤ 1048576) : read (fail t l) s 0 1048576 = (b, 0) := by
  have hd : find (dirOf t l) s = some 0 := by
    rcases dirOf_mem t l with e | e
    · rw [e]; exact h.sure
    · exact h.row _ e
  obtain ⟨l', e⟩ := fail_read hd 1048576 (by decide)
  rw [e, h.file, kept1_none, List.take_of_length_le (by simpa using hb)]
end

/-! ### The first file of a disk -/
/-- A disk of one file that is sure. -/
def oneSure (s : ByteArray) (b : List Nat) (acts : Nat) : St := ⟨1048576, [⟨b, []⟩], [(s, 0)], [], [(s, 0)], acts, 0, false⟩
theorem one1 {s : ByteArray} (h : isName s = true) : create (new 1048576) s = (0, ⟨1048576, [noFile], [], [[(s, 0)]], [(s, 0)], 1, 0, false⟩) := by
  unfold create
  rw [if_neg (by simp [new]), if_neg (by rw [h]; simp), if_neg (by simp [new, find]), if_neg (by simp [new])]
  rfl
def one1S (s : ByteArray) : St := ⟨1048576, [noFile], [], [[(s, 0)]], [(s, 0)], 1, 0, false⟩
theorem get_one {t : St} {s : ByteArray} {n : Nat} {d : Dir} (hd : t.dead = false) (h : t.seen = (s, n) :: d) : get t s = (n, 0) := by
  unfold get find
  rw [hd, h]
  simp
def one2S (s : ByteArray) (b : List Nat) : St := ⟨1048576, [⟨[], [⟨false, 0, b⟩]⟩], [], [[(s, 0)]], [(s, 0)], 2, 0, false⟩
theorem one2 (s : ByteArray) {b : List Nat} (hb : b.length ≤ 1048576) : append (one1S s) s b = (0, one2S s b) := by
  have hg : get (one1S s) s = (0, 0) := get_one rfl rfl
  unfold append
  rw [hg, if_neg (by simp), if_neg (by simp [one1S, used, lens, len, fileAt, noFile, now]; omega)]
  rfl
def one3S (s : ByteArray) (b : List Nat) : St := ⟨1048576, [⟨b, []⟩], [], [[(s, 0)]], [(s, 0)], 3, 0, false⟩
theorem one3 (s : ByteArray) (b : List Nat) : sync (one2S s b) s = (0, one3S s b) := by
  have hg : get (one2S s b) s = (0, 0) := get_one rfl rfl
  unfold sync
  rw [hg, if_neg (by simp)]
  have e : now (fileAt (one2S s b) 0) = b := by simp [one2S, fileAt, now, done]
  rw [show (blown (one2S s b)) = (0, { one2S s b with acts := 3 }) from rfl, if_neg (by simp), e]
  rfl
theorem one4 (s : ByteArray) (b : List Nat) : syncDir (one3S s b) = (0, oneSure s b 4) := rfl
theorem sure_one (s : ByteArray) (b : List Nat) (n : Nat) : SureInv s b (oneSure s b n) :=
  ⟨rfl, by simp [oneSure], by simp [oneSure, find], by simp [oneSure, find], by simp [oneSure], by simp [oneSure]⟩
end Go.Proofs.YtmcbjcbnckpfkaaGreat.Sf
namespace Go.Proofs.YtmcbjcbnckpfkaaGreat
open Go.RowKit
set_option linter.unusedVariables false
namespace Sf
def wk1 : St := (create (new 10) ⟨#[97]⟩).2
def wk2 : St := (append wk1 ⟨#[97]⟩ [97, 98]).2
def wk3 : St := (sync wk2 ⟨#[97]⟩).2
def wk4 : St := (syncDir wk3).2
def wk5 : St := (append wk4 ⟨#[97]⟩ [99, 100]).2
theorem wk1_e : create (new 10) ⟨#[97]⟩ = (0, wk1) := Prod.ext (by decide +kernel) rfl
theorem wk2_e : append wk1 ⟨#[97]⟩ [97, 98] = (0, wk2) := Prod.ext (by decide +kernel) rfl
theorem wk3_e : sync wk2 ⟨#[97]⟩ = (0, wk3) := Prod.ext (by decide +kernel) rfl
theorem wk4_e : syncDir wk3 = (0, wk4) := Prod.ext (by decide +kernel) rfl
theorem wk5_e : append wk4 ⟨#[97]⟩ [99, 100] = (0, wk5) := Prod.ext (by decide +kernel) rfl
theorem wk6_e : read (fail wk5 [0, 0, 1]) ⟨#[97]⟩ 0 9 = ([97, 98, 99], 0) := by decide +kernel
theorem wk_few : Few (new 10) ∧ Few wk1 ∧ Few wk2 ∧ Few wk3 ∧ Few wk4 ∧ Few wk5 := by
  refine ⟨?_, ?_, ?_, ?_, ?_, ?_⟩ <;> (unfold Few; decide +kernel)
end Sf
theorem disk_not_nil (b : Nat) (w : World) : (binOp .eql 23 (.pointer (some ⟨b, 0, none⟩)) (.pointer none)).run Tryz.prog w = .ok (.bool false) w := by
  kernel_rfl
set_option maxRecDepth 100000 in
set_option maxHeartbeats 4000000 in
theorem works_sf (w : World) : Calls Tryz.prog 9 #[] w (IsBool true w) := by
  go_enter Tryz.func9, Tryz.ntmps9
  have HB1 := Lib.hid (Below.refl w.heap.size w)
  have C2 := Lib.hid (pnew_any 10 (by unfold I64; omega) w)
  go_wp2_with fail
  refine C2.out.mono ?_
  intro e4 w3 h
  rw [if_neg (by omega)] at h
  obtain ⟨b5, f6, rfl, hd, hf, hb⟩ := h
  have HF7 := Lib.hid (hf.mono HB1.out.size)
  have HB8 := Lib.hid (HB1.out.trans (hb.mono HB1.out.size))
  have HD9 := Lib.hid hd
  clear HB1 hd hf hb C2
  have hnn := disk_not_nil b5 w3
  have E1 : Hid (Sf.create (Sf.new (10 : Int).toNat) ⟨#[97]⟩ = (0, Sf.wk1)) := Sf.wk1_e
  have C10 := Lib.hid (pcreate_any HD9.out Sf.wk_few.1 ⟨#[97]⟩ (by decide +kernel))
  rw [E1.out] at C10
  go_wp2_with fail
  refine C10.out.mono ?_
  rintro e12 w11 ⟨rfl, f13, hd, hn, ht⟩
  have HB14 := Lib.hid (HF7.out.below HB8.out HB8.out.size ht)
  have HF15 := Lib.hid (hn.from_ HF7.out HB8.out.size)
  have HD16 := Lib.hid hd
  clear HB8 HD9 HF7 hd hn ht C10 hnn E1
  have HM20 : Hid (0 < ([97, 98] : List Nat).length → ∀ k, (Value.slice (some ⟨w11.heap.size, 0, none⟩) 2 2).ownBlock = some k → ¬ f13.M k) := fun _ => (pdisk_law.lt HD16.out).not_new
  have kc17 := Lib.run_convert_bytes_const (P := Tryz.prog) w11 33 5 #[.int .u8 97, .int .u8 98] 2 2 Tryz.underlying33 Tryz.underlying5
  have hb21 : Below w11.heap.size w11 (w11.alloc (.cells #[.int .u8 97, .int .u8 98] 5 (2, 3))) := (Below.refl _ _).alloc (Nat.le_refl _) _
  have hc := const_lv w11 [97, 98] (by decide) (by decide) _ rfl 2 rfl 5 (2, 3)
  change Lv yK (w11.alloc (.cells #[.int .u8 97, .int .u8 98] 5 (2, 3))) _ _ _ at hc
  change _ = Result.ok _ (w11.alloc (.cells #[.int .u8 97, .int .u8 98] 5 (2, 3))) at kc17
  have hzs : (w11.alloc (.cells #[.int .u8 97, .int .u8 98] 5 (2, 3))).heap.size = w11.heap.size + 1 := by simp
  obtain ⟨Z18, hZ⟩ : ∃ Z, w11.alloc (.cells #[.int .u8 97, .int .u8 98] 5 (2, 3)) = Z := ⟨_, rfl⟩
  rw [hZ] at kc17 hb21 hc hzs
  have HB22 := Lib.hid (HB14.out.trans (hb21.mono HB14.out.size))
  have HD23 := Lib.hid (pdisk_law.below HD16.out hb21)
  have V19 := Lib.hid (hc.mono_ (B' := Z18.heap.size) (by omega))
  clear HB14 HD16 hb21 hc
  have C24 := Lib.hid (pappend_any HD23.out Sf.wk_few.2.1 ⟨#[97]⟩ (by decide +kernel) _ _ [97, 98] V19.out (Nat.le_refl _) HM20.out)
  rw [Sf.wk2_e] at C24
  go_wp2_with fail
  refine C24.out.mono ?_
  rintro e26 w25 ⟨rfl, f27, hd, hn, ht⟩
  have HB28 := Lib.hid (HF15.out.below HB22.out HB22.out.size ht)
  have HF29 := Lib.hid (hn.from_ HF15.out HB22.out.size)
  have HD30 := Lib.hid hd
  clear HB22 HD23 HF15 hd hn ht C24 V19 HM20 kc17 hZ hzs
  have C31 := Lib.hid (psync_any HD30.out Sf.wk_few.2.2.1 ⟨#[97]⟩ (by decide +kernel))
  rw [Sf.wk3_e] at C31
  go_wp2_with fail
  refine C31.out.mono ?_
  rintro e33 w32 ⟨rfl, f34, hd, hn, ht⟩
  have HB35 := Lib.hid (HF29.out.below HB28.out HB28.out.size ht)
  have HF36 := Lib.hid (hn.from_ HF29.out HB28.out.size)
  have HD37 := Lib.hid hd
  clear HB28 HD30 HF29 hd hn ht C31
  have C38 := Lib.hid (psyncDir_any HD37.out Sf.wk_few.2.2.2.1)
  rw [Sf.wk4_e] at C38
  go_wp2_with fail
  refine C38.out.mono ?_
  rintro e40 w39 ⟨rfl, f41, hd, hn, ht⟩
  have HB42 := Lib.hid (HF36.out.below HB35.out HB35.out.size ht)
  have HF43 := Lib.hid (hn.from_ HF36.out HB35.out.size)
  have HD44 := Lib.hid hd
  clear HB35 HD37 HF36 hd hn ht C38
  have HM48 : Hid (0 < ([99, 100] : List Nat).length → ∀ k, (Value.slice (some ⟨w39.heap.size, 0, none⟩) 2 2).ownBlock = some k → ¬ f41.M k) := fun _ => (pdisk_law.lt HD44.out).not_new
  have kc45 := Lib.run_convert_bytes_const (P := Tryz.prog) w39 33 5 #[.int .u8 99, .int .u8 100] 2 2 Tryz.underlying33 Tryz.underlying5
  have hb49 : Below w39.heap.size w39 (w39.alloc (.cells #[.int .u8 99, .int .u8 100] 5 (2, 3))) := (Below.refl _ _).alloc (Nat.le_refl _) _
  have hc := const_lv w39 [99, 100] (by decide) (by decide) _ rfl 2 rfl 5 (2, 3)
  change Lv yK (w39.alloc (.cells #[.int .u8 99, .int .u8 100] 5 (2, 3))) _ _ _ at hc
  change _ = Result.ok _ (w39.alloc (.cells #[.int .u8 99, .int .u8 100] 5 (2, 3))) at kc45
  have hzs : (w39.alloc (.cells #[.int .u8 99, .int .u8 100] 5 (2, 3))).heap.size = w39.heap.size + 1 := by simp
  obtain ⟨Z46, hZ⟩ : ∃ Z, w39.alloc (.cells #[.int .u8 99, .int .u8 100] 5 (2, 3)) = Z := ⟨_, rfl⟩
  rw [hZ] at kc45 hb49 hc hzs
  have HB50 := Lib.hid (HB42.out.trans (hb49.mono HB42.out.size))
  have HD51 := Lib.hid (pdisk_law.below HD44.out hb49)
  have V47 := Lib.hid (hc.mono_ (B' := Z46.heap.size) (by omega))
  clear HB42 HD44 hb49 hc
  have C52 := Lib.hid (pappend_any HD51.out Sf.wk_few.2.2.2.2.1 ⟨#[97]⟩ (by decide +kernel) _ _ [99, 100] V47.out (Nat.le_refl _) HM48.out)
  rw [Sf.wk5_e] at C52
  go_wp2_with fail
  refine C52.out.mono ?_
  rintro e54 w53 ⟨rfl, f55, hd, hn, ht⟩
  have HB56 := Lib.hid (HF43.out.below HB50.out HB50.out.size ht)
  have HF57 := Lib.hid (hn.from_ HF43.out HB50.out.size)
  have HD58 := Lib.hid hd
  clear HB50 HD51 HF43 hd hn ht C52 V47 HM48 kc45 hZ hzs
  have hla := Lv.build_ iK w53 [0, 0, 1] (fun x hx => by simp at hx; rcases hx with rfl | rfl <;> (show I64 _; simp [I64])) (by simp [maxLen]) 3 rfl _ rfl _ rfl
  have hab : Below w53.heap.size w53 (w53.alloc (.cells #[.int .i64 0, .int .i64 0, .int .i64 1] 3)) := (Below.refl _ _).alloc (Nat.le_refl _) _
  change Lv iK (w53.alloc (.cells #[.int .i64 0, .int .i64 0, .int .i64 1] 3)) _ _ _ at hla
  have hzs : (w53.alloc (.cells #[.int .i64 0, .int .i64 0, .int .i64 1] 3)).heap.size = w53.heap.size + 1 := by simp
  obtain ⟨Y, hY⟩ : ∃ Y, w53.alloc (.cells #[.int .i64 0, .int .i64 0, .int .i64 1] 3) = Y := ⟨_, rfl⟩
  rw [hY] at hla hab hzs
  have HB59 := Lib.hid (HB56.out.trans (hab.mono HB56.out.size))
  have HD60 := Lib.hid (pdisk_law.below HD58.out hab)
  have CF := Lib.hid (pfail_any HD60.out _ Y.heap.size _ (hla.mono_ (by omega)) (Nat.le_refl _))
  clear HB56 HD58 hla hab hzs
  go_wp2_with fail
  refine CF.out.mono ?_
  rintro e9 w90 ⟨b9, f9, rfl, hd, hf, hb⟩
  have HA61 := Lib.hid ((pdisk_law.lt HD60.out).apart hf)
  have HF62 := Lib.hid (hf.mono HB59.out.size)
  have HB63 := Lib.hid (HB59.out.trans (hb.mono HB59.out.size))
  have HD64 := Lib.hid (pdisk_law.below HD60.out hb)
  have HD65 := Lib.hid hd
  clear HB59 HD60 hd hf hb CF hY
  have CR := Lib.hid (pread_any HD65.out ⟨#[97]⟩ (by decide +kernel) 0 9 (by unfold I64; omega) (by unfold I64; omega))
  rw [Sf.wk6_e] at CR
  go_wp2_with fail
  refine CR.out.mono ?_
  rintro e10 w91 ⟨A, c, rfl, ho, hb⟩
  have HBE := Lib.hid (HB63.out.trans (hb.mono HB63.out.size))
  have kt : (convert 33 9 (.slice A 3 c)).run Tryz.prog w91 = .ok (.string (bstr [97, 98, 99])) w91 := conv_str ho.form_ (by decide)
  have ks : ((bstr [97, 98, 99]).toList == [97, 98, 99]) = true := by decide +kernel
  go_wp2
  trace_state
  go_ret
  exact ⟨rfl, HBE.out⟩
end Go.Proofs.YtmcbjcbnckpfkaaGreat
