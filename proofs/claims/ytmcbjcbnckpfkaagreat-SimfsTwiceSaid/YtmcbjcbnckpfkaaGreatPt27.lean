/-
  RSfC: stookref14: with.
  RSfM: stookref14: acts and files as they lie in memory; what is read of them.
  RSfN: stookref14: a disk as it lies in memory.
-/
import Derived.Test.YtmcbjcbnckpfkaaGreatPt26
import Derived.Test.YtmcbjcbnckpfkaaGreatPt03
import Derived.Test.YtmcbjcbnckpfkaaGreatPt11
import Derived.JoinedCond
import Derived.Test.YtmcbjcbnckpfkaaGreatPt09
import Derived.Test.YtmcbjcbnckpfkaaGreatPt13
import Derived.BigRegion
namespace Go.Proofs.YtmcbjcbnckpfkaaGreat
open Go.RowKit
set_option linter.unusedVariables false
theorem ahead_eq {d : Sf.Dir} {s : ByteArray} {k : Nat} (h : ∀ e ∈ d.take k, Op.bytesLess e.1.toList s.toList = true) (hk : k ≤ d.length) (he : ∀ x, d[k]? = some x → Op.bytesLess x.1.toList s.toList = false) : Sf.ahead d s = k := by
  unfold Sf.ahead
  have e1 : d = d.take k ++ d.drop k := (List.take_append_drop k d).symm
  have e2 : (d.drop k).takeWhile (fun e => Op.bytesLess e.1.toList s.toList) = [] := by
    cases hd : d.drop k with
    | nil => rfl
    | cons x r =>
      have hx : d[k]? = some x := by
        have := congrArg (fun l => l[0]?) hd
        simpa [List.getElem?_drop] using this
      rw [List.takeWhile_cons_of_neg]
      rw [he x hx]; simp
  conv => lhs; rw [e1]
  rw [List.takeWhile_append_of_pos (fun e he => h e he), e2, List.append_nil, List.length_take]
  omega
set_option maxHeartbeats 4000000 in
set_option maxRecDepth 100000 in
theorem rwith_ent (v : Value) (d : Sf.Dir) (B : Nat) (w : World) (hv : Lv eK w B v d) (hB : B ≤ w.heap.size) (s : ByteArray) (hs : s.size ≤ maxLen) (n : Nat) (hn : n < 2199023255552) (hd : d.length ≤ 1048576) :
    Calls Tryz.prog 80 #[v, .string s, .int .i64 (n : Nat)] w (IsL1 eK (Sf.with_ d s n) w) := by
  have H0 := Lib.hid hv
  obtain ⟨A, c, rfl, hc1, hc2, _, _⟩ := hv
  have HN : Hid (OwnL eK w w.heap.size (.slice none 0 0) []) := OwnL.nil_ _ _ _
  have HX : Hid (eK.ok (s, n)) := ⟨hs, hn⟩
  clear hc2
  go_enter Tryz.func80, Tryz.ntmps80
  go_wp2
  go_loop [7] (fun i => ∃ k : Nat, k ≤ d.length ∧ i = .int .i64 (k : Nat) ∧ Hid (∀ e ∈ d.take k, Op.bytesLess e.1.toList s.toList = true)) (fun i => d.length - (intOf i).toNat)
  case atStart => exact ⟨0, by omega, rfl, by simp [Hid]⟩
  case round =>
    obtain ⟨k, hk, rfl, HL⟩ := hrel
    have go : ∀ (he : ∀ x, d[k]? = some x → Op.bytesLess x.1.toList s.toList = false), True := fun _ => trivial
    have hki0 : (0 : Int) ≤ (k : Int) := by omega
    by_cases hmore : ∃ x, d[k]? = some x ∧ Op.bytesLess x.1.toList s.toList = true
    · obtain ⟨x, hq, hless⟩ := hmore
      have hlt : k < d.length := (List.getElem?_eq_some_iff.1 hq).1
      have hki : (k : Int) < (d.length : Int) := by omega
      have wk : IntKind.i64.wrap ((k : Int) + 1) = (k : Int) + 1 := by rw [IntKind.wrap_i64]; omega
      obtain ⟨b, off, x', rfl, hb, hx, hq', hc0, _⟩ := H0.out.ent_ hlt
      rw [hq] at hq'
      obtain rfl := Option.some.inj hq'
      have HL2 : Hid (∀ e ∈ d.take (k + 1), Op.bytesLess e.1.toList s.toList = true) := fun e he => by
        rw [List.take_add_one, hq] at he
        rcases List.mem_append.1 he with he | he
        · exact HL.out e he
        · simp at he; rw [he]; exact hless
      clear hq hx HL go hq'
      go_wp2
      go_round
      case rel => exact ⟨k + 1, by omega, by go_num, HL2⟩
      case measure => simp [intOf]; omega
    · have he : ∀ x, d[k]? = some x → Op.bytesLess x.1.toList s.toList = false := fun x hx => by
        cases hb : Op.bytesLess x.1.toList s.toList with
        | false => rfl
        | true => exact absurd ⟨x, hx, hb⟩ hmore
      have hah := ahead_eq HL.out hk he
      have HE : Hid (Sf.with_ d s n = d.take k ++ ((s, n) :: d.drop k)) := by unfold Hid Sf.with_; rw [hah]
      have k1 := fun w => cut_to eK rfl A d.length c k (by omega) w
      have k2 := fun w => cutAt_to eK rfl A d.length c k (by omega) w
      change ∀ w, (Instr.slice 50 (.slice A d.length c) none (some (.int .i64 (k : Nat))) none).run Tryz.prog w = .ok (.slice A k c) w at k1
      change ∀ w, (Instr.sliceAt 50 (.slice A d.length c) none (some (.int .i64 (k : Nat))) none).run Tryz.prog w = .ok (.slice A k c) w at k2
      obtain ⟨A5, p1, p2, p3, p4⟩ := cut_from eK rfl A d.length c k hk hc1
      change ∀ w, (Instr.slice 50 (.slice A d.length c) (some (.int .i64 (k : Nat))) none none).run Tryz.prog w = .ok (.slice A5 (d.length - k) (c - k)) w at p1
      change ∀ w, (Instr.sliceAt 50 (.slice A d.length c) (some (.int .i64 (k : Nat))) none none).run Tryz.prog w = .ok (.slice A5 (d.length - k) (c - k)) w at p2
      have HT := Lib.hid (H0.out.take_ (k := k) hk)
      have HTL : Hid ((d.take k).length = k) := by unfold Hid; rw [List.length_take]; omega
      have HD := Lib.hid (p3 w B d H0.out)
      have HDL : Hid ((d.drop k).length = d.length - k) := by unfold Hid; rw [List.length_drop]
      obtain ⟨T, hT⟩ : ∃ T, d.take k = T := ⟨_, rfl⟩
      obtain ⟨D, hD⟩ : ∃ D, d.drop k = D := ⟨_, rfl⟩
      rw [hT] at HT HTL HE
      rw [hD] at HD HDL HE
      obtain ⟨m, hm⟩ : ∃ m, d.length - k = m := ⟨_, rfl⟩
      rw [hm] at HD HDL p1 p2
      have hmd : m ≤ d.length := by omega
      have hend : (∃ x, d[k]? = some x) ∨ k = d.length := by
        by_cases h : k < d.length
        · exact .inl ⟨_, List.getElem?_eq_getElem h⟩
        · exact .inr (by omega)
      have HCOND : Hid ((k < d.length → ∃ b off x, A = some ⟨b, off, none⟩ ∧ w.cell? ⟨b, off + k * 2, none⟩ = some (.string x) ∧ Op.bytesLess x.toList s.toList = false)) := fun h => by
        obtain ⟨b, off, x, rfl, hb, hx, hq, hc0, _⟩ := H0.out.ent_ h
        exact ⟨b, off, x.1, rfl, hc0, he x hq⟩
      clear he hmore hah go HL p3 p4 hT hD hend hm
      have fin : ∀ {w1 : World} {A3 : Option Addr} {c3 : Nat}, True := fun {_} {_} {_} => trivial
      by_cases hlt : k < d.length
      · have hki : (k : Int) < (d.length : Int) := by omega
        obtain ⟨b, off, x, rfl, hc0, hless⟩ := HCOND.out hlt
        clear HCOND
        go_wp2_with (at_builtin; go_must (refine wpList_append_m _ eK rfl _ _ rfl w.heap.size _ rfl [] HN.out _ rfl B T HT.out (by rw [HTL.out]; show (0 + k) * 24 ≤ _; omega) (by rw [HTL.out]; simp only [maxLen, List.length_nil]; omega) (Nat.le_refl _) ?_))
        intro A3 c3 w2 hA hG hM
        have hb2 := (Below.refl w.heap.size w).grown hG (Nat.le_refl _) (by intro k hk; cases hk)
        have HA2 := Lib.hid hA
        have HB2 := Lib.hid hb2
        have HD2 := Lib.hid (HD.out.below_ hb2 hB)
        clear hA hG hM hb2 k1 k2 HT HN HD
        go_wp2_with (at_builtin; go_must (refine wpList_push_l _ eK rfl _ _ rfl w.heap.size _ rfl T HA2.out rfl (s, n) HX.out _ rfl _ rfl (by rw [HTL.out]; show (k + 1) * 24 ≤ _; omega) (by rw [HTL.out]; simp only [maxLen]; omega) HB2.out.size ?_))
        intro A4 c4 w3 hA hG
        have hb3 := HB2.out.grown hG HB2.out.size (fun k hk => (HA2.out.lt_ k hk).1)
        have HA3 := Lib.hid hA
        have HB3 := Lib.hid hb3
        have HD3 := Lib.hid (HD2.out.kept_ (row := (Value.slice A3 T.length c3).ownBlock) hG (Nat.le_trans hB HB2.out.size) (fun k hk => Nat.le_trans hB (HA2.out.lt_ k hk).1))
        clear hA hG hb3 HA2 HD2
        go_wp2_with (at_builtin; go_must (refine wpList_append_m _ eK rfl _ _ rfl w.heap.size _ rfl (T ++ [(s, n)]) (by first | exact HA3.out | (rw [List.length_append]; exact HA3.out)) _ rfl B D (by first | exact HD3.out | (rw [HDL.out]; exact HD3.out)) (by rw [List.length_append, HTL.out, HDL.out]; show (k + 1 + m) * 24 ≤ _; omega) (by rw [List.length_append, HTL.out, HDL.out]; simp only [maxLen, List.length_singleton]; omega) HB3.out.size ?_))
        intro A6 c6 w4 hA hG hM
        have hb4 := HB3.out.grown hG HB3.out.size (fun k hk => (HA3.out.lt_ k (by first | exact hk | simpa using hk)).1)
        have HA4 := Lib.hid hA
        have HB4 := Lib.hid hb4
        clear hA hG hM hb4
        go_wp2
        go_ret
        rw [HE.out]
        have h4 := HA4.out
        try simp only [List.append_assoc, List.singleton_append] at h4
        obtain ⟨A7, c7, e7, _⟩ := h4.form_
        exact ⟨A7, c7, by first | exact congrArg Ending.returned e7 | (rw [← e7]; rfl), by rw [← e7]; exact h4, HB4.out⟩
      · have hki : ¬ (k : Int) < (d.length : Int) := by omega
        clear HCOND
        go_wp2_with (at_builtin; go_must (refine wpList_append_m _ eK rfl _ _ rfl w.heap.size _ rfl [] HN.out _ rfl B T HT.out (by rw [HTL.out]; show (0 + k) * 24 ≤ _; omega) (by rw [HTL.out]; simp only [maxLen, List.length_nil]; omega) (Nat.le_refl _) ?_))
        intro A3 c3 w2 hA hG hM
        have hb2 := (Below.refl w.heap.size w).grown hG (Nat.le_refl _) (by intro k hk; cases hk)
        have HA2 := Lib.hid hA
        have HB2 := Lib.hid hb2
        have HD2 := Lib.hid (HD.out.below_ hb2 hB)
        clear hA hG hM hb2 k1 k2 HT HN HD
        go_wp2_with (at_builtin; go_must (refine wpList_push_l _ eK rfl _ _ rfl w.heap.size _ rfl T HA2.out rfl (s, n) HX.out _ rfl _ rfl (by rw [HTL.out]; show (k + 1) * 24 ≤ _; omega) (by rw [HTL.out]; simp only [maxLen]; omega) HB2.out.size ?_))
        intro A4 c4 w3 hA hG
        have hb3 := HB2.out.grown hG HB2.out.size (fun k hk => (HA2.out.lt_ k hk).1)
        have HA3 := Lib.hid hA
        have HB3 := Lib.hid hb3
        have HD3 := Lib.hid (HD2.out.kept_ (row := (Value.slice A3 T.length c3).ownBlock) hG (Nat.le_trans hB HB2.out.size) (fun k hk => Nat.le_trans hB (HA2.out.lt_ k hk).1))
        clear hA hG hb3 HA2 HD2
        go_wp2_with (at_builtin; go_must (refine wpList_append_m _ eK rfl _ _ rfl w.heap.size _ rfl (T ++ [(s, n)]) (by first | exact HA3.out | (rw [List.length_append]; exact HA3.out)) _ rfl B D (by first | exact HD3.out | (rw [HDL.out]; exact HD3.out)) (by rw [List.length_append, HTL.out, HDL.out]; show (k + 1 + m) * 24 ≤ _; omega) (by rw [List.length_append, HTL.out, HDL.out]; simp only [maxLen, List.length_singleton]; omega) HB3.out.size ?_))
        intro A6 c6 w4 hA hG hM
        have hb4 := HB3.out.grown hG HB3.out.size (fun k hk => (HA3.out.lt_ k (by first | exact hk | simpa using hk)).1)
        have HA4 := Lib.hid hA
        have HB4 := Lib.hid hb4
        clear hA hG hM hb4
        go_wp2
        go_ret
        rw [HE.out]
        have h4 := HA4.out
        try simp only [List.append_assoc, List.singleton_append] at h4
        obtain ⟨A7, c7, e7, _⟩ := h4.form_
        exact ⟨A7, c7, by first | exact congrArg Ending.returned e7 | (rw [← e7]; rfl), by rw [← e7]; exact h4, HB4.out⟩
end Go.Proofs.YtmcbjcbnckpfkaaGreat
namespace Go.Proofs.YtmcbjcbnckpfkaaGreat
open Go.RowKit
set_option linter.unusedVariables false
structure RawA where
  cut : Bool
  at_ : Nat
  sl : Sl
structure RawF where
  sure : Sl
  row : Sl
def aK : El Tryz.prog RawA where
  e := 101
  s := 94
  size := 3
  bytes := 40
  zero := .agg #[.bool false, .int .i64 0, .slice none 0 0]
  z := ⟨false, 0, ⟨none, 0, 0⟩⟩
  enc := fun x => [.bool x.cut, .int .i64 (x.at_ : Nat), .slice x.sl.A x.sl.n x.sl.c]
  ok := fun x => x.at_ ≤ 1048576
  len := fun _ => rfl
  one := fun x u hu => by simp at hu; rcases hu with rfl | rfl | rfl <;> rfl
  okz := by simp
  encz := rfl
  pos := by decide
  under := Tryz.underlying94
  info := by kernel_rfl
def fK : El Tryz.prog RawF where
  e := 96
  s := 49
  size := 2
  bytes := 48
  zero := .agg #[.slice none 0 0, .slice none 0 0]
  z := ⟨⟨none, 0, 0⟩, ⟨none, 0, 0⟩⟩
  enc := fun x => [.slice x.sure.A x.sure.n x.sure.c, .slice x.row.A x.row.n x.row.c]
  ok := fun _ => True
  len := fun _ => rfl
  one := fun x u hu => by simp at hu; rcases hu with rfl | rfl <;> rfl
  okz := trivial
  encz := rfl
  pos := by decide
  under := Tryz.underlying49
  info := by kernel_rfl
def rK : El Tryz.prog Sl where
  e := 50
  s := 51
  size := 1
  bytes := 24
  zero := .slice none 0 0
  z := ⟨none, 0, 0⟩
  enc := fun u => [.slice u.A u.n u.c]
  ok := fun _ => True
  len := fun _ => rfl
  one := fun x u hu => by simp at hu; subst hu; rfl
  okz := trivial
  encz := rfl
  pos := by decide
  under := Tryz.underlying51
  info := by kernel_rfl
/-- A file that is read, in blocks below B. -/
structure FileV (w : World) (B : Nat) (x : RawF) (f : Sf.File) : Prop where
  sure : Lv yK w B (slV x.sure) f.sure
  acts : ∃ ra : List RawA, ra.length = f.row.length ∧ Lv aK w B (slV x.row) ra ∧ ∀ (i : Nat) (r : RawA) (a : Sf.Act), ra[i]? = some r → f.row[i]? = some a → r.cut = a.cut ∧ r.at_ = a.at_ ∧ Lv yK w B (slV r.sl) a.b
theorem FileV.below_ {w w' : World} {B B' : Nat} {x : RawF} {f : Sf.File} (h : FileV w B x f) (hb : Below B' w w') (hB : B ≤ B') : FileV w' B x f := by
  obtain ⟨h1, ra, h2, h3, h4⟩ := h
  exact ⟨h1.below_ hb hB, ra, h2, h3.below_ hb hB, fun i r a hr ha => ⟨(h4 i r a hr ha).1, (h4 i r a hr ha).2.1, (h4 i r a hr ha).2.2.below_ hb hB⟩⟩
end Go.Proofs.YtmcbjcbnckpfkaaGreat
namespace Go.Proofs.YtmcbjcbnckpfkaaGreat
open Go.RowKit
set_option linter.unusedVariables false
/-- A slice that reads as a list, in a block of a set. -/
structure Rd {P : Program} {α : Type} (K : El P α) (w : World) (R : Nat → Prop) (v : Value) (l : List α) : Prop where
  lv : Lv K w w.heap.size v l
  blk : 0 < l.length → ∀ k, v.ownBlock = some k → R k
section
variable {P : Program} {α : Type} {K : El P α} {w w' : World} {R R' F : Nat → Prop} {v : Value} {l : List α}
theorem Rd.turned (h : Rd K w R v l) (ht : Turned F w w') (hF : ∀ k, F k → ¬ R k) : Rd K w' R v l :=
  ⟨(h.lv.turnedB_ ht (fun hp k hk hf => hF k hf (h.blk hp k hk))).mono_ ht.size, h.blk⟩
theorem Rd.mono (h : Rd K w R v l) (hR : ∀ k, R k → R' k) : Rd K w R' v l := ⟨h.lv, fun hp k hk => hR k (h.blk hp k hk)⟩
theorem Rd.of_own {n : Nat} (h : OwnL K w n v l) (hR : ∀ k, n ≤ k → k < w.heap.size → R k) : Rd K w R v l := ⟨h.form_, fun _ k hk => hR k (h.lt_ k hk).1 (h.lt_ k hk).2⟩
theorem Rd.nil_ (w : World) (R : Nat → Prop) : Rd K w R (.slice none 0 0) [] := ⟨Lv.nil_ _ _ _, fun h => by simp at h⟩
end
/-- A file of a disk. -/
structure HasFile (w : World) (fp : Fp) (x : RawF) (f : Sf.File) : Prop where
  sure : Rd yK w fp.R (slV x.sure) f.sure
  acts : ∃ ra : List RawA, ra.length = f.row.length ∧ OwnL aK w 0 (slV x.row) ra ∧ ∀ (i : Nat) (r : RawA) (a : Sf.Act), ra[i]? = some r → f.row[i]? = some a → r.cut = a.cut ∧ r.at_ = a.at_ ∧ Rd yK w fp.R (slV r.sl) a.b
  mine : ∀ k, (slV x.row).ownBlock = some k → fp.M k
  ok : FileOk f
theorem HasFile.turned {w w' : World} {fp : Fp} {x : RawF} {f : Sf.File} {F : Nat → Prop} (h : HasFile w fp x f) (ht : Turned F w w') (hR : ∀ k, F k → ¬ fp.R k) (hM : ∀ k, (slV x.row).ownBlock = some k → ¬ F k) : HasFile w' fp x f := by
  obtain ⟨h1, ⟨ra, h2, h3, h4⟩, h5, h6⟩ := h
  exact ⟨h1.turned ht hR, ⟨ra, h2, h3.turned_ ht hM, fun i r a hr ha => ⟨(h4 i r a hr ha).1, (h4 i r a hr ha).2.1, (h4 i r a hr ha).2.2.turned ht hR⟩⟩, h5, h6⟩
theorem HasFile.read {w : World} {fp : Fp} {x : RawF} {f : Sf.File} (h : HasFile w fp x f) : FileV w w.heap.size x f := by
  obtain ⟨h1, ⟨ra, h2, h3, h4⟩, _, _⟩ := h
  exact ⟨h1.lv, ra, h2, h3.form_, fun i r a hr ha => ⟨(h4 i r a hr ha).1, (h4 i r a hr ha).2.1, (h4 i r a hr ha).2.2.lv⟩⟩
/-- The files and the directories of a disk. -/
structure Body (w : World) (fp : Fp) (t : Sf.St) (vf vs vr vu : Value) (rf : List RawF) (rr : List Sl) : Prop where
  nfiles : rf.length = t.files.length
  files : OwnL fK w 0 vf rf
  file : ∀ (i : Nat) (x : RawF) (f : Sf.File), rf[i]? = some x → t.files[i]? = some f → HasFile w fp x f
  filesM : ∀ k, vf.ownBlock = some k → fp.M k
  apart : ∀ (i j : Nat) (x y : RawF), i ≠ j → rf[i]? = some x → rf[j]? = some y → Apart (slV x.row) (slV y.row)
  nrow : rr.length = t.row.length
  row : OwnL rK w 0 vr rr
  rows : ∀ (i : Nat) (u : Sl) (d : Sf.Dir), rr[i]? = some u → t.row[i]? = some d → Rd eK w fp.R (slV u) d
  rowM : ∀ k, vr.ownBlock = some k → fp.M k
  seen : Rd eK w fp.R vu t.seen
  sure : Rd eK w fp.R vs t.sure
theorem Body.turned {w w' : World} {fp : Fp} {t : Sf.St} {vf vs vr vu : Value} {rf : List RawF} {rr : List Sl} {F : Nat → Prop} (h : Body w fp t vf vs vr vu rf rr) (ht : Turned F w w') (hR : ∀ k, F k → ¬ fp.R k)
    (hf : ∀ k, vf.ownBlock = some k → ¬ F k) (hr : ∀ k, vr.ownBlock = some k → ¬ F k) (ha : ∀ (i : Nat) (x : RawF), rf[i]? = some x → ∀ k, (slV x.row).ownBlock = some k → ¬ F k) : Body w' fp t vf vs vr vu rf rr where
  nfiles := h.nfiles
  files := h.files.turned_ ht hf
  file := fun i x f hx hq => (h.file i x f hx hq).turned ht hR (ha i x hx)
  filesM := h.filesM
  apart := h.apart
  nrow := h.nrow
  row := h.row.turned_ ht hr
  rows := fun i u d hu hd => (h.rows i u d hu hd).turned ht hR
  rowM := h.rowM
  seen := h.seen.turned ht hR
  sure := h.sure.turned ht hR
/-- What may be: numbers of files that are there, few names, no more than there is room for. -/
structure Good (t : Sf.St) : Prop where
  room : t.room ≤ 1048576
  files : t.files.length ≤ 64 + t.acts
  rows : t.row.length ≤ t.acts
  acts : t.acts ≤ 1099511627776
  fuse : t.fuse < 9223372036854775808
  sure : t.sure.length ≤ 64 ∧ ∀ e ∈ t.sure, e.2 < t.files.length
  seen : t.seen.length ≤ 64 ∧ ∀ e ∈ t.seen, e.2 < t.files.length
  row : ∀ d ∈ t.row, d.length ≤ 64 ∧ ∀ e ∈ d, e.2 < t.files.length
  frow : ∀ f ∈ t.files, f.row.length ≤ t.acts
  inv : Sf.Inv t
def headC (t : Sf.St) (vf vs vr vu : Value) : Array Value := #[.int .i64 (t.room : Nat), vf, vs, vr, vu, .int .i64 (t.acts : Nat), .int .i64 (t.fuse : Nat), .bool t.dead]
structure RHas (w : World) (fp : Fp) (t : Sf.St) (b : Nat) (vf vs vr vu : Value) (rf : List RawF) (rr : List Sl) : Prop where
  head : w.heap[b]? = some (.cells (headC t vf vs vr vu) 53 (0, 0))
  body : Body w fp t vf vs vr vu rf rr
  good : Good t
  mine : fp.M b
  lt : fp.Lt w.heap.size
  sep : ∀ k, fp.M k → ¬ fp.R k
def RDiskM (w : World) (fp : Fp) (t : Sf.St) (b : Nat) : Prop := ∃ vf vs vr vu rf rr, RHas w fp t b vf vs vr vu rf rr
theorem rdiskM_lt {w : World} {f : Fp} {t : Sf.St} {b : Nat} (h : RDiskM w f t b) : f.Lt w.heap.size := by obtain ⟨_, _, _, _, _, _, h⟩ := h; exact h.lt
theorem rdiskM_sep {w : World} {f : Fp} {t : Sf.St} {b : Nat} (h : RDiskM w f t b) : ∀ k, f.M k → ¬ f.R k := by obtain ⟨_, _, _, _, _, _, h⟩ := h; exact h.sep
theorem Body.rowMs {w : World} {fp : Fp} {t : Sf.St} {vf vs vr vu : Value} {rf : List RawF} {rr : List Sl} (h : Body w fp t vf vs vr vu rf rr) (i : Nat) (x : RawF) (hx : rf[i]? = some x) (k : Nat) (hk : (slV x.row).ownBlock = some k) : fp.M k := by
  have hi : i < t.files.length := by have := (List.getElem?_eq_some_iff.1 hx).1; have := h.nfiles; omega
  exact (h.file i x _ hx (List.getElem?_eq_getElem hi)).mine k hk
theorem rdiskM_turned {w w' : World} {f : Fp} {t : Sf.St} {b : Nat} {F : Nat → Prop} (h : RDiskM w f t b) (ht : Turned F w w') (hF : f.Off F) : RDiskM w' f t b := by
  obtain ⟨vf, vs, vr, vu, rf, rr, h⟩ := h
  have hb : b < w.heap.size := h.lt b (.inl h.mine)
  refine ⟨vf, vs, vr, vu, rf, rr, (ht.block b hb (fun hf => (hF b hf).1 h.mine)).trans h.head, ?_, h.good, h.mine, fun k hk => Nat.lt_of_lt_of_le (h.lt k hk) ht.size, h.sep⟩
  exact h.body.turned ht (fun k hk => (hF k hk).2) (fun k hk hf => (hF k hf).1 (h.body.filesM k hk)) (fun k hk hf => (hF k hf).1 (h.body.rowM k hk)) (fun i x hx k hk hf => (hF k hf).1 (h.body.rowMs i x hx k hk))
theorem rdiskM_law : DiskLaw RDiskM := ⟨rdiskM_lt, rdiskM_turned, rdiskM_sep⟩
/-- A list of one's own is in no block of another kind. -/
theorem own_kind {P : Program} {α : Type} {K : El P α} {w : World} {base b : Nat} {v : Value} {l : List α} {cs : Array Value} {T : TypeId} {fr : Nat × Nat} (h : OwnL K w base v l) (hb : w.heap[b]? = some (.cells cs T fr)) (hT : T ≠ K.e) : v.ownBlock ≠ some b := by
  intro e
  rcases h.2 with ⟨rfl, _⟩ | ⟨g, s, rfl, _, _, _, hh⟩
  · cases e
  · have eg : g = b := Option.some.inj e
    subst eg
    rw [hb] at hh
    injection hh with hh
    injection hh with _ hh _
    exact hT hh
section
variable {w : World} {f : Fp} {t : Sf.St} {b : Nat}
theorem RHas.cell {vf vs vr vu : Value} {rf : List RawF} {rr : List Sl} (h : RHas w f t b vf vs vr vu rf rr) {j : Nat} {u : Value} (hj : (headC t vf vs vr vu)[j]? = some u) : w.cell? ⟨b, j, none⟩ = some u := by
  rw [cell_of_row _ b j _ _ _ h.head]
  exact hj
set_option maxHeartbeats 1000000 in
set_option maxRecDepth 100000 in
theorem racts_disk (h : RDiskM w f t b) : Calls Tryz.prog 47 #[.pointer (some ⟨b, 0, none⟩)] w (IsNum t.acts w) := by
  obtain ⟨vf, vs, vr, vu, rf, rr, h⟩ := h
  have h5 : w.cell? ⟨b, 5, none⟩ = some (.int .i64 (t.acts : Nat)) := h.cell rfl
  clear h
  go_enter Tryz.func47, Tryz.ntmps47
  go_wp2
  go_ret
  exact ⟨rfl, Below.refl _ _⟩
set_option maxHeartbeats 1000000 in
set_option maxRecDepth 100000 in
theorem rdead_disk (h : RDiskM w f t b) : Calls Tryz.prog 49 #[.pointer (some ⟨b, 0, none⟩)] w (IsBool t.dead w) := by
  obtain ⟨vf, vs, vr, vu, rf, rr, h⟩ := h
  have h7 : w.cell? ⟨b, 7, none⟩ = some (.bool t.dead) := h.cell rfl
  clear h
  go_enter Tryz.func49, Tryz.ntmps49
  go_wp2
  go_ret
  exact ⟨rfl, Below.refl _ _⟩
set_option maxHeartbeats 1000000 in
set_option maxRecDepth 100000 in
theorem rroom_disk (h : RDiskM w f t b) : Calls Tryz.prog 45 #[.pointer (some ⟨b, 0, none⟩)] w (IsNum (Sf.roomOf t) w) := by
  obtain ⟨vf, vs, vr, vu, rf, rr, h⟩ := h
  have h7 : w.cell? ⟨b, 7, none⟩ = some (.bool t.dead) := h.cell rfl
  have h0 : w.cell? ⟨b, 0, none⟩ = some (.int .i64 (t.room : Nat)) := h.cell rfl
  clear h
  cases hd : t.dead with
  | true =>
    have HR : Hid (Sf.roomOf t = 0) := by unfold Hid Sf.roomOf; rw [hd]; rfl
    rw [hd] at h7
    clear hd
    go_enter Tryz.func45, Tryz.ntmps45
    go_wp2
    go_ret
    exact ⟨by rw [HR.out]; rfl, Below.refl _ _⟩
  | false =>
    have HR : Hid (Sf.roomOf t = t.room) := by unfold Hid Sf.roomOf; rw [hd]; rfl
    rw [hd] at h7
    clear hd
    go_enter Tryz.func45, Tryz.ntmps45
    go_wp2
    go_ret
    exact ⟨by rw [HR.out]; rfl, Below.refl _ _⟩
end
end Go.Proofs.YtmcbjcbnckpfkaaGreat
