/-
  RtpB: root.lay.
  RtQ: Plain mathematics of the program's root: seven numbers read one behind the other; where one can't be read it is nought, and the place stays.
  Turn: What a call turns: a set of blocks; what lies elsewhere stays.
-/
import Derived.Test.YtoefogmjekcbeaaPk19
import Derived.Test.YtoefogmjekcbeaaPk16
import Derived.Test.YtoefogmjekcbeaaPk04
import Derived.Test.YtoefogmjekcbeaaPk10
import Derived.Test.YtoefogmjekcbeaaPk18
import Derived.Outline
import Derived.Test.YtoefogmjekcbeaaPk02
import Derived.Deep.MidRow
namespace Go.Proofs.Ytoefogmjekcbeaa
open Go.RowKit
set_option linter.unusedVariables false
theorem index7 (c : Array Value) (k : Nat) (v : Value) (hk : k < 7) (hv : c[k]? = some v) (w : World) : (Instr.index 55 (.agg c) (.int .i64 k)).run Try.prog w = .ok v w := by
  have h1 : (0 : Int) ≤ (k : Int) := by omega
  have h3 : (k : Int) < 7 := by omega
  simp [go_sem, Instr.index, part, hv, h1]
  intro h
  omega
def ncs (l : List Nat) : Array Value := (l.map fun n => Value.int .u64 (n : Nat)).toArray
theorem ncs_at {l : List Nat} {k x : Nat} (h : l[k]? = some x) : (ncs l)[k]? = some (.int .u64 (x : Nat)) := by simp [ncs, h]
theorem ncs_built (a b c d e f g : Nat) :
    Try.prog.built 55 [(0, .int .u64 (a : Nat)), (1, .int .u64 (b : Nat)), (2, .int .u64 (c : Nat)), (3, .int .u64 (d : Nat)), (4, .int .u64 (e : Nat)), (5, .int .u64 (f : Nat)), (6, .int .u64 (g : Nat))] = some (ncs [a, b, c, d, e, f, g]) := by kernel_rfl
set_option maxHeartbeats 2000000 in
set_option maxRecDepth 100000 in
theorem prtlay_any (r : Rt.Root) (w : World) (hm : Rt.May r) : Calls Try.prog 19 #[.agg (rtC r)] w (IsL1 yK (Rt.bys (Rt.nums r)) w) := by
  obtain ⟨W, hW⟩ : ∃ W, w.alloc (.cells (rtC r) 24) = W := ⟨_, rfl⟩
  obtain ⟨hx, hb⟩ := bxt_new hW
  have HB := Lib.hid hb
  have HB64 := Lib.hid (Rt.nums_b64 hm)
  have c0 : W.cell? ⟨w.heap.size, 0, none⟩ = some (.int .u64 (r.seq : Nat)) := hx.2.cell 0
  have c1 : W.cell? ⟨w.heap.size, 1, none⟩ = some (.int .i64 r.page) := hx.2.cell 1
  have c2 : W.cell? ⟨w.heap.size, 2, none⟩ = some (.int .i64 r.pages) := hx.2.cell 2
  have c3 : W.cell? ⟨w.heap.size, 3, none⟩ = some (.int .u64 (r.lsn : Nat)) := hx.2.cell 3
  have c4 : W.cell? ⟨w.heap.size, 4, none⟩ = some (.int .u64 (r.next : Nat)) := hx.2.cell 4
  have c5 : W.cell? ⟨w.heap.size, 5, none⟩ = some (.int .i64 r.shard) := hx.2.cell 5
  have c6 : W.cell? ⟨w.heap.size, 6, none⟩ = some (.int .i64 r.tail) := hx.2.cell 6
  obtain ⟨D, hD⟩ : ∃ D, rtC r = D := ⟨_, rfl⟩
  rw [hD] at hW ⊢
  obtain ⟨h1, h2, h3, h4, h5, h6, h7, h8, h9, h10, h11, h12⟩ := hm
  clear hx hb hD
  obtain ⟨seq, page, pages, lsn, next, shard, tail⟩ := r
  simp only at h1 h2 h3 h4 h5 h6 h7 h8 h9 h10 h11 h12 c0 c1 c2 c3 c4 c5 c6
  obtain ⟨n1, rfl⟩ := Int.eq_ofNat_of_zero_le (show 0 ≤ page by omega)
  obtain ⟨n2, rfl⟩ := Int.eq_ofNat_of_zero_le (show 0 ≤ pages by omega)
  obtain ⟨n5, rfl⟩ := Int.eq_ofNat_of_zero_le h9
  obtain ⟨n6, rfl⟩ := Int.eq_ofNat_of_zero_le h11
  have u1 : IntKind.u64.wrap (n1 : Int) = (n1 : Int) := by rw [IntKind.wrap_u64]; omega
  have u2 : IntKind.u64.wrap (n2 : Int) = (n2 : Int) := by rw [IntKind.wrap_u64]; omega
  have u5 : IntKind.u64.wrap (n5 : Int) = (n5 : Int) := by rw [IntKind.wrap_u64]; omega
  have u6 : IntKind.u64.wrap (n6 : Int) = (n6 : Int) := by rw [IntKind.wrap_u64]; omega
  have HNS : Hid (Rt.nums ⟨seq, n1, n2, lsn, next, n5, n6⟩ = [seq, n1, n2, lsn, next, n5, n6]) := by unfold Hid Rt.nums; simp
  rw [HNS.out] at HB64 ⊢
  obtain ⟨ns, hns⟩ : ∃ ns, [seq, n1, n2, lsn, next, n5, n6] = ns := ⟨_, rfl⟩
  have hn7 : ns.length = 7 := by rw [← hns]; rfl
  rw [hns] at HB64 ⊢
  have HN7 := Lib.hid hn7
  have HIX : Hid (∀ (k x : Nat), k < 7 → ns[k]? = some x → ∀ w, (Instr.index 55 (.agg #[.int .u64 (seq : Nat), .int .u64 (n1 : Nat), .int .u64 (n2 : Nat), .int .u64 (lsn : Nat), .int .u64 (next : Nat), .int .u64 (n5 : Nat), .int .u64 (n6 : Nat)]) (.int .i64 k)).run Try.prog w = .ok (.int .u64 (x : Nat)) w) := fun k x hk hx w => by
    have hc := ncs_at hx
    rw [← hns] at hc
    exact index7 _ k _ hk hc w
  clear hns hn7 HNS h1 h2 h3 h4 h5 h6 h7 h8 h9 h10 h11 h12
  go_enter Try.func19, Try.ntmps19
  go_wp2
  clear c0 c1 c2 c3 c4 c5 c6 u1 u2 u5 u6 hW
  have hput : Hid (∀ n w, Mt.B64 n → Calls Try.prog 32 #[.int .u64 (n : Nat)] w (IsFresh (Mt.put n) w)) := fun n w h => put_any n h w
  have HWY : Hid (w.heap.size ≤ W.heap.size) := HB.out.size
  go_loopw [3, 25] (fun s i wr => ∃ (k : Nat) (A5 : Option Addr) (c5 : Nat) (l : List Nat), k ≤ 7 ∧ Hid (l = Rt.bys (ns.take k)) ∧ s = .slice A5 l.length c5 ∧ i = .int .i64 (k : Nat) ∧ Hid (OwnL yK wr W.heap.size (.slice A5 l.length c5) l) ∧ Hid (Below W.heap.size W wr)) (fun _ i _ => 7 - (intOf i).toNat)
  case atStart => exact ⟨0, none, 0, [], by omega, by simp [Hid, Rt.bys], rfl, rfl, OwnL.nil_ _ _ _, Below.refl _ _⟩
  case round =>
    obtain ⟨k, A5, c5, l, hk, HLk, rfl, rfl, HO, HBr⟩ := hrel
    have HZr : Hid (W.heap.size ≤ wr.heap.size) := HBr.out.size
    by_cases hlt : k < 7
    · have hln := HN7.out
      obtain ⟨x, hx⟩ : ∃ x, ns[k]? = some x := ⟨_, List.getElem?_eq_getElem (by omega)⟩
      have hix := HIX.out k x hlt hx
      have hB := HB64.out x (List.mem_of_getElem? hx)
      have HPx := Lib.hid (hput.out x wr hB)
      have hll : l.length ≤ 70 := by
        rw [HLk.out]
        have := Rt.bys_len (ns.take k)
        rw [List.length_take] at this
        omega
      have hpl := Mt.put_len_le x
      have HLS : Hid (l ++ Mt.put x = Rt.bys (ns.take (k + 1))) := by
        unfold Hid
        rw [HLk.out, take_snoc hx, Rt.bys_snoc]
      have HK := Lib.hid hk
      have j5 : (k : Int) < 7 := by omega
      have j6 : (0 : Int) ≤ (k : Int) := by omega
      clear hln hx HLk hk
      go_wp2_with fail
      refine HPx.out.mono ?_
      rintro e w4 ⟨A4, c4, rfl, ho4, hb4⟩
      have HO4 := Lib.hid (HO.out.below_ hb4 (Nat.le_refl _))
      have HS4 := Lib.hid (ho4.form_.lv_)
      have HB4 := Lib.hid (HBr.out.trans (hb4.mono HBr.out.size))
      have HZ4 : Hid (W.heap.size ≤ w4.heap.size) := Nat.le_trans HZr.out hb4.size
      clear ho4 hb4 HPx HO
      go_wp2_with (at_builtin; go_must (refine wpList_append_l _ yK rfl _ _ rfl W.heap.size _ rfl l HO4.out _ rfl _ (Mt.put x) HS4.out (by show _ * 1 ≤ _; omega) (by simp only [maxLen]; omega) HZ4.out ?_; intro A6 c6 w6 hA6 hG6))
      have hl6 : (l ++ Mt.put x).length = l.length + (Mt.put x).length := by simp
      go_roundw
      case rel =>
        refine ⟨k + 1, A6, c6, l ++ Mt.put x, by omega, HLS.out, by rw [hl6], by go_num, hA6, HB4.out.grown hG6 HZ4.out (fun k hk => (HO4.out.lt_ k hk).1)⟩
      case measure => simp [intOf]; omega
    · obtain rfl : k = 7 := by omega
      have hl : l = Rt.bys ns := by rw [HLk.out, List.take_of_length_le (by have := HN7.out; omega)]
      have j5 : ¬ ((7 : Nat) : Int) < 7 := by omega
      have HBw : Hid (Below w.heap.size w wr) := HB.out.trans (HBr.out.mono HWY.out)
      have HO2 := Lib.hid (HO.out.mono_ HWY.out)
      clear HLk hlt hk HO HBr hput HB64
      subst hl
      go_wp2
      go_ret
      exact ⟨A5, c5, rfl, HO2.out, HBw.out⟩
end Go.Proofs.Ytoefogmjekcbeaa
namespace Go.Proofs.Ytoefogmjekcbeaa.Rt
def qn (b : List Nat) (a : Nat) : Nat := if (Mt.get b (a : Nat)).2.2 ≠ 0 then 0 else (Mt.get b (a : Nat)).1
def qa (b : List Nat) (a : Nat) : Nat := if (Mt.get b (a : Nat)).2.2 ≠ 0 then a else (Mt.get b (a : Nat)).2.1
def qs (b : List Nat) : Nat → Nat → List Nat
  | 0, _ => []
  | k + 1, a => qn b a :: qs b k (qa b a)
def sg (n : Nat) : Int := IntKind.i64.wrap (n : Int)
def ofQ (l : List Nat) : Root := ⟨l.getD 0 0, sg (l.getD 1 0), sg (l.getD 2 0), l.getD 3 0, l.getD 4 0, sg (l.getD 5 0), sg (l.getD 6 0)⟩
def rootQ (b : List Nat) : Root := ofQ (qs b 7 0)
theorem rootQ_at {b : List Nat} {p1 p2 p3 p4 p5 p6 : Nat} (h1 : qa b 0 = p1) (h2 : qa b p1 = p2) (h3 : qa b p2 = p3) (h4 : qa b p3 = p4) (h5 : qa b p4 = p5) (h6 : qa b p5 = p6) :
    rootQ b = ⟨qn b 0, sg (qn b p1), sg (qn b p2), qn b p3, qn b p4, sg (qn b p5), sg (qn b p6)⟩ := by
  simp only [rootQ, ofQ, qs, List.getD_cons_zero, List.getD_cons_succ, h1, h2, h3, h4, h5, h6]
theorem qs_len (b : List Nat) : ∀ k a, (qs b k a).length = k := by
  intro k
  induction k with
  | zero => intro a; rfl
  | succ k ih => intro a; simp [qs, ih]
theorem qn_b64 {b : List Nat} (hb : ∀ x ∈ b, x < 256) (a : Nat) : Mt.B64 (qn b a) := by
  unfold qn
  rcases Mt.get_cases hb (a : Nat) with ⟨e, h1, -, h⟩ | ⟨k, n, r, -, -, hn, -, -, h⟩
  · rw [h, if_pos (by show e ≠ 0; omega)]; unfold Mt.B64; omega
  · rw [h, if_neg (by simp)]; exact hn
theorem rd_qs {b : List Nat} (hb : ∀ x ∈ b, x < 256) : ∀ (k i a : Nat) (l l' : List Nat) (e : Nat), a ≤ b.length → rd b k i a l = some (l', e) →
    l' = l ++ qs b k a ∧ e ≤ b.length ∧ b.drop a = bys (qs b k a) ++ b.drop e ∧ ∀ j n, (qs b k a)[j]? = some n → ¬ Bad (i + j) n := by
  intro k
  induction k with
  | zero =>
    intro i a l l' e ha h
    simp only [rd, Option.some.injEq, Prod.mk.injEq] at h
    obtain ⟨rfl, rfl⟩ := h
    simp [qs, bys, ha]
  | succ k ih =>
    intro i a l l' e ha h
    rw [rd] at h
    rcases Mt.get_cases hb (a : Nat) with ⟨x, h1, -, hg⟩ | ⟨m, n, r, hm, hml, hn, hd, hle, hg⟩
    · rw [hg, if_pos (.inl (by show x ≠ 0; omega))] at h
      cases h
    · obtain rfl : a = m := by omega
      have hqn : qn b a = n := by unfold qn; rw [hg, if_neg (by simp)]
      have hqa : qa b a = a + (Mt.put n).length := by unfold qa; rw [hg, if_neg (by simp)]
      rw [hg] at h
      by_cases hbad : Bad i n
      · rw [if_pos (.inr hbad)] at h; cases h
      · rw [if_neg (by intro h'; rcases h' with h' | h'; exact h' rfl; exact hbad h')] at h
        obtain ⟨h1, h2, h3, h4⟩ := ih (i + 1) _ _ _ _ hle h
        rw [qs, hqn, hqa]
        refine ⟨by rw [h1]; simp, h2, ?_, ?_⟩
        · have h5 : b.drop (a + (Mt.put n).length) = r := by
            rw [← List.drop_drop, hd, List.drop_left]
          rw [hd, bys, List.append_assoc, ← h3, h5]
        · intro j x hx
          cases j with
          | zero => simp at hx; subst hx; exact hbad
          | succ j =>
            have := h4 j x (by simpa using hx)
            rwa [show i + 1 + j = i + (j + 1) by omega] at this
theorem sg_ok {i n : Nat} (h : ¬ Bad i n) (h0 : i ≠ 0) (h3 : i ≠ 3) : sg n = (n : Int) := by
  unfold Bad at h
  unfold sg
  rw [IntKind.wrap_i64]
  omega
theorem seven {l : List Nat} (h : l.length = 7) : ∃ a b c d e f g, l = [a, b, c, d, e, f, g] := by
  match l, h with
  | [a, b, c, d, e, f, g], _ => exact ⟨a, b, c, d, e, f, g, rfl⟩
theorem nums_ofN {l : List Nat} (h : l.length = 7) : nums (ofN l) = l := by
  obtain ⟨a, b, c, d, e, f, g, rfl⟩ := seven h
  simp [nums, ofN]
theorem getE_q {place : Int} {b c : List Nat} {k : Nat} (hp : ¬ (place ≠ 0 ∧ place ≠ 1)) (hg : Pg.getE place b = (k, c, 0)) (hc : ∀ x ∈ c, x < 256) :
    getE place b = if k = 1 ∧ (((rootQ c).seq % 2 : Nat) : Int) = place ∧ May (rootQ c) ∧ c = bys (nums (rootQ c)) then (rootQ c, 0) else (zero, 5) := by
  by_cases hk : k = 1
  · subst hk
    by_cases hx : (1 : Nat) = 1 ∧ (((rootQ c).seq % 2 : Nat) : Int) = place ∧ May (rootQ c) ∧ c = bys (nums (rootQ c))
    · rw [if_pos hx]
      obtain ⟨-, h1, h2, h3⟩ := hx
      have hr := rd_put (nums (rootQ c)) [] [] 0 [] (nums_b64 h2) (nums_ok h2)
      rw [List.nil_append, List.append_nil, List.nil_append, List.length_nil, Nat.zero_add, ← h3] at hr
      have hr' : rd c 7 0 0 [] = some (nums (rootQ c), c.length) := hr
      rw [getE_ok hp hg hr' ⟨rfl, by rw [ofN_nums h2]; exact h2, by rw [ofN_nums h2]; exact h1⟩, ofN_nums h2]
    · rw [if_neg hx]
      cases hr : rd c 7 0 0 [] with
      | none => exact getE_none hp hg hr
      | some x =>
        obtain ⟨l, a⟩ := x
        refine getE_bad hp hg hr (fun h => hx ?_)
        obtain ⟨h1, h2, h3⟩ := h
        obtain ⟨q1, -, q3, q4⟩ := rd_qs hc 7 0 0 [] l a (Nat.zero_le _) hr
        rw [List.nil_append] at q1
        have hl7 : l.length = 7 := by rw [q1]; exact qs_len c 7 0
        have hroot : rootQ c = ofN l := by
          unfold rootQ
          rw [← q1]
          rw [← q1] at q4
          obtain ⟨x0, x1, x2, x3, x4, x5, x6, rfl⟩ := seven hl7
          have s1 := sg_ok (q4 1 x1 rfl) (by omega) (by omega)
          have s2 := sg_ok (q4 2 x2 rfl) (by omega) (by omega)
          have s5 := sg_ok (q4 5 x5 rfl) (by omega) (by omega)
          have s6 := sg_ok (q4 6 x6 rfl) (by omega) (by omega)
          simp [ofQ, ofN, s1, s2, s5, s6]
        rw [hroot]
        refine ⟨rfl, h3, h2, ?_⟩
        rw [nums_ofN hl7, q1]
        rw [h1, List.drop_zero, List.drop_length, List.append_nil] at q3
        exact q3
  · rw [if_neg (fun h => hk h.1)]
    exact getE_kind hp hg hk
theorem qa_le {b : List Nat} (hb : ∀ x ∈ b, x < 256) {a : Nat} (ha : a ≤ b.length) : qa b a ≤ b.length := by
  unfold qa
  rcases Mt.get_cases hb (a : Nat) with ⟨e, h1, -, h⟩ | ⟨k, n, r, hk, -, hn, -, hle, h⟩
  · rw [h, if_pos (by show e ≠ 0; omega)]; exact ha
  · rw [h, if_neg (by simp)]; exact hle
end Go.Proofs.Ytoefogmjekcbeaa.Rt
namespace Go.Proofs.Ytoefogmjekcbeaa
open Go.RowKit
set_option linter.unusedVariables false

/-- Only blocks of F, and new ones, have been turned. -/
structure Turned (F : Nat → Prop) (w w' : World) : Prop where
  os : w'.os = w.os
  tape : w'.tape = w.tape
  output : w'.output = w.output
  size : w.heap.size ≤ w'.heap.size
  block : ∀ k, k < w.heap.size → ¬ F k → w'.heap[k]? = w.heap[k]?

section
variable {P : Program} {α : Type} {K : El P α} {w w1 w' : World} {F G : Nat → Prop}
theorem Turned.refl (F : Nat → Prop) (w : World) : Turned F w w := ⟨rfl, rfl, rfl, Nat.le_refl _, fun _ _ _ => rfl⟩
theorem Turned.trans (h : Turned F w w1) (h2 : Turned G w1 w') (hFG : ∀ k, k < w.heap.size → G k → F k) : Turned F w w' :=
  ⟨h2.os.trans h.os, h2.tape.trans h.tape, h2.output.trans h.output, Nat.le_trans h.size h2.size, fun k hk hn => (h2.block k (Nat.lt_of_lt_of_le hk h.size) (fun hg => hn (hFG k hk hg))).trans (h.block k hk hn)⟩
theorem Turned.mono (h : Turned F w w') (hFG : ∀ k, k < w.heap.size → F k → G k) : Turned G w w' := ⟨h.os, h.tape, h.output, h.size, fun k hk hn => h.block k hk (fun hf => hn (hFG k hk hf))⟩
theorem Turned.of_below {B : Nat} (h : Below B w w') : Turned (fun k => B ≤ k) w w' := ⟨h.os, h.tape, h.output, h.size, fun k _ hn => h.block k (by omega)⟩
theorem Turned.of_grown {row : Option Nat} (h : w.grownBy w' row) : Turned (fun k => row = some k) w w' := ⟨h.os, h.tape, h.output, h.size, fun k hk hn => h.block k hk (fun e => hn e.symm)⟩
theorem Turned.below (h : Turned F w w') {B : Nat} (hB : B ≤ w.heap.size) (hF : ∀ k, F k → B ≤ k) : Below B w w' := ⟨h.os, h.tape, h.output, h.size, fun k hk => h.block k (by omega) (fun hf => by have := hF k hf; omega)⟩
theorem Turned.cell (h : Turned F w w') {p : Addr} {v : Value} (hc : w.cell? p = some v) (hn : ¬ F p.block) : w'.cell? p = some v :=
  (World.cell?_of_block (h.block p.block (World.block_lt_of_cell? w p hc) hn)).trans hc
theorem Turned.alloc (h : Turned F w w') (o : Obj) : Turned F w (w'.alloc o) := h.trans (G := fun _ => False) (Turned.mono (Turned.of_grown (World.grownBy_alloc w' o none)) (fun k _ h => by cases h)) (fun _ _ h => h.elim)
theorem Turned.setCell (h : Turned F w w') {p : Addr} (hp : p.block < w.heap.size → F p.block) (u : Value) : Turned F w (w'.setCell p u) :=
  ⟨h.os, h.tape, h.output, by simpa using h.size, fun k hk hn => (heap_setCell_other w' p k u (fun e => hn (by subst e; exact hp hk))).trans (h.block k hk hn)⟩
theorem Turned.setRow (h : Turned F w w') {g : Nat} (hg : g < w.heap.size → F g) (cs : Array Value) : Turned F w (w'.setRow g cs) :=
  ⟨h.os, h.tape, h.output, by simpa using h.size, fun k hk hn => (setRow_other w' g k cs (fun e => hn (by subst e; exact hg hk))).trans (h.block k hk hn)⟩
theorem Turned.drew (h : Turned F w w') : Turned F w w'.drew := ⟨h.os, h.tape, h.output, h.size, h.block⟩
theorem Turned.drewN (h : Turned F w w') (n : Nat) : Turned F w (w'.drewN n) := ⟨h.os, h.tape, h.output, h.size, h.block⟩

theorem OwnL.turned_ {base : Nat} {v : Value} {l : List α} (h : OwnL K w base v l) (ht : Turned F w w') (hn : ∀ k, v.ownBlock = some k → ¬ F k) : OwnL K w' base v l :=
  h.of_block fun k hk => ht.block k (h.lt_ k hk).2 (hn k hk)
theorem Lv.turned_ {B : Nat} {v : Value} {l : List α} (h : Lv K w B v l) (ht : Turned F w w') (hn : ∀ k, k < B → ¬ F k) : Lv K w' B v l := by
  obtain ⟨A, c, e, h1, h2, h3, h4, h5⟩ := h
  refine ⟨A, c, e, h1, h2, h3, h4, fun hp => ?_⟩
  obtain ⟨b, off, e, hl, hc⟩ := h5 hp
  exact ⟨b, off, e, hl, fun j u hj => ht.cell (hc j u hj) (hn b hl)⟩
theorem Lv.turnedB_ {B : Nat} {v : Value} {l : List α} (h : Lv K w B v l) (ht : Turned F w w') (hn : 0 < l.length → ∀ k, v.ownBlock = some k → ¬ F k) : Lv K w' B v l := by
  obtain ⟨A, c, e, h1, h2, h3, h4, h5⟩ := h
  refine ⟨A, c, e, h1, h2, h3, h4, fun hp => ?_⟩
  obtain ⟨b, off, eA, hl, hc⟩ := h5 hp
  refine ⟨b, off, eA, hl, fun j u hj => ht.cell (hc j u hj) (hn hp b ?_)⟩
  subst e eA
  rfl
theorem Lv.blk_ {B : Nat} {v : Value} {l : List α} (h : Lv K w B v l) (hp : 0 < l.length) {k : Nat} (hk : v.ownBlock = some k) : k < B := by
  obtain ⟨A, c, e, h1, h2, h3, h4, h5⟩ := h
  obtain ⟨b, off, eA, hl, hc⟩ := h5 hp
  subst e eA
  have e : b = k := Option.some.inj hk
  omega
/-- An element's cells, side by side. -/
theorem Lv.mid_ {A : Option Addr} {n c B : Nat} {l : List α} (h : Lv K w B (.slice A n c) l) {k : Nat} (hk : k < l.length) :
    ∃ b off x, A = some ⟨b, off, none⟩ ∧ b < B ∧ K.ok x ∧ l[k]? = some x ∧ w.rangeAt b (off + k * K.size) (K.enc x) := by
  obtain ⟨b, off, x, h1, h2, h3, h4, h5⟩ := h.at_ hk
  exact ⟨b, off, x, h1, h2, h3, h4, fun j u hj => by rw [Nat.add_assoc]; exact h5 j u hj⟩
/-- A slice's end. -/
theorem Lv.drop_ {A : Option Addr} {n c B : Nat} {l : List α} (h : Lv K w B (.slice A n c) l) {k : Nat} (hk : k ≤ l.length) : Lv K w B (.slice (A.map (·.add (k * K.size))) (n - k) (c - k)) (l.drop k) := by
  obtain ⟨A', c', e, h1, h2, h3, h4, h5⟩ := h
  injection e with e1 e2 e3
  subst e1 e2 e3
  refine ⟨_, _, by rw [List.length_drop], by rw [List.length_drop]; omega, by omega, fun hA => ?_, fun x hx => h4 x (List.mem_of_mem_drop hx), fun hp => ?_⟩
  · cases A with
    | none => have := h3 rfl; omega
    | some a => simp at hA
  · rw [List.length_drop] at hp
    obtain ⟨b, off, rfl, hb, hc⟩ := h5 (by omega)
    refine ⟨b, off + k * K.size, by simp [add_addr], hb, fun j u hj => ?_⟩
    have e : K.flat l = K.flat (l.take k) ++ K.flat (l.drop k) := by rw [← flat_app, List.take_append_drop]
    have e2 : (K.flat (l.take k)).length = k * K.size := by rw [flat_len, List.length_take, Nat.min_eq_left hk]
    have := hc (k * K.size + j) u (by rw [e, List.getElem?_append_right (by omega), e2, Nat.add_sub_cancel_left]; exact hj)
    rw [← Nat.add_assoc] at this
    exact this
end
end Go.Proofs.Ytoefogmjekcbeaa
