/-
  ShPressA: Arrays of words and of bytes, as Go's cells; what Press's walk takes of them.
  ShNone: The digest of noughts: its cells.
  RcMem: A record in memory: 32 cells of its digest, its number, its length, its tokens' slice.
  RcSet: A record's cells, set one by one.
-/
import Derived.Test.YtkialijipcbgkaaPk32
import Derived.Test.YtkialijipcbgkaaPk07
import Derived.Test.YtkialijipcbgkaaPk01
import Derived.BigQuiet
import Derived.Laws.ResultCell
import Derived.Test.YtkialijipcbgkaaPk03
namespace Go.Proofs.Ytkialijipcbgkaa
open Go.RowKit
set_option linter.unusedVariables false

theorem shr3 (x : Sh.W32) : (((nt x : Nat) : Int) / (8 : Int)) = (((nt (x >>> 3) : Nat)) : Int) := shr_bv x 3
theorem shr10 (x : Sh.W32) : (((nt x : Nat) : Int) / (1024 : Int)) = (((nt (x >>> 10) : Nat)) : Int) := shr_bv x 10
theorem add3_bv (x y z : Sh.W32) : ((((nt x : Nat) : Int) + ((nt y : Nat) : Int) + ((nt z : Nat) : Int)) % (4294967296 : Int)) = ((nt (x + y + z) : Nat) : Int) := by
  unfold nt
  rw [BitVec.toNat_add, BitVec.toNat_add]; omega
theorem shl24w (x : Sh.W32) : IntKind.u32.wrap (((nt x : Nat) : Int) * 16777216) = ((nt (x <<< 24) : Nat) : Int) := by rw [IntKind.wrap_u32]; exact shl_bv x 24
theorem shl16w (x : Sh.W32) : IntKind.u32.wrap (((nt x : Nat) : Int) * 65536) = ((nt (x <<< 16) : Nat) : Int) := by rw [IntKind.wrap_u32]; exact shl_bv x 16
theorem shl8w (x : Sh.W32) : IntKind.u32.wrap (((nt x : Nat) : Int) * 256) = ((nt (x <<< 8) : Nat) : Int) := by rw [IntKind.wrap_u32]; exact shl_bv x 8
theorem addw (x y : Sh.W32) : IntKind.u32.wrap (((nt x : Nat) : Int) + ((nt y : Nat) : Int)) = ((nt (x + y) : Nat) : Int) := by rw [IntKind.wrap_u32]; exact add_bv x y
theorem size24 : (Try.prog.info? 102).map (·.size) = some 64 := by kernel_rfl
/-- Bytes as the cells of an array. -/
def bvs (l : List Nat) : Array Value := (l.map u8).toArray
theorem bvs_size (l : List Nat) : (bvs l).size = l.length := by simp [bvs]
theorem bvs_at (l : List Nat) {k : Nat} (h : k < l.length) : (bvs l)[k]? = some (.int .u8 (l.getD k 0 : Nat)) := by
  simp [bvs, u8, List.getD, List.getElem?_eq_getElem h]
theorem nt_of {x : Nat} (h : x < 4294967296) : nt (BitVec.ofNat 32 x) = x := by unfold nt; rw [BitVec.toNat_ofNat]; exact Nat.mod_eq_of_lt h
theorem nt_mod (x : Sh.W32) : ((nt x : Nat) : Int) % 4294967296 = ((nt x : Nat) : Int) := by have := nt_lt x; omega
/-- The words' array, the first k of them written. -/
def sch (b : List Nat) (k : Nat) : Array Value := wvs (Sh.sched b k ++ List.replicate (64 - k) 0)
theorem sch_size (b : List Nat) {k : Nat} (h : k ≤ 64) : (sch b k).size = 64 := by simp [sch, wvs, Sh.sched_len]; omega
theorem sch_at (b : List Nat) {j k : Nat} (h : j < k) : (sch b k)[j]? = some (.int .u32 (nt ((Sh.sched b k).getD j 0) : Nat)) := by
  have h1 : j < (Sh.sched b k).length := by rw [Sh.sched_len]; exact h
  have h2 := wvs_at (Sh.sched b k ++ List.replicate (64 - k) 0) (k := j) (by rw [List.length_append]; omega)
  have e : (Sh.sched b k ++ List.replicate (64 - k) (0 : Sh.W32)).getD j 0 = (Sh.sched b k).getD j 0 := by
    rw [List.getD_eq_getElem?_getD, List.getElem?_append_left h1, List.getD_eq_getElem?_getD]
  rw [e] at h2
  exact h2
theorem sch_old (b : List Nat) {k : Nat} (h : k < 64) : (sch b k)[k]? = some (.int .u32 0) := by
  have h2 := wvs_at (Sh.sched b k ++ List.replicate (64 - k) 0) (k := k) (by rw [List.length_append, Sh.sched_len, List.length_replicate]; omega)
  have e : (Sh.sched b k ++ List.replicate (64 - k) (0 : Sh.W32)).getD k 0 = 0 := by
    rw [List.getD_eq_getElem?_getD, List.getElem?_append_right (by rw [Sh.sched_len]; omega), Sh.sched_len, Nat.sub_self]
    obtain ⟨m, hm⟩ : ∃ m, 64 - k = m + 1 := ⟨63 - k, by omega⟩
    rw [hm]; rfl
  rw [e] at h2
  exact h2
theorem sch_set (b : List Nat) {k : Nat} (h : k < 64) (x : Sh.W32) (hx : Sh.sched b (k + 1) = Sh.sched b k ++ [x]) : (sch b k).setIfInBounds k (.int .u32 (nt x : Nat)) = sch b (k + 1) := by
  unfold sch wvs
  rw [hx]
  apply Array.ext'
  have hm : 64 - k = (64 - (k + 1)) + 1 := by omega
  rw [Array.toList_setIfInBounds, hm, List.replicate_succ]
  simp only [List.map_append, List.map_cons]
  rw [List.set_append_right _ _ (by simp [Sh.sched_len])]
  simp [Sh.sched_len, wv]
theorem sched_word (b : List Nat) {k : Nat} (h : k < 16) : Sh.sched b (k + 1) = Sh.sched b k ++ [Sh.word (BitVec.ofNat 32 (b.getD (4 * k) 0)) (BitVec.ofNat 32 (b.getD (4 * k + 1) 0)) (BitVec.ofNat 32 (b.getD (4 * k + 2) 0)) (BitVec.ofNat 32 (b.getD (4 * k + 3) 0))] := by
  rw [Sh.sched, if_pos h]
theorem sched_mix (b : List Nat) {k : Nat} (h : ¬ k < 16) : Sh.sched b (k + 1) = Sh.sched b k ++ [(Sh.sched b k).getD (k - 16) 0 + (Sh.sched b k).getD (k - 7) 0 + Sh.sig0 ((Sh.sched b k).getD (k - 15) 0) + Sh.sig1 ((Sh.sched b k).getD (k - 2) 0)] := by
  rw [Sh.sched, if_neg h]

theorem Rw.via {w w9 : World} {n g : Nat} {t : TypeId} {c : Array Value} (h : Rw w g t c) (e : w.drewN n = w9) : Rw w9 g t c := by subst e; exact h
theorem byte_at {b : List Nat} (hl : b.length = 64) (h8 : ∀ x ∈ b, x < 256) {j : Nat} (hj : j < 64) : (bvs b)[j]? = some (.int .u8 (nt (BitVec.ofNat 32 (b.getD j 0)) : Nat)) := by
  have hx : b.getD j 0 < 256 := by
    rw [List.getD_eq_getElem?_getD, List.getElem?_eq_getElem (by omega)]
    exact h8 _ (List.getElem_mem (by omega))
  rw [nt_of (by omega)]
  exact bvs_at b (by omega)

/-- An element of an array that is a value. -/
theorem index64 (c : Array Value) (k : Nat) (v : Value) (hk : k < 64) (hv : c[k]? = some v) (w : World) : (Instr.index 102 (.agg c) (.int .i64 k)).run Try.prog w = .ok v w := by
  have h1 : (0 : Int) ≤ (k : Int) := by omega
  have h3 : (k : Int).toNat = k := by omega
  simp [go_sem, Instr.index, part, hv, h1, h3]
  intro h
  omega
theorem index8 (c : Array Value) (k : Nat) (v : Value) (hk : k < 8) (hv : c[k]? = some v) (w : World) : (Instr.index 100 (.agg c) (.int .i64 k)).run Try.prog w = .ok v w := by
  have h1 : (0 : Int) ≤ (k : Int) := by omega
  have h3 : (k : Int).toNat = k := by omega
  simp [go_sem, Instr.index, part, hv, h1, h3]
  intro h
  omega
theorem index32 (c : Array Value) (k : Nat) (v : Value) (hk : k < 32) (hv : c[k]? = some v) (w : World) : (Instr.index 23 (.agg c) (.int .i64 k)).run Try.prog w = .ok v w := by
  have h1 : (0 : Int) ≤ (k : Int) := by omega
  have h3 : (k : Int).toNat = k := by omega
  simp [go_sem, Instr.index, part, hv, h1, h3]
  intro h
  omega
end Go.Proofs.Ytkialijipcbgkaa
namespace Go.Proofs.Ytkialijipcbgkaa
open Go.RowKit
set_option linter.unusedVariables false

theorem bvs_some {d : List Nat} {k x : Nat} (h : d[k]? = some x) : (bvs d)[k]? = some (.int .u8 (x : Nat)) := by simp [bvs, h, u8]
theorem size35 : (Try.prog.info? 23).map (·.size) = some 32 := by kernel_rfl
theorem bvs_one (l : List Nat) : (bvs l).all (·.oneCell') = true := by
  rw [Array.all_eq_true_iff_forall_mem]
  intro v hv
  simp only [bvs, List.mem_toArray, List.mem_map] at hv
  obtain ⟨x, _, rfl⟩ := hv
  rfl
theorem size35l {l : List Nat} (h : l.length = 32) : (Try.prog.info? 23).map (·.size) = some (bvs l).size := by rw [bvs_size, h]; exact size35
/-- The cells of the digest of noughts. -/
def none32 : Array Value := bvs (List.replicate 32 0)
theorem none32_size : (Try.prog.info? 23).map (·.size) = some none32.size := size35l rfl
theorem none32_one : none32.all (·.oneCell') = true := bvs_one _
end Go.Proofs.Ytkialijipcbgkaa
namespace Go.Proofs.Ytkialijipcbgkaa
open Go.RowKit
set_option linter.unusedVariables false
/-- A record's cells. -/
def rcC (r : Rc.Rec) (t : Value) : Array Value := bvs r.dig ++ #[.int .u64 (r.id : Nat), .int .i64 r.len, t]
/-- What the cells of a record keep: a digest's bytes, numbers that Go has. -/
structure Rc.Fit (r : Rc.Rec) : Prop where
  dl : r.dig.length = 32
  d8 : ∀ x ∈ r.dig, x < 256
  id : r.id < 18446744073709551616
  len : I64 r.len
theorem Rc.fit_zero : Rc.Fit Rc.zero := ⟨by simp [Rc.zero], by intro x hx; rw [List.eq_of_mem_replicate hx]; omega, by simp [Rc.zero], by unfold I64; simp [Rc.zero]⟩
section
variable {r : Rc.Rec} {t : Value}
theorem rcC_size (h : Rc.Fit r) : (rcC r t).size = 35 := by simp [rcC, bvs_size, h.dl]
theorem rcC_dig (h : Rc.Fit r) {k x : Nat} (hx : r.dig[k]? = some x) : (rcC r t)[k]? = some (.int .u8 (x : Nat)) := by
  have hk : k < r.dig.length := (List.getElem?_eq_some_iff.1 hx).1
  unfold rcC
  rw [Array.getElem?_append_left (by rw [bvs_size]; exact hk)]
  exact bvs_some hx
theorem rcC_id (h : Rc.Fit r) : (rcC r t)[32]? = some (.int .u64 (r.id : Nat)) := by
  unfold rcC
  rw [Array.getElem?_append_right (by rw [bvs_size, h.dl]; exact Nat.le_refl _), bvs_size, h.dl]; rfl
theorem rcC_len (h : Rc.Fit r) : (rcC r t)[33]? = some (.int .i64 r.len) := by
  unfold rcC
  rw [Array.getElem?_append_right (by rw [bvs_size, h.dl]; omega), bvs_size, h.dl]; rfl
theorem rcC_toks (h : Rc.Fit r) : (rcC r t)[34]? = some t := by
  unfold rcC
  rw [Array.getElem?_append_right (by rw [bvs_size, h.dl]; omega), bvs_size, h.dl]; rfl
theorem rcC_one (ht : t.oneCell' = true) : (rcC r t).all (·.oneCell') = true := by
  unfold rcC
  rw [Array.all_append, bvs_one, Array.all_eq_true_iff_forall_mem.2]
  · rfl
  · intro v hv
    simp only [List.mem_toArray, List.mem_cons, List.not_mem_nil, or_false] at hv
    rcases hv with rfl | rfl | rfl
    · rfl
    · rfl
    · exact ht
end
set_option maxRecDepth 100000 in
theorem rc_size : (Try.prog.info? 27).map (·.size) = some 35 := by kernel_rfl
theorem rc_sizeof {r : Rc.Rec} {t : Value} (h : Rc.Fit r) : (Try.prog.info? 27).map (·.size) = some (rcC r t).size := by rw [rcC_size h]; exact rc_size
def none35 : Array Value := rcC Rc.zero (.slice none 0 0)
set_option maxRecDepth 100000 in
theorem rc_zero : (Try.prog.info? 27).map (fun i => (i.zero, i.size)) = some (some (.agg none35), 35) := by kernel_rfl
theorem rc_zeroV : ∀ w, (zeroValue 27).run Try.prog w = .ok (.agg none35) w := (zero_of_info (n := 35) rc_zero).1
set_option maxRecDepth 100000 in
theorem rc_built0 : Try.prog.built 27 [] = some none35 := by kernel_rfl
set_option maxRecDepth 100000 in
/-- A record of its four parts. -/
theorem rc_built {d : List Nat} (h : d.length = 32) (n : Nat) (z : Int) (A : Option Addr) (m c : Nat) :
    Try.prog.built 27 [(0, .agg (bvs d)), (1, .int .u64 (n : Nat)), (2, .int .i64 z), (3, .slice A m c)] = some (rcC ⟨d, n, z, []⟩ (.slice A m c)) := by
  match d, h with
  | [a0, a1, a2, a3, a4, a5, a6, a7, a8, a9, a10, a11, a12, a13, a14, a15, a16, a17, a18, a19, a20, a21, a22, a23, a24, a25, a26, a27, a28, a29, a30, a31], _ => show _ = _; kernel_rfl
theorem rcC_toks_free (d : List Nat) (n : Nat) (z : Int) (l l' : List Int) (t : Value) : rcC ⟨d, n, z, l⟩ t = rcC ⟨d, n, z, l'⟩ t := rfl
theorem slice_one (A : Option Addr) (n c : Nat) : (Value.slice A n c).oneCell' = true := rfl
/-- What a variable of a record is as a value, beside one more result. -/
theorem results_rc {fn : Func} {p u1 : Tmp} (h : fn.results = #[.cell p 27, .tmp u1]) (tmps : Array Value) (w : World) (g : Nat) (c : Array Value) (x : Value) (t : TypeId)
    (hp : tmps.getD p undef = .pointer (some ⟨g, 0, none⟩)) (hx : tmps.getD u1 undef = x) (hc : c.size = 35) (hg : w.heap[g]? = some (.cells c t (0, 0))) :
    (results fn tmps).run Try.prog w = .ok (.tuple #[.agg c, x]) w := by
  have hp' : tmps[p]?.getD undef = .pointer (some ⟨g, 0, none⟩) := by simpa using hp
  have hx' : tmps[u1]?.getD undef = x := by simpa using hx
  simp [results, h, hp', hx', asAddr, run_loadVar_row w g t _ _ (0, 0) _ hg Try.underlying27 rfl (by rw [hc]; exact rc_size)]
/-- A record that is there: as a value, its tokens in memory below B. -/
structure RcV (w : World) (B : Nat) (v : Value) (r : Rc.Rec) (t : Value) : Prop where
  val : v = .agg (rcC r t)
  fit : Rc.Fit r
  toks : Lv iK w B t r.toks
/-- A call that answers a record, its tokens in new memory, and an error. -/
def IsRE (r : Rc.Rec × Nat) (w : World) (e : Ending) (w' : World) : Prop :=
  ∃ A c, e = .returned (.tuple #[.agg (rcC r.1 (.slice A r.1.toks.length c)), .int .i64 (r.2 : Nat)]) ∧ Rc.Fit r.1 ∧ OwnL iK w' w.heap.size (.slice A r.1.toks.length c) r.1.toks ∧ Below w.heap.size w w'
theorem IsRE.none_ {w w' : World} {r : Rc.Rec × Nat} {e : Nat} {x : Int} (h : r = (Rc.zero, e)) (hx : x = (e : Nat)) (hb : Below w.heap.size w w') : IsRE r w (.returned (.tuple #[.agg none35, .int .i64 x])) w' := by
  subst h hx; exact ⟨none, 0, rfl, Rc.fit_zero, OwnL.nil_ _ _ _, hb⟩
theorem IsRE.of {w w' : World} {r : Rc.Rec × Nat} {y : Rc.Rec} {v : Value} {x : Int} (h : r = (y, 0)) (hx : x = 0) (hf : Rc.Fit y) (ho : OwnL iK w' w.heap.size v y.toks) (hb : Below w.heap.size w w') :
    IsRE r w (.returned (.tuple #[.agg (rcC y v), .int .i64 x])) w' := by
  subst h hx
  obtain ⟨A, c, e, _⟩ := ho.form_
  subst e
  exact ⟨A, c, rfl, hf, ho, hb⟩
end Go.Proofs.Ytkialijipcbgkaa
namespace Go.Proofs.Ytkialijipcbgkaa
open Go.RowKit
set_option linter.unusedVariables false
/-- A record in a box of its own. -/
theorem rc_boxed {w W : World} {C : Array Value} (hW : w.alloc (.cells C 27) = W) : Rw W w.heap.size 27 C ∧ W.heap.size = w.heap.size + 1 ∧ Below w.heap.size w W := by
  subst hW
  exact ⟨Rw.new w _ _, by simp, (Below.refl _ _).alloc (Nat.le_refl _) _⟩
theorem setCell_block (w : World) (g k j : Nat) (v : Value) (h : k ≠ g) : (w.setCell ⟨g, j, none⟩ v).heap[k]? = w.heap[k]? := by
  unfold World.setCell
  simp only [Array.getElem?_modify, Ne.symm h, if_false]
section
variable {r : Rc.Rec} {t : Value}
theorem rcC_setDig {k x : Nat} (hk : k < r.dig.length) : (rcC r t).setIfInBounds k (.int .u8 (x : Nat)) = rcC ⟨r.dig.set k x, r.id, r.len, r.toks⟩ t := by
  unfold rcC bvs
  apply Array.ext'
  rw [Array.toList_setIfInBounds, Array.toList_append, Array.toList_append, List.set_append_left _ _ (by simpa using hk)]
  simp [List.map_set, u8]
theorem rcC_setId (h : r.dig.length = 32) (n : Nat) : (rcC r t).setIfInBounds 32 (.int .u64 (n : Nat)) = rcC ⟨r.dig, n, r.len, r.toks⟩ t := by
  unfold rcC bvs
  apply Array.ext'
  rw [Array.toList_setIfInBounds, Array.toList_append, Array.toList_append, List.set_append_right _ _ (by simp [h])]
  simp [h]
theorem rcC_setLen (h : r.dig.length = 32) (z : Int) : (rcC r t).setIfInBounds 33 (.int .i64 z) = rcC ⟨r.dig, r.id, z, r.toks⟩ t := by
  unfold rcC bvs
  apply Array.ext'
  rw [Array.toList_setIfInBounds, Array.toList_append, Array.toList_append, List.set_append_right _ _ (by simp [h])]
  simp [h]
theorem rcC_setToks (h : r.dig.length = 32) (v : Value) : (rcC r t).setIfInBounds 34 v = rcC r v := by
  unfold rcC bvs
  apply Array.ext'
  rw [Array.toList_setIfInBounds, Array.toList_append, Array.toList_append, List.set_append_right _ _ (by simp [h])]
  simp [h]
end
namespace Rc
/-- A digest, the first k bytes of it copied. -/
def dk (b : List Nat) (k : Nat) : List Nat := b.take k ++ List.replicate (32 - k) 0
theorem dk_len {b : List Nat} (h : 32 ≤ b.length) {k : Nat} (hk : k ≤ 32) : (dk b k).length = 32 := by simp [dk]; omega
theorem dk_zero (b : List Nat) : dk b 0 = List.replicate 32 0 := rfl
theorem dk_end (b : List Nat) : dk b 32 = b.take 32 := by simp [dk]
theorem dk_old {b : List Nat} (h : 32 ≤ b.length) {k : Nat} (hk : k < 32) : (dk b k)[k]? = some 0 := by
  unfold dk
  have hl : (b.take k).length = k := by rw [List.length_take]; omega
  rw [List.getElem?_append_right (by omega), hl, Nat.sub_self]
  obtain ⟨m, hm⟩ : ∃ m, 32 - k = m + 1 := ⟨31 - k, by omega⟩
  rw [hm]; rfl
theorem dk_set {b : List Nat} (h : 32 ≤ b.length) {k x : Nat} (hk : k < 32) (hx : b[k]? = some x) : (dk b k).set k x = dk b (k + 1) := by
  unfold dk
  have hl : (b.take k).length = k := by rw [List.length_take]; omega
  have hm : 32 - k = (32 - (k + 1)) + 1 := by omega
  rw [List.set_append_right _ _ (by omega), hl, Nat.sub_self, hm, List.replicate_succ, List.set_cons_zero, List.take_add_one, hx]
  simp
theorem dk_lt {b : List Nat} (hb : ∀ x ∈ b, x < 256) (k : Nat) : ∀ x ∈ dk b k, x < 256 := by
  intro x hx
  rcases List.mem_append.1 hx with h | h
  · exact hb x (List.mem_of_mem_take h)
  · rw [List.eq_of_mem_replicate h]; omega
theorem dk_fit {b : List Nat} (hb : ∀ x ∈ b, x < 256) (h : 32 ≤ b.length) {k n : Nat} {z : Int} {l : List Int} (hk : k ≤ 32) (hn : n < 18446744073709551616) (hz : I64 z) : Fit ⟨dk b k, n, z, l⟩ := ⟨dk_len h hk, dk_lt hb k, hn, hz⟩
end Rc
end Go.Proofs.Ytkialijipcbgkaa
