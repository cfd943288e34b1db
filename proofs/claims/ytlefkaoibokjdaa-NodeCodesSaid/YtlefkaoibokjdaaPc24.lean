/-
  StepM: An element put behind an own list at a step of a region that draws its order; and where the list lies then.
  NodG: node: read.
  NodH: node: Get.
-/
import Derived.Test.YtlefkaoibokjdaaPc02
import Derived.Test.YtlefkaoibokjdaaPc23
import Derived.Test.YtlefkaoibokjdaaPc21
import Derived.Test.YtlefkaoibokjdaaPc16
import Derived.Test.YtlefkaoibokjdaaPc10
import Derived.Test.YtlefkaoibokjdaaPc22
import Derived.Test.YtlefkaoibokjdaaPc03
import Derived.Deep.WholeRow
namespace Go.Proofs.Ytlefkaoibokjdaa
open Go.RowKit
set_option linter.unusedVariables false

section
variable {P : Program} {α : Type}
theorem step_append_m (w : World) {ops : Array Oper} {o : Oper} {a : Act} {K' : Act → World → Prop} {Q : Exit → Act → World → Prop} {E : Prop} (K : El P α) (hgd : o.guard = none) (s t : Operand)
    (ho : o.op = .call { callee := .builtin .append, args := #[s, t], argTypes := #[K.s, K.s] })
    (base : Nat) (v : Value) (hs : a.eval s = v) (l : List α) (hown : OwnL K w base v l) (x : Value) (hx0 : a.eval t = x) (B : Nat) (m : List α) (hx : Lv K w B x m) (hsz : (l.length + m.length) * K.bytes ≤ 140737488355328) (h63 : l.length + m.length ≤ maxLen) (hbase : base ≤ w.heap.size)
    (h : ∀ A c w', OwnL K w' base (.slice A (l ++ m).length c) (l ++ m) → w.grownBy w' v.ownBlock → Moved w v (.slice A (l ++ m).length c) → K' (a.put o.dst (.slice A (l ++ m).length c)) w') :
    if Region.wanted o (yielded ops a.tmps) = true then Oper.wp P o a w K' Q else E := by
  have hw : Region.wanted o (yielded ops a.tmps) = true := by simp [Region.wanted, hgd]
  rw [if_pos hw]
  obtain ⟨v', w', hr, hA, hG, hM⟩ := run_append_m w base v l hown o.type x B m hx hsz h63 hbase
  obtain ⟨A, c, rfl, _⟩ := hA.form_
  unfold Oper.wp execOp
  simp only [ho, resolve, invoke, builtin, Sem.run_bind, Sem.run_pure, Result.andThen_ok, List.map_toArray, List.map_cons, List.map_nil, hs, hx0, hr]
  exact h A c w' hA hG hM
theorem step_push_m (w : World) {ops : Array Oper} {o : Oper} {a : Act} {K' : Act → World → Prop} {Q : Exit → Act → World → Prop} {E : Prop} (K : El P α) (hgd : o.guard = none) (s t : Operand)
    (ho : o.op = .call { callee := .builtin .append, args := #[s, t], argTypes := #[K.s, K.s] })
    (base : Nat) (v : Value) (hs : a.eval s = v) (l : List α) (hown : OwnL K w base v l) (ht : a.eval t = .slice (some ⟨w.heap.size, 0, none⟩) 1 1) (x : α) (hx : K.ok x) (cs : Array Value) (hcs : cs = (K.enc x).toArray) (e : TypeId) (he : e = K.e) (hsz : (l.length + 1) * K.bytes ≤ 140737488355328) (h63 : l.length + 1 ≤ maxLen) (hbase : base ≤ w.heap.size)
    (h : ∀ A c w', OwnL K w' base (.slice A (l.length + 1) c) (l ++ [x]) → w.grownBy w' v.ownBlock → Moved w v (.slice A (l.length + 1) c) → K' (a.put o.dst (.slice A (l.length + 1) c)) w') :
    if Region.wanted o (yielded ops a.tmps) = true then Oper.wp P o a (w.alloc (.cells cs e)) K' Q else E := by
  subst hcs he
  refine step_append_m _ K hgd s t ho base v hs l (hown.alloc_ _) _ ht _ [x] (Lv.lit_ w hx) (by simpa using hsz) (by simpa using h63) (by simp; omega) fun A c w' h1 h2 h3 => ?_
  rw [List.length_append, List.length_singleton] at h1 h3 ⊢
  exact h A c w' h1 (grown_alloc h2) (fun k hk => (h3 k hk).imp id (fun h => by simp at h; omega))
end
end Go.Proofs.Ytlefkaoibokjdaa
namespace Go.Proofs.Ytlefkaoibokjdaa
open Go.RowKit
set_option linter.unusedVariables false
section
variable {w w' w3 : World} {base g : Nat} {n : Nd.Node} {Ak Av Ai A3 : Option Addr} {ck cv ci c3 : Nat} {F : Nat → Prop}
theorem NdMk.turned_ (h : NdMk w base g n Ak ck Av cv Ai ci) (ht : Turned F w w') (hF : ∀ q, F q → q ≠ g ∧ q < base) : NdMk w' base g n Ak ck Av cv Ai ci :=
  ⟨(ht.block g h.row.lt (fun hf => (hF g hf).1 rfl)).trans h.row, h.lo, Nat.le_trans h.top ht.size, h.keys.turned_ ht (fun k hk hf => by have := (h.keys.lt_ k hk).1; have := (hF k hf).2; omega),
    h.vals.turned_ ht (fun k hk hf => by have := (h.vals.lt_ k hk).1; have := (hF k hf).2; omega), h.kids.turned_ ht (fun k hk hf => by have := (h.kids.lt_ k hk).1; have := (hF k hf).2; omega), h.apart⟩
/-- A kid is put behind. -/
theorem NdMk.kid (h : NdMk w base g n Ak ck Av cv Ai ci) {x : Int} (hA : OwnL iK w3 base (.slice A3 (n.kids.length + 1) c3) (n.kids ++ [x])) (hG : w.grownBy w3 (Value.slice Ai n.kids.length ci).ownBlock) :
    NdMk (w3.setCell ⟨g, 3, none⟩ (.slice A3 (n.kids.length + 1) c3)) base g ⟨n.kind, n.keys, n.vals, n.kids ++ [x]⟩ Ak ck Av cv A3 c3 := by
  have hr := h.grown_row (fun k hk => (h.kids.lt_ k hk).1) hG
  have ho : ∀ k, base ≤ k → (w3.setCell ⟨g, 3, none⟩ (.slice A3 (n.kids.length + 1) c3)).heap[k]? = w3.heap[k]? := fun k hk => heap_setCell_other w3 _ k _ (by have := h.lo; show k ≠ g; omega)
  have hk3 : OwnL sK w3 base (.slice Ak n.keys.length ck) n.keys := h.keys.kept_ hG (own_ne_or fun k hk => own_twoN h.keys h.kids (by decide) hk)
  have hv3 : OwnL sK w3 base (.slice Av n.vals.length cv) n.vals := h.vals.kept_ hG (own_ne_or fun k hk => own_twoN h.vals h.kids (by decide) hk)
  have el : (n.kids ++ [x]).length = n.kids.length + 1 := by simp
  refine ⟨?_, h.lo, by have := hG.size; have := h.top; simpa using (by omega), hk3.of_block fun k hk => ho k (hk3.lt_ k hk).1, hv3.of_block fun k hk => ho k (hv3.lt_ k hk).1, ?_, h.apart⟩
  · have := hr.set 3 (.slice A3 (n.kids.length + 1) c3)
    simpa [ndC] using this
  · rw [el]; exact hA.of_block fun k hk => ho k (hA.lt_ k hk).1
theorem NdMk.setKind (h : NdMk w base g n Ak ck Av cv Ai ci) (kd : Nat) : NdMk (w.setCell ⟨g, 0, none⟩ (.int .u8 (kd : Nat))) base g ⟨kd, n.keys, n.vals, n.kids⟩ Ak ck Av cv Ai ci := by
  have ho : ∀ k, base ≤ k → (w.setCell ⟨g, 0, none⟩ (.int .u8 (kd : Nat))).heap[k]? = w.heap[k]? := fun k hk => heap_setCell_other w _ k _ (by have := h.lo; show k ≠ g; omega)
  refine ⟨?_, h.lo, by have := h.top; simpa using this, h.keys.of_block fun k hk => ho k (h.keys.lt_ k hk).1, h.vals.of_block fun k hk => ho k (h.vals.lt_ k hk).1, h.kids.of_block fun k hk => ho k (h.kids.lt_ k hk).1, h.apart⟩
  have := h.row.set 0 (.int .u8 (kd : Nat))
  simpa [ndC] using this
theorem RdSt.drew {B gb ga ge : Nat} {v : Value} {l : List Nat} {s : Nat × Nat} (h : RdSt w B gb ga ge v l s) : RdSt w.drew B gb ga ge v l s :=
  ⟨h.rb, h.ra, h.re, h.v.below_ (Below.refl B w).drew (Nat.le_refl _), h.low, h.ne⟩
/-- What a list that grows, and a cell of the box, turn. -/
theorem grown_turn {v : Value} {off : Nat} (hG : w.grownBy w3 v.ownBlock) (hv : ∀ k, v.ownBlock = some k → base ≤ k) (u : Value) : Turned (fun q => q = g ∨ base ≤ q) w (w3.setCell ⟨g, off, none⟩ u) :=
  ((Turned.of_grown hG).mono (fun q _ e => .inr (hv q e))).setCell (p := ⟨g, off, none⟩) (fun _ => .inl rfl) u
theorem RdSt.turned {B gb ga ge : Nat} {v : Value} {l : List Nat} {s : Nat × Nat} (h : RdSt w B gb ga ge v l s) (ht : Turned F w w') (hF : ∀ q, F q → B ≤ q ∧ q ≠ gb ∧ q ≠ ga ∧ q ≠ ge) : RdSt w' B gb ga ge v l s := by
  obtain ⟨h1, h2, h3⟩ := h.lts
  have hl := h.low
  exact ⟨(ht.block gb h1 (fun hf => (hF gb hf).2.1 rfl)).trans h.rb, (ht.block ga h2 (fun hf => (hF ga hf).2.2.1 rfl)).trans h.ra, (ht.block ge h3 (fun hf => (hF ge hf).2.2.2 rfl)).trans h.re,
    h.v.below_ (ht.below (B := B) (by omega) (fun q hq => (hF q hq).1)) (Nat.le_refl _), h.low, h.ne⟩
theorem bstr_size (l : List Nat) : (bstr l).size = l.length := by unfold bstr; show (l.map UInt8.ofNat).toArray.size = _; simp
theorem Nd.rowE_len (l : List Nat) (s : Nat × Nat) (most : Nat) : (Nd.rowE l s most).1.length ≤ l.length := by
  unfold Nd.rowE
  split
  · exact Nat.zero_le _
  · unfold Mt.getRow
    split
    · exact Nat.zero_le _
    · split
      · exact Nat.zero_le _
      · simp only [List.length_take, List.length_drop]; omega
theorem Nd.loop_kind (l : List Nat) (x : Nd.Node × Nat × Nat) : ∀ k, (Nd.loopE l x k).1.kind = x.1.kind
  | 0 => rfl
  | k + 1 => by
    have h := Nd.loop_kind l x k
    show (Nd.stepE l (Nd.loopE l x k)).1.kind = _
    unfold Nd.stepE
    split <;> exact h
theorem Nd.loop_len (l : List Nat) (x : Nd.Node × Nat × Nat) : ∀ k, (Nd.loopE l x k).1.keys.length ≤ x.1.keys.length + k ∧ (Nd.loopE l x k).1.vals.length ≤ x.1.vals.length + k ∧ (Nd.loopE l x k).1.kids.length ≤ x.1.kids.length + k
  | 0 => ⟨Nat.le_refl _, Nat.le_refl _, Nat.le_refl _⟩
  | k + 1 => by
    obtain ⟨h1, h2, h3⟩ := Nd.loop_len l x k
    show (Nd.stepE l (Nd.loopE l x k)).1.keys.length ≤ _ ∧ (Nd.stepE l (Nd.loopE l x k)).1.vals.length ≤ _ ∧ (Nd.stepE l (Nd.loopE l x k)).1.kids.length ≤ _
    unfold Nd.stepE
    split
    · simp only [List.length_append, List.length_singleton]; omega
    · simp only [List.length_append, List.length_singleton]; omega
end
theorem pn_size (n : Nd.Node) (Ak : Option Addr) (ck : Nat) (Av : Option Addr) (cv : Nat) (Ai : Option Addr) (ci : Nat) : (Try.prog.info? 26).map (·.size) = some (ndC n Ak ck Av cv Ai ci).size := by kernel_rfl
theorem pn_one (n : Nd.Node) (Ak : Option Addr) (ck : Nat) (Av : Option Addr) (cv : Nat) (Ai : Option Addr) (ci : Nat) : (ndC n Ak ck Av cv Ai ci).all (·.oneCell') = true := by simp [ndC, Value.oneCell']
/-- What read answers. -/
def IsRead (r : Nd.Node × Nat × Nat) (w : World) (e : Ending) (w' : World) : Prop :=
  ∃ Ak ck Av cv Ai ci, e = .returned (.tuple #[ndV r.1 Ak ck Av cv Ai ci, .int .i64 (r.2.1 : Nat), .int .i64 (r.2.2 : Nat)]) ∧ r.1.kind < 256 ∧ OwnL sK w' w.heap.size (.slice Ak r.1.keys.length ck) r.1.keys ∧ OwnL sK w' w.heap.size (.slice Av r.1.vals.length cv) r.1.vals ∧ OwnL iK w' w.heap.size (.slice Ai r.1.kids.length ci) r.1.kids ∧ Below w.heap.size w w'
set_option maxRecDepth 100000 in
theorem results_read {fn : Func} {p q r : Tmp} (h : fn.results = #[.cell p 26, .cell q 3, .cell r 28]) (tmps : Array Value) (w : World) (g ga ge : Nat) (C : Array Value) (x y : Value)
    (hp : tmps.getD p undef = .pointer (some ⟨g, 0, none⟩)) (hq : tmps.getD q undef = .pointer (some ⟨ga, 0, none⟩)) (hr : tmps.getD r undef = .pointer (some ⟨ge, 0, none⟩)) (hC : (Try.prog.info? 26).map (·.size) = some C.size) (hg : Rw w g 26 C)
    (ha : Rw w ga 3 #[x]) (he : Rw w ge 28 #[y]) :
    (results fn tmps).run Try.prog w = .ok (.tuple #[.agg C, x, y]) w := by
  have hp' : tmps[p]?.getD undef = .pointer (some ⟨g, 0, none⟩) := by simpa using hp
  have hq' : tmps[q]?.getD undef = .pointer (some ⟨ga, 0, none⟩) := by simpa using hq
  have hr' : tmps[r]?.getD undef = .pointer (some ⟨ge, 0, none⟩) := by simpa using hr
  have h1 : w.cell? ⟨ga, 0, none⟩ = some x := ha.cell 0
  have h2 : w.cell? ⟨ge, 0, none⟩ = some y := he.cell 0
  have q1 : (loadVar 3 ⟨ga, 0, none⟩).run Try.prog w = .ok x w := by simp [go_sem, h1]
  have q2 : (loadVar 28 ⟨ge, 0, none⟩).run Try.prog w = .ok y w := by simp [go_sem, h2]
  simp [results, h, hp', hq', hr', asAddr, run_loadVar_row w g _ _ _ (0, 0) _ hg Try.underlying26 rfl hC, q1, q2]
set_option maxHeartbeats 4000000 in
set_option maxRecDepth 100000 in
theorem pnread_any (kind : Nat) (hk8 : kind < 256) (v : Value) (l : List Nat) (B : Nat) (w : World) (hv : Bv w B v l) (hB : B ≤ w.heap.size) (hsz : l.length ≤ 140737488355328) :
    Calls Try.prog 44 #[.int .u8 (kind : Nat), v] w (IsRead (Nd.readE kind l) w) := by
  have hv9 : ∃ A m c, v = .slice A m c := by obtain ⟨A, c, e, _⟩ := hv; exact ⟨A, _, c, e⟩
  obtain ⟨A0, m0, c0, rfl⟩ := hv9
  obtain ⟨v, hvv⟩ : ∃ v, Value.slice A0 m0 c0 = v := ⟨_, rfl⟩
  rw [hvv] at hv
  obtain ⟨g, hg⟩ : ∃ g, w.heap.size + 1 = g := ⟨_, rfl⟩
  obtain ⟨base, hbase⟩ : ∃ g, w.heap.size + 4 = g := ⟨_, rfl⟩
  obtain ⟨Wa, hWa⟩ : ∃ W, w.alloc (.cells #[v] 27) = W := ⟨_, rfl⟩
  have sa : Wa.heap.size = w.heap.size + 1 := by rw [← hWa]; simp
  have ra : Rw Wa w.heap.size 27 #[v] := by rw [← hWa]; exact Rw.new w _ _
  obtain ⟨Wb, hWb⟩ : ∃ W, Wa.alloc (.cells #[.int .u8 0, .slice none 0 0, .slice none 0 0, .slice none 0 0] 26) = W := ⟨_, rfl⟩
  have sb : Wb.heap.size = w.heap.size + 2 := by rw [← hWb]; simp [sa]
  have mb : NdMk Wb Wb.heap.size Wa.heap.size ⟨0, [], [], []⟩ none 0 none 0 none 0 := NdMk.new (kd := 0) hWb
  obtain ⟨Wc, hWc⟩ : ∃ W, Wb.alloc (.cells #[.int .i64 0] 3) = W := ⟨_, rfl⟩
  have sc : Wc.heap.size = w.heap.size + 3 := by rw [← hWc]; simp [sb]
  have rc : Rw Wc Wb.heap.size 3 #[.int .i64 0] := by rw [← hWc]; exact Rw.new Wb _ _
  obtain ⟨W, hW⟩ : ∃ W, Wc.alloc (.cells #[.int .i64 0] 28) = W := ⟨_, rfl⟩
  have sw : W.heap.size = base := by rw [← hW, ← hbase]; simp [sc]
  have rd : Rw W Wc.heap.size 28 #[.int .i64 0] := by rw [← hW]; exact Rw.new Wc _ _
  have bab : Below Wa.heap.size Wa Wb := by rw [← hWb]; exact (Below.refl _ _).alloc (Nat.le_refl _) _
  have bbc : Below Wb.heap.size Wb Wc := by rw [← hWc]; exact (Below.refl _ _).alloc (Nat.le_refl _) _
  have bcd : Below Wc.heap.size Wc W := by rw [← hW]; exact (Below.refl _ _).alloc (Nat.le_refl _) _
  have bwa : Below w.heap.size w Wa := by rw [← hWa]; exact (Below.refl _ _).alloc (Nat.le_refl _) _
  have HBW : Hid (Below w.heap.size w W) := ((bwa.trans (bab.mono (by omega))).trans (bbc.mono (by omega))).trans (bcd.mono (by omega))
  have HRW : Hid (RdSt W B w.heap.size (w.heap.size + 2) (w.heap.size + 3) v l (0, 0)) := by
    refine ⟨((ra.below bab (by omega)).below bbc (by omega)).below bcd (by omega), ?_, ?_, hv.below_ HBW.out (by omega), by omega, by omega⟩
    · rw [← sb]; exact rc.below bcd (by omega)
    · rw [← sc]; exact rd
  have HMW : Hid (NdMk W base g ⟨0, [], [], []⟩ none 0 none 0 none 0) := by
    have h1 := ((mb.row.below bbc (by omega)).below bcd (by omega))
    rw [sa, hg] at h1
    exact ⟨h1, by omega, by omega, OwnL.nil_ _ _ _, OwnL.nil_ _ _ _, OwnL.nil_ _ _ _, fun k hk => by cases hk⟩
  have HG : Hid (w.heap.size + 1 = g ∧ w.heap.size + 4 = base ∧ B ≤ w.heap.size) := ⟨hg, hbase, hB⟩
  have HNUM : Hid (∀ (w' : World) (s : Nat × Nat) (m : Nat), m ≤ 65535 → RdSt w' B w.heap.size (w.heap.size + 2) (w.heap.size + 3) v l s → Calls Try.prog 65 #[.int .u64 (m : Nat), .pointer (some ⟨w.heap.size + 3, 0, none⟩), .pointer (some ⟨w.heap.size, 0, none⟩), .pointer (some ⟨w.heap.size + 2, 0, none⟩)] w' (IsRd (.int .i64 ((Nd.numE l s m).1 : Nat)) B w.heap.size (w.heap.size + 2) (w.heap.size + 3) v l (Nd.numE l s m).2 w')) := fun w' s m hm h => prdnum_any m hm h
  have HROW : Hid (∀ (w' : World) (s : Nat × Nat), RdSt w' B w.heap.size (w.heap.size + 2) (w.heap.size + 3) v l s → Calls Try.prog 67 #[.int .i64 40, .pointer (some ⟨w.heap.size + 3, 0, none⟩), .pointer (some ⟨w.heap.size, 0, none⟩), .pointer (some ⟨w.heap.size + 2, 0, none⟩)] w' (IsRd (.string (bstr (Nd.rowE l s 40).1)) B w.heap.size (w.heap.size + 2) (w.heap.size + 3) v l (Nd.rowE l s 40).2 w')) := fun w' s h => prdrow_any 40 (by omega) h hsz
  have HSZ := Lib.hid hsz
  have HK8 := Lib.hid hk8
  obtain ⟨⟨cnt, s1⟩, hcnt⟩ : ∃ r, Nd.numE l (0, 0) 6 = r := ⟨_, rfl⟩
  have hc6 : cnt ≤ 6 := by have := Nd.numE_le (l := l) (s := (0, 0)) (most := 6); rw [hcnt] at this; exact this
  have HCNT := Lib.hid hcnt
  have HC6 := Lib.hid hc6
  have HNU1 := Lib.hid (fun (w' : World) (h : RdSt w' B w.heap.size (w.heap.size + 2) (w.heap.size + 3) v l (0, 0)) => HNUM.out w' (0, 0) 6 (by omega) h)
  rw [hcnt] at HNU1
  -- behind the kind
  have k0c : W.cell? ⟨g, 0, none⟩ = some (.int .u8 0) := HMW.out.row.cell 0
  have k0f : W.frozen? ⟨g, 0, none⟩ = false := HMW.out.row.frozen 0
  obtain ⟨X, hX⟩ : ∃ X, W.setCell ⟨g, 0, none⟩ (.int .u8 (kind : Nat)) = X := ⟨_, rfl⟩
  have HMX : Hid (NdMk X base g ⟨kind, [], [], []⟩ none 0 none 0 none 0) := by unfold Hid; rw [← hX]; exact HMW.out.setKind kind
  have hTX : Turned (fun q => q = g) W X := by rw [← hX]; exact (Turned.refl (fun q => q = g) W).setCell (p := ⟨g, 0, none⟩) (fun _ => rfl) _
  have HRX : Hid (RdSt X B w.heap.size (w.heap.size + 2) (w.heap.size + 3) v l (0, 0)) := HRW.out.turned hTX (fun q hq => by omega)
  have HBX : Hid (Below w.heap.size w X) := HBW.out.trans (hTX.below (by omega) (fun q hq => by omega))
  have hcl : (w.heap.size : Nat) + 1 = g := hg
  clear hv hsz hcnt hc6 ra rc rd bab bbc bcd bwa mb hTX HBW HRW HMW hbase hB hcl
  subst hg
  subst hvv
  go_enter Try.func44, Try.ntmps44
  go_wp2_with fail
  refine (HNU1.out X HRX.out).mono ?_
  rintro e w1 ⟨rfl, hs1, ht1⟩
  have HM1 := Lib.hid (HMX.out.turned_ ht1 (fun q hq => by have h1 := HG.out; rcases hq with hq | hq <;> omega))
  have HR1 := Lib.hid hs1
  have HB1 : Hid (Below w.heap.size w w1) := HBX.out.trans (ht1.below HBX.out.size (fun q hq => by have h1 := HG.out; rcases hq with hq | hq <;> omega))
  clear hs1 ht1 k0c k0f hX HRX HMX HBX HNU1 hWa hWb hWc hW sa sb sc sw

  by_cases hk2 : kind = 2
  · have q2 : (((kind : Nat) : Int) == 2) = true := by rw [beq_iff_eq]; omega
    have HK2 := Lib.hid hk2
    obtain ⟨⟨qv, qs⟩, hqq⟩ : ∃ r, Nd.numE l s1 65535 = r := ⟨_, rfl⟩
    have hq65 : qv ≤ 65535 := by have := Nd.numE_le (l := l) (s := s1) (most := 65535); rw [hqq] at this; exact this
    have hqi : I64 (qv : Int) := by unfold I64; omega
    have HNU2 := Lib.hid (fun (w' : World) (h : RdSt w' B w.heap.size (w.heap.size + 2) (w.heap.size + 3) (.slice A0 m0 c0) l s1) => HNUM.out w' s1 65535 (by omega) h)
    rw [hqq] at HNU2
    have HQQ := Lib.hid hqq
    have HQI := Lib.hid hqi
    have HLK : Hid ((⟨kind, [], [], []⟩ : Nd.Node).kids.length ≤ 10) := by unfold Hid; show 0 ≤ 10; omega
    obtain ⟨n1, hn1⟩ : ∃ n : Nd.Node, (⟨kind, [], [], []⟩ : Nd.Node) = n := ⟨_, rfl⟩
    have HE1 : Hid (n1.kids = [] ∧ n1.keys = [] ∧ n1.vals = [] ∧ n1.kind = kind) := by unfold Hid; rw [← hn1]; exact ⟨rfl, rfl, rfl, rfl⟩
    have HST : Hid ((Nd.startE kind l).1 = ⟨kind, [], [], [(qv : Int)]⟩ ∧ (Nd.startE kind l).2 = qs) := by
      unfold Hid Nd.startE
      rw [if_pos hk2, HCNT.out]
      simp only
      rw [hqq, hk2]
      exact ⟨rfl, rfl⟩
    clear hqq hq65 hqi hn1 hk2
    go_wp2
    have r0 : w1.drew.cell? ⟨w.heap.size + 1, 3, none⟩ = some (.slice none 0 0) := HM1.out.cells.2.2.2
    refine wp_region_m (fun x' => x'.cell? ⟨w.heap.size + 1, 3, none⟩ = some (.slice none 0 0)) 7 (by kernel_rfl) ?_
    refine wpAnyM_take (i := 0) (v := ?_) rfl (by kernel_rfl) (by kernel_rfl) (by kernel_rfl) (by kernel_rfl) (fun _ _ _ h => h) r0 (Or.inl ⟨by rfl, (by intro w' hSw; go_simp; first | done | with_reducible rfl)⟩) ?_
    try simp only [Act.put, List.getElem_toArray, List.getElem_cons_zero, List.setIfInBounds_toArray, List.set_cons_zero, List.set_cons_succ]
    refine wpAnyM_take (i := 1) (v := ?_) rfl (by kernel_rfl) (by kernel_rfl) (by kernel_rfl) (by kernel_rfl) (fun _ _ _ h => h) r0 (Or.inl ⟨by rfl, (by intro w' hSw; go_simp; first | done | with_reducible rfl)⟩) ?_
    try simp only [Act.put, List.getElem_toArray, List.getElem_cons_succ, List.getElem_cons_zero, List.setIfInBounds_toArray, List.set_cons_zero, List.set_cons_succ]
    refine wpAnyM_take (i := 2) (v := ?_) rfl (by kernel_rfl) (by kernel_rfl) (by kernel_rfl) (by kernel_rfl) (fun _ _ _ h => h) r0 (Or.inl ⟨by rfl, (by intro w' hSw; go_simp; first | done | with_reducible rfl)⟩) ?_
    try simp only [Act.put, List.getElem_toArray, List.getElem_cons_succ, List.getElem_cons_zero, List.setIfInBounds_toArray, List.set_cons_zero, List.set_cons_succ]
    refine wpAnyM_next (i := 3) (by kernel_rfl) rfl (fun K hK => ?_)
    go_simp
    refine (HNU2.out w1.drew HR1.out.drew).mono ?_
    rintro e y9 ⟨rfl, hs9, ht9⟩
    have HM9 := Lib.hid ((HM1.out.drewN_ 1).turned_ ht9 (fun q hq => by have h1 := HG.out; rcases hq with hq | hq <;> omega))
    have HR9 := Lib.hid hs9
    have HB9 : Hid (Below w.heap.size w y9) := (HB1.out.drew).trans (ht9.below HB1.out.size (fun q hq => by have h1 := HG.out; rcases hq with hq | hq <;> omega))
    have s1 : y9.cell? ⟨w.heap.size + 1, 3, none⟩ = some (.slice none 0 0) := HM9.out.cells.2.2.2
    clear hs9 ht9
    refine hK.out _ _ (.inr s1) ?_
    clear hK K
    try simp only [Act.put, List.getElem_toArray, List.getElem_cons_succ, List.getElem_cons_zero, List.setIfInBounds_toArray, List.set_cons_zero, List.set_cons_succ]
    have s2 : (y9.alloc (.cells #[.int .i64 (qv : Int)] 3)).cell? ⟨w.heap.size + 1, 3, none⟩ = some (.slice none 0 0) := ((HM9.out.row.old _).cell 3)
    refine wpAnyM_next (i := 4) (by kernel_rfl) rfl (fun K hK => ?_)
    go_simp
    refine hK.out _ _ (.inr s2) ?_
    clear hK K
    try simp only [Act.put, List.getElem_toArray, List.getElem_cons_succ, List.getElem_cons_zero, List.setIfInBounds_toArray, List.set_cons_zero, List.set_cons_succ]
    refine wpAnyM_next (i := 5) (by kernel_rfl) rfl (fun K hK => ?_)
    refine step_push_m y9 iK rfl _ _ rfl base (.slice none 0 0) rfl (⟨kind, [], [], []⟩ : Nd.Node).kids HM9.out.kids rfl (qv : Int) HQI.out _ rfl _ rfl (by show (0 + 1) * 8 ≤ 140737488355328; decide) (by show 0 + 1 ≤ 9223372036854775807; decide) HM9.out.top ?_
    intro A9 c9 w3 hA hG hM
    have hr3 := HM9.out.grown_row (fun k hk => (HM9.out.kids.lt_ k hk).1) hG
    have s3 : w3.cell? ⟨w.heap.size + 1, 3, none⟩ = some (.slice none 0 0) := hr3.cell 3
    have z3 : w3.frozen? ⟨w.heap.size + 1, 3, none⟩ = false := hr3.frozen 3
    refine hK.out _ _ (.inr s3) ?_
    clear hK K s1 s2
    try simp only [Act.put, List.getElem_toArray, List.getElem_cons_succ, List.getElem_cons_zero, List.setIfInBounds_toArray, List.set_cons_zero, List.set_cons_succ]
    refine wpAnyM_take (i := 6) (v := ?_) rfl (by kernel_rfl) (by kernel_rfl) (by kernel_rfl) (by kernel_rfl) (fun _ _ _ h => h) s3 (Or.inl ⟨by rfl, (by intro w' hSw; go_simp; first | done | with_reducible rfl)⟩) ?_
    try simp only [Act.put, List.getElem_toArray, List.getElem_cons_succ, List.getElem_cons_zero, List.setIfInBounds_toArray, List.set_cons_zero, List.set_cons_succ]
    have hT3 := grown_turn (g := w.heap.size + 1) (off := 3) (base := base) hG (fun k hk => (HM9.out.kids.lt_ k hk).1) (.slice A9 (1) c9)
    have HM9b : Hid (NdMk (w3.setCell ⟨w.heap.size + 1, 3, none⟩ (.slice A9 (1) c9)) base (w.heap.size + 1) _ _ _ _ _ _ _) := HM9.out.kid (x := (qv : Int)) hA hG
    have HR9b := Lib.hid (HR9.out.turned hT3 (fun q hq => by have h1 := HG.out; rcases hq with hq | hq <;> omega))
    have HB9b : Hid (Below w.heap.size w _) := HB9.out.trans (hT3.below HB9.out.size (fun q hq => by have h1 := HG.out; rcases hq with hq | hq <;> omega))
    obtain ⟨W9, hW9⟩ : ∃ W', w3.setCell ⟨w.heap.size + 1, 3, none⟩ (.slice A9 (1) c9) = W' := ⟨_, rfl⟩
    refine wpAnyM_next (i := 7) (by kernel_rfl) rfl (fun K hK => ?_)
    go_simp
    refine hK.out _ _ (.inl (Nat.le_refl _)) ?_
    clear hK K
    try simp only [Act.put, List.getElem_toArray, List.getElem_cons_succ, List.getElem_cons_zero, List.setIfInBounds_toArray, List.set_cons_zero, List.set_cons_succ]
    refine wpAnyM_done (by kernel_rfl) ?_ _
    rw [hW9] at HM9b HR9b HB9b
    try rw [hW9]
    clear r0 s3 z3 hr3 hA hG hM hT3 HM9 HR9 HB9
    obtain ⟨n0, hn0⟩ : ∃ n : Nd.Node, (⟨kind, [], [], [(qv : Int)]⟩ : Nd.Node) = n := ⟨_, rfl⟩
    have HM0c := Lib.hid HM9b.out
    simp only [List.nil_append] at HM0c
    rw [hn0] at HM0c HST
    have HN0 := Lib.hid hn0
    obtain ⟨sS, hsS⟩ : ∃ s, qs = s := ⟨_, rfl⟩
    rw [hsS] at HST HR9b
    clear hn0 hsS HM9b
    have HSL : Hid ((Nd.startE kind l).1 = n0 ∧ (Nd.startE kind l).2 = sS) := HST.out
    go_wp2
    go_loopw [26] (fun i wr => ∃ (k : Nat) (Ak : Option Addr) (ck : Nat) (Av : Option Addr) (cv : Nat) (Ai : Option Addr) (ci : Nat), k ≤ cnt ∧ i = .int .i64 k ∧ Hid (NdMk wr base (w.heap.size + 1) (Nd.loopE l (Nd.startE kind l) k).1 Ak ck Av cv Ai ci) ∧ Hid (RdSt wr B w.heap.size (w.heap.size + 2) (w.heap.size + 3) (.slice A0 m0 c0) l (Nd.loopE l (Nd.startE kind l) k).2) ∧ Hid (Below w.heap.size w wr)) (fun i _ => cnt - (intOf i).toNat)
    case atStart => exact ⟨0, none, 0, none, 0, A9, c9, by omega, rfl, by have := HM0c.out; rw [← HSL.out.1] at this; exact this, by have := HR9b.out; rw [← HSL.out.2] at this; exact this, HB9b.out⟩
    case round =>
      obtain ⟨k, Ak, ck, Av, cv, Ai, ci, hk, rfl, HMr, HRr, HBr⟩ := hrel
      clear HM0c HR9b HB9b
      have HKI : Hid ((Nd.loopE l (Nd.startE kind l) k).1.kind = kind) := by
        unfold Hid; rw [Nd.loop_kind, HSL.out.1, ← HN0.out]
      have hln := Nd.loop_len l (Nd.startE kind l) k
      rw [HSL.out.1] at hln
      have hn0l : n0.keys.length ≤ 1 ∧ n0.vals.length ≤ 1 ∧ n0.kids.length ≤ 1 := by rw [← HN0.out]; simp
      by_cases hlt : k < cnt
      rotate_left
      · have ek : k = cnt := by omega
        subst ek
        have hlt2 : ¬ (k : Int) < (k : Int) := by omega
        have HFE : Hid (Nd.loopE l (Nd.startE kind l) k = Nd.readE kind l) := by unfold Hid Nd.readE; rw [HCNT.out]
        rw [HFE.out] at HMr HRr HKI
        obtain ⟨⟨nf, af, ef⟩, hf⟩ : ∃ r, Nd.readE kind l = r := ⟨_, rfl⟩
        have HF := Lib.hid hf
        rw [hf] at HMr HRr HKI
        have c4 := HMr.out.row
        have HL1 := Lib.hid (And.intro hln hn0l)
        clear hlt hk hln hn0l hf
        go_wp2
        have hr0 : Rw wr.drew (w.heap.size + 1) 26 (ndC nf Ak ck Av cv Ai ci) ∧ Rw wr.drew (w.heap.size + 2) 3 #[.int .i64 (af : Nat)] ∧ Rw wr.drew (w.heap.size + 3) 28 #[.int .i64 (ef : Nat)] := ⟨HMr.out.row, HRr.out.ra, HRr.out.re⟩
        have hSn := pn_size nf Ak ck Av cv Ai ci
        refine wp_region_held_drew (S := fun w' => (Rw w' (w.heap.size + 1) 26 (ndC nf Ak ck Av cv Ai ci) ∧ Rw w' (w.heap.size + 2) 3 #[.int .i64 (af : Nat)] ∧ Rw w' (w.heap.size + 3) 28 #[.int .i64 (ef : Nat)]) ∧ Turned (fun q => w.heap.size + 1 ≤ q ∧ q ≤ w.heap.size + 3) wr w') (by kernel_rfl) ⟨hr0, (Turned.refl _ wr).drew⟩ (fun hH => ?_)
        refine wpAnyH_take (i := 0) (v := .agg (ndC nf Ak ck Av cv Ai ci)) rfl (by kernel_rfl) (by kernel_rfl) (by kernel_rfl) (fun _ _ _ h => h) (Or.inl ⟨by rfl, fun w' hSw => exec_load_row _ _ rfl (w.heap.size + 1) rfl 26 (ndC nf Ak ck Av cv Ai ci) (0, 0) _ w' hSw.1.1 Try.underlying26 rfl hSn⟩) hH ?_
        try simp only [Act.put, List.getElem_toArray, List.getElem_cons_zero, List.setIfInBounds_toArray, List.set_cons_zero, List.set_cons_succ]
        refine wpAnyH_take (i := 2) (v := ?_) rfl (by kernel_rfl) (by kernel_rfl) (by kernel_rfl) (fun _ _ _ h => h) (Or.inl ⟨by rfl, (by intro w' hSw; have s1 : w'.cell? ⟨w.heap.size + 3, 0, none⟩ = some (.int .i64 (ef : Nat)) := hSw.1.2.2.cell 0; go_simp; first | done | with_reducible rfl)⟩) hH ?_
        try simp only [Act.put, List.getElem_toArray, List.getElem_cons_succ, List.getElem_cons_zero, List.setIfInBounds_toArray, List.set_cons_zero, List.set_cons_succ]
        refine wpAnyH_take (i := 1) (v := ?_) rfl (by kernel_rfl) (by kernel_rfl) (by kernel_rfl) (fun _ _ _ h => h) (Or.inl ⟨by rfl, (by intro w' hSw; have s1 : w'.cell? ⟨w.heap.size + 2, 0, none⟩ = some (.int .i64 (af : Nat)) := hSw.1.2.1.cell 0; go_simp; first | done | with_reducible rfl)⟩) hH ?_
        try simp only [Act.put, List.getElem_toArray, List.getElem_cons_succ, List.getElem_cons_zero, List.setIfInBounds_toArray, List.set_cons_zero, List.set_cons_succ]
        refine wpAnyH_ready (rs := [3]) (by kernel_rfl) (by simp) ?_
        refine AllReadyH.cons rfl (fun K hK => ?_) AllReadyH.nil
        rw [if_pos (by rfl)]
        refine wp_store_row 26 (.tmp 4) (.tmp 52) rfl (w.heap.size + 1) (ndC nf Ak ck Av cv Ai ci) rfl rfl 26 (ndC nf Ak ck Av cv Ai ci) hr0.1 hSn rfl (pn_one nf Ak ck Av cv Ai ci) ?_
        obtain ⟨V1, hV1⟩ : ∃ V, wr.drew.setRow (w.heap.size + 1) (ndC nf Ak ck Av cv Ai ci) = V := ⟨_, rfl⟩
        have v1a : Rw V1 (w.heap.size + 1) 26 (ndC nf Ak ck Av cv Ai ci) := by rw [← hV1]; exact hr0.1.row _
        have v1b : Rw V1 (w.heap.size + 2) 3 #[.int .i64 (af : Nat)] := by rw [← hV1]; exact hr0.2.1.rowOther (by omega) _
        have v1c : Rw V1 (w.heap.size + 3) 28 #[.int .i64 (ef : Nat)] := by rw [← hV1]; exact hr0.2.2.rowOther (by omega) _
        have t1 : Turned (fun q => w.heap.size + 1 ≤ q ∧ q ≤ w.heap.size + 3) wr V1 := by rw [← hV1]; exact ((Turned.refl _ wr).drew).setRow (fun _ => by omega) _
        rw [hV1]
        refine hK.out _ _ ⟨⟨v1a, v1b, v1c⟩, t1⟩ (fun hH => ?_)
        clear hK K
        try simp only [Act.put, List.getElem_toArray, List.getElem_cons_succ, List.getElem_cons_zero]
        have c5 : V1.cell? ⟨w.heap.size + 2, 0, none⟩ = some (.int .i64 (af : Nat)) := v1b.cell 0
        have f5 : V1.frozen? ⟨w.heap.size + 2, 0, none⟩ = false := v1b.frozen 0
        obtain ⟨V2, hV2⟩ : ∃ V, V1.setCell ⟨w.heap.size + 2, 0, none⟩ (.int .i64 (af : Nat)) = V := ⟨_, rfl⟩
        have v2a : Rw V2 (w.heap.size + 1) 26 (ndC nf Ak ck Av cv Ai ci) := by rw [← hV2]; exact v1a.setOther (by omega) 0 _
        have v2b : Rw V2 (w.heap.size + 2) 3 #[.int .i64 (af : Nat)] := by rw [← hV2]; exact v1b.one_put _
        have v2c : Rw V2 (w.heap.size + 3) 28 #[.int .i64 (ef : Nat)] := by rw [← hV2]; exact v1c.setOther (by omega) 0 _
        have t2 : Turned (fun q => w.heap.size + 1 ≤ q ∧ q ≤ w.heap.size + 3) wr V2 := by rw [← hV2]; exact t1.setCell (p := ⟨w.heap.size + 2, 0, none⟩) (fun _ => ⟨Nat.le_succ _, Nat.le_succ _⟩) _
        refine wpAnyH_ready (rs := [4]) (by kernel_rfl) (by simp) ?_
        refine AllReadyH.cons rfl (fun K hK => ?_) AllReadyH.nil
        go_simp
        refine hK.out _ _ ⟨⟨v2a, v2b, v2c⟩, t2⟩ (fun hH => ?_)
        clear hK K
        try simp only [Act.put, List.getElem_toArray, List.getElem_cons_succ, List.getElem_cons_zero, List.setIfInBounds_toArray, List.set_cons_zero, List.set_cons_succ]
        have c6 : V2.cell? ⟨w.heap.size + 3, 0, none⟩ = some (.int .i64 (ef : Nat)) := v2c.cell 0
        have f6 : V2.frozen? ⟨w.heap.size + 3, 0, none⟩ = false := v2c.frozen 0
        obtain ⟨V3, hV3⟩ : ∃ V, V2.setCell ⟨w.heap.size + 3, 0, none⟩ (.int .i64 (ef : Nat)) = V := ⟨_, rfl⟩
        have v3a : Rw V3 (w.heap.size + 1) 26 (ndC nf Ak ck Av cv Ai ci) := by rw [← hV3]; exact v2a.setOther (by omega) 0 _
        have v3b : Rw V3 (w.heap.size + 2) 3 #[.int .i64 (af : Nat)] := by rw [← hV3]; exact v2b.setOther (by omega) 0 _
        have v3c : Rw V3 (w.heap.size + 3) 28 #[.int .i64 (ef : Nat)] := by rw [← hV3]; exact v2c.one_put _
        have t3 : Turned (fun q => w.heap.size + 1 ≤ q ∧ q ≤ w.heap.size + 3) wr V3 := by rw [← hV3]; exact t2.setCell (p := ⟨w.heap.size + 3, 0, none⟩) (fun _ => ⟨by show w.heap.size + 1 ≤ w.heap.size + 3; omega, Nat.le_refl _⟩) _
        refine wpAnyH_ready (rs := [5]) (by kernel_rfl) (by simp) ?_
        refine AllReadyH.cons rfl (fun K hK => ?_) AllReadyH.nil
        go_simp
        refine hK.out _ _ ⟨⟨v3a, v3b, v3c⟩, t3⟩ (fun hH => ?_)
        clear hK K
        try simp only [Act.put, List.getElem_toArray, List.getElem_cons_succ, List.getElem_cons_zero, List.setIfInBounds_toArray, List.set_cons_zero, List.set_cons_succ]
        refine wpAnyH_done (by kernel_rfl) ?_ _
        clear hH
        have hoff : ∀ q, base ≤ q → ¬ (w.heap.size + 1 ≤ q ∧ q ≤ w.heap.size + 3) := fun q hq => by have := HG.out; omega
        clear hV1 hV2 hV3
        go_wp2
        rw [HF.out]
        refine bodyPost_ret (results_read rfl _ _ (w.heap.size + 1) (w.heap.size + 2) (w.heap.size + 3) (ndC nf Ak ck Av cv Ai ci) (.int .i64 (af : Nat)) (.int .i64 (ef : Nat)) rfl rfl rfl hSn v3a v3b v3c) rfl ⟨Ak, ck, Av, cv, Ai, ci, rfl, by rw [HKI.out]; exact HK8.out, ?_, ?_, ?_, ?_⟩
        · exact (HMr.out.keys.turned_ t3 (fun k hk => hoff k (HMr.out.keys.lt_ k hk).1)).mono_ (by have := HG.out; omega)
        · exact (HMr.out.vals.turned_ t3 (fun k hk => hoff k (HMr.out.vals.lt_ k hk).1)).mono_ (by have := HG.out; omega)
        · exact (HMr.out.kids.turned_ t3 (fun k hk => hoff k (HMr.out.kids.lt_ k hk).1)).mono_ (by have := HG.out; omega)
        · exact HBr.out.trans (t3.below HBr.out.size (fun q hq => by omega))
      have hlti : (k : Int) < (cnt : Int) := by omega
      have wk : IntKind.i64.wrap ((k : Int) + 1) = (k : Int) + 1 := by rw [IntKind.wrap_i64]; have := HC6.out; omega
      obtain ⟨⟨xn, xs⟩, hx⟩ : ∃ r, Nd.loopE l (Nd.startE kind l) k = r := ⟨_, rfl⟩
      rw [hx] at HMr HRr HKI hln
      obtain ⟨⟨rv, rs⟩, hrr⟩ : ∃ r, Nd.rowE l xs 40 = r := ⟨_, rfl⟩
      have hrl : (bstr rv).size ≤ maxLen := by rw [bstr_size]; have := Nd.rowE_len l xs 40; rw [hrr] at this; have h9 := HSZ.out; simp only [maxLen]; have this : rv.length ≤ l.length := this; omega
      have HRO1 := Lib.hid (fun (w' : World) (h : RdSt w' B w.heap.size (w.heap.size + 2) (w.heap.size + 3) (.slice A0 m0 c0) l xs) => HROW.out w' xs h)
      rw [hrr] at HRO1
      have HX := Lib.hid hx
      have HRR := Lib.hid hrr
      have HRL := Lib.hid hrl
      have HLT := Lib.hid hlt
      have HLN : Hid (xn.keys.length ≤ 10 ∧ xn.vals.length ≤ 10 ∧ xn.kids.length ≤ 10) := by unfold Hid; have h6 := HC6.out; obtain ⟨hl1, hl2, hl3⟩ := hln; have g1 : xn.keys.length ≤ n0.keys.length + k := hl1; have g2 : xn.vals.length ≤ n0.vals.length + k := hl2; have g3 : xn.kids.length ≤ n0.kids.length + k := hl3; exact ⟨by omega, by omega, by omega⟩
      clear hx hrr hrl hlt hk hln hn0l
      go_wp2
      have r0 : wr.drew.cell? ⟨w.heap.size + 1, 1, none⟩ = some (.slice Ak xn.keys.length ck) := HMr.out.cells.2.1
      refine wp_region_m (fun x' => x'.cell? ⟨w.heap.size + 1, 1, none⟩ = some (.slice Ak xn.keys.length ck)) 7 (by kernel_rfl) ?_
      refine wpAnyM_take (i := 0) (v := ?_) rfl (by kernel_rfl) (by kernel_rfl) (by kernel_rfl) (by kernel_rfl) (fun _ _ _ h => h) r0 (Or.inl ⟨by rfl, (by intro w' hSw; go_simp; first | done | with_reducible rfl)⟩) ?_
      try simp only [Act.put, List.getElem_toArray, List.getElem_cons_zero, List.setIfInBounds_toArray, List.set_cons_zero, List.set_cons_succ]
      refine wpAnyM_take (i := 1) (v := ?_) rfl (by kernel_rfl) (by kernel_rfl) (by kernel_rfl) (by kernel_rfl) (fun _ _ _ h => h) r0 (Or.inl ⟨by rfl, (by intro w' hSw; go_simp; first | done | with_reducible rfl)⟩) ?_
      try simp only [Act.put, List.getElem_toArray, List.getElem_cons_succ, List.getElem_cons_zero, List.setIfInBounds_toArray, List.set_cons_zero, List.set_cons_succ]
      refine wpAnyM_take (i := 2) (v := ?_) rfl (by kernel_rfl) (by kernel_rfl) (by kernel_rfl) (by kernel_rfl) (fun _ _ _ h => h) r0 (Or.inl ⟨by rfl, (by intro w' hSw; go_simp; first | done | with_reducible rfl)⟩) ?_
      try simp only [Act.put, List.getElem_toArray, List.getElem_cons_succ, List.getElem_cons_zero, List.setIfInBounds_toArray, List.set_cons_zero, List.set_cons_succ]
      refine wpAnyM_next (i := 3) (by kernel_rfl) rfl (fun K hK => ?_)
      go_simp
      refine (HRO1.out wr.drew HRr.out.drew).mono ?_
      rintro e y1 ⟨rfl, hs1, ht1⟩
      have HM1 := Lib.hid ((HMr.out.drewN_ 1).turned_ ht1 (fun q hq => by have h1 := HG.out; rcases hq with hq | hq <;> omega))
      have HR1 := Lib.hid hs1
      have HB1 : Hid (Below w.heap.size w y1) := (HBr.out.drew).trans (ht1.below HBr.out.size (fun q hq => by have h1 := HG.out; rcases hq with hq | hq <;> omega))
      have s1 : y1.cell? ⟨w.heap.size + 1, 1, none⟩ = some (.slice Ak xn.keys.length ck) := HM1.out.cells.2.1
      clear hs1 ht1
      refine hK.out _ _ (.inr s1) ?_
      clear hK K
      try simp only [Act.put, List.getElem_toArray, List.getElem_cons_succ, List.getElem_cons_zero, List.setIfInBounds_toArray, List.set_cons_zero, List.set_cons_succ]
      have s2 : (y1.alloc (.cells #[.string (bstr rv)] 9)).cell? ⟨w.heap.size + 1, 1, none⟩ = some (.slice Ak xn.keys.length ck) := ((HM1.out.row.old _).cell 1)
      refine wpAnyM_next (i := 4) (by kernel_rfl) rfl (fun K hK => ?_)
      go_simp
      refine hK.out _ _ (.inr s2) ?_
      clear hK K
      try simp only [Act.put, List.getElem_toArray, List.getElem_cons_succ, List.getElem_cons_zero, List.setIfInBounds_toArray, List.set_cons_zero, List.set_cons_succ]
      refine wpAnyM_next (i := 5) (by kernel_rfl) rfl (fun K hK => ?_)
      refine step_push_m y1 sK rfl _ _ rfl base (.slice Ak xn.keys.length ck) rfl xn.keys HM1.out.keys rfl (bstr rv) HRL.out _ rfl _ rfl (by show (_ + 1) * 16 ≤ _; have := HLN.out; omega) (by have := HLN.out; simp only [maxLen]; omega) HM1.out.top ?_
      intro A1 c1 w3 hA hG hM
      have hr3 := HM1.out.grown_row (fun k hk => (HM1.out.keys.lt_ k hk).1) hG
      have s3 : w3.cell? ⟨w.heap.size + 1, 1, none⟩ = some (.slice Ak xn.keys.length ck) := hr3.cell 1
      have z3 : w3.frozen? ⟨w.heap.size + 1, 1, none⟩ = false := hr3.frozen 1
      refine hK.out _ _ (.inr s3) ?_
      clear hK K s1 s2
      try simp only [Act.put, List.getElem_toArray, List.getElem_cons_succ, List.getElem_cons_zero, List.setIfInBounds_toArray, List.set_cons_zero, List.set_cons_succ]
      refine wpAnyM_take (i := 6) (v := ?_) rfl (by kernel_rfl) (by kernel_rfl) (by kernel_rfl) (by kernel_rfl) (fun _ _ _ h => h) s3 (Or.inl ⟨by rfl, (by intro w' hSw; go_simp; first | done | with_reducible rfl)⟩) ?_
      try simp only [Act.put, List.getElem_toArray, List.getElem_cons_succ, List.getElem_cons_zero, List.setIfInBounds_toArray, List.set_cons_zero, List.set_cons_succ]
      have hT3 := grown_turn (g := w.heap.size + 1) (off := 1) (base := base) hG (fun k hk => (HM1.out.keys.lt_ k hk).1) (.slice A1 (xn.keys.length + 1) c1)
      have HM1b : Hid (NdMk (w3.setCell ⟨w.heap.size + 1, 1, none⟩ (.slice A1 (xn.keys.length + 1) c1)) base (w.heap.size + 1) _ _ _ _ _ _ _) := HM1.out.key (x := (bstr rv)) hA hG hM
      have HR1b := Lib.hid (HR1.out.turned hT3 (fun q hq => by have h1 := HG.out; rcases hq with hq | hq <;> omega))
      have HB1b : Hid (Below w.heap.size w _) := HB1.out.trans (hT3.below HB1.out.size (fun q hq => by have h1 := HG.out; rcases hq with hq | hq <;> omega))
      obtain ⟨W1, hW1⟩ : ∃ W', w3.setCell ⟨w.heap.size + 1, 1, none⟩ (.slice A1 (xn.keys.length + 1) c1) = W' := ⟨_, rfl⟩
      refine wpAnyM_next (i := 7) (by kernel_rfl) rfl (fun K hK => ?_)
      go_simp
      refine hK.out _ _ (.inl (Nat.le_refl _)) ?_
      clear hK K
      try simp only [Act.put, List.getElem_toArray, List.getElem_cons_succ, List.getElem_cons_zero, List.setIfInBounds_toArray, List.set_cons_zero, List.set_cons_succ]
      refine wpAnyM_done (by kernel_rfl) ?_ _
      rw [hW1] at HM1b HR1b HB1b
      try rw [hW1]
      clear r0 s3 z3 hr3 hA hG hM hT3 HM1 HR1 HB1
      obtain ⟨⟨qv, qs⟩, hqq⟩ : ∃ r, Nd.numE l rs 65535 = r := ⟨_, rfl⟩
      have hq65 : qv ≤ 65535 := by have := Nd.numE_le (l := l) (s := rs) (most := 65535); rw [hqq] at this; exact this
      have hqi : I64 (qv : Int) := by unfold I64; omega
      have HNU3 := Lib.hid (fun (w' : World) (h : RdSt w' B w.heap.size (w.heap.size + 2) (w.heap.size + 3) (.slice A0 m0 c0) l rs) => HNUM.out w' rs 65535 (by omega) h)
      rw [hqq] at HNU3
      have HQI := Lib.hid hqi
      have HQQ := Lib.hid hqq
      clear hqq hq65 hqi
      go_wp2
      have r0 : W1.drew.cell? ⟨w.heap.size + 1, 3, none⟩ = some (.slice Ai xn.kids.length ci) := HM1b.out.cells.2.2.2
      refine wp_region_m (fun x' => x'.cell? ⟨w.heap.size + 1, 3, none⟩ = some (.slice Ai xn.kids.length ci)) 7 (by kernel_rfl) ?_
      refine wpAnyM_take (i := 0) (v := ?_) rfl (by kernel_rfl) (by kernel_rfl) (by kernel_rfl) (by kernel_rfl) (fun _ _ _ h => h) r0 (Or.inl ⟨by rfl, (by intro w' hSw; go_simp; first | done | with_reducible rfl)⟩) ?_
      try simp only [Act.put, List.getElem_toArray, List.getElem_cons_zero, List.setIfInBounds_toArray, List.set_cons_zero, List.set_cons_succ]
      refine wpAnyM_take (i := 1) (v := ?_) rfl (by kernel_rfl) (by kernel_rfl) (by kernel_rfl) (by kernel_rfl) (fun _ _ _ h => h) r0 (Or.inl ⟨by rfl, (by intro w' hSw; go_simp; first | done | with_reducible rfl)⟩) ?_
      try simp only [Act.put, List.getElem_toArray, List.getElem_cons_succ, List.getElem_cons_zero, List.setIfInBounds_toArray, List.set_cons_zero, List.set_cons_succ]
      refine wpAnyM_take (i := 2) (v := ?_) rfl (by kernel_rfl) (by kernel_rfl) (by kernel_rfl) (by kernel_rfl) (fun _ _ _ h => h) r0 (Or.inl ⟨by rfl, (by intro w' hSw; go_simp; first | done | with_reducible rfl)⟩) ?_
      try simp only [Act.put, List.getElem_toArray, List.getElem_cons_succ, List.getElem_cons_zero, List.setIfInBounds_toArray, List.set_cons_zero, List.set_cons_succ]
      refine wpAnyM_next (i := 3) (by kernel_rfl) rfl (fun K hK => ?_)
      go_simp
      refine (HNU3.out W1.drew HR1b.out.drew).mono ?_
      rintro e y2 ⟨rfl, hs2, ht2⟩
      have HM2 := Lib.hid ((HM1b.out.drewN_ 1).turned_ ht2 (fun q hq => by have h1 := HG.out; rcases hq with hq | hq <;> omega))
      have HR2 := Lib.hid hs2
      have HB2 : Hid (Below w.heap.size w y2) := (HB1b.out.drew).trans (ht2.below HB1b.out.size (fun q hq => by have h1 := HG.out; rcases hq with hq | hq <;> omega))
      have s1 : y2.cell? ⟨w.heap.size + 1, 3, none⟩ = some (.slice Ai xn.kids.length ci) := HM2.out.cells.2.2.2
      clear hs2 ht2
      refine hK.out _ _ (.inr s1) ?_
      clear hK K
      try simp only [Act.put, List.getElem_toArray, List.getElem_cons_succ, List.getElem_cons_zero, List.setIfInBounds_toArray, List.set_cons_zero, List.set_cons_succ]
      have s2 : (y2.alloc (.cells #[.int .i64 (qv : Int)] 3)).cell? ⟨w.heap.size + 1, 3, none⟩ = some (.slice Ai xn.kids.length ci) := ((HM2.out.row.old _).cell 3)
      refine wpAnyM_next (i := 4) (by kernel_rfl) rfl (fun K hK => ?_)
      go_simp
      refine hK.out _ _ (.inr s2) ?_
      clear hK K
      try simp only [Act.put, List.getElem_toArray, List.getElem_cons_succ, List.getElem_cons_zero, List.setIfInBounds_toArray, List.set_cons_zero, List.set_cons_succ]
      refine wpAnyM_next (i := 5) (by kernel_rfl) rfl (fun K hK => ?_)
      refine step_push_m y2 iK rfl _ _ rfl base (.slice Ai xn.kids.length ci) rfl xn.kids HM2.out.kids rfl (qv : Int) HQI.out _ rfl _ rfl (by show (_ + 1) * 8 ≤ _; have := HLN.out; omega) (by have := HLN.out; simp only [maxLen]; omega) HM2.out.top ?_
      intro A2 c2 w3 hA hG hM
      have hr3 := HM2.out.grown_row (fun k hk => (HM2.out.kids.lt_ k hk).1) hG
      have s3 : w3.cell? ⟨w.heap.size + 1, 3, none⟩ = some (.slice Ai xn.kids.length ci) := hr3.cell 3
      have z3 : w3.frozen? ⟨w.heap.size + 1, 3, none⟩ = false := hr3.frozen 3
      refine hK.out _ _ (.inr s3) ?_
      clear hK K s1 s2
      try simp only [Act.put, List.getElem_toArray, List.getElem_cons_succ, List.getElem_cons_zero, List.setIfInBounds_toArray, List.set_cons_zero, List.set_cons_succ]
      refine wpAnyM_take (i := 6) (v := ?_) rfl (by kernel_rfl) (by kernel_rfl) (by kernel_rfl) (by kernel_rfl) (fun _ _ _ h => h) s3 (Or.inl ⟨by rfl, (by intro w' hSw; go_simp; first | done | with_reducible rfl)⟩) ?_
      try simp only [Act.put, List.getElem_toArray, List.getElem_cons_succ, List.getElem_cons_zero, List.setIfInBounds_toArray, List.set_cons_zero, List.set_cons_succ]
      have hT3 := grown_turn (g := w.heap.size + 1) (off := 3) (base := base) hG (fun k hk => (HM2.out.kids.lt_ k hk).1) (.slice A2 (xn.kids.length + 1) c2)
      have HM2b : Hid (NdMk (w3.setCell ⟨w.heap.size + 1, 3, none⟩ (.slice A2 (xn.kids.length + 1) c2)) base (w.heap.size + 1) _ _ _ _ _ _ _) := HM2.out.kid (x := (qv : Int)) hA hG
      have HR2b := Lib.hid (HR2.out.turned hT3 (fun q hq => by have h1 := HG.out; rcases hq with hq | hq <;> omega))
      have HB2b : Hid (Below w.heap.size w _) := HB2.out.trans (hT3.below HB2.out.size (fun q hq => by have h1 := HG.out; rcases hq with hq | hq <;> omega))
      obtain ⟨W2, hW2⟩ : ∃ W', w3.setCell ⟨w.heap.size + 1, 3, none⟩ (.slice A2 (xn.kids.length + 1) c2) = W' := ⟨_, rfl⟩
      refine wpAnyM_next (i := 7) (by kernel_rfl) rfl (fun K hK => ?_)
      go_simp
      refine hK.out _ _ (.inl (Nat.le_refl _)) ?_
      clear hK K
      try simp only [Act.put, List.getElem_toArray, List.getElem_cons_succ, List.getElem_cons_zero, List.setIfInBounds_toArray, List.set_cons_zero, List.set_cons_succ]
      refine wpAnyM_done (by kernel_rfl) ?_ _
      rw [hW2] at HM2b HR2b HB2b
      try rw [hW2]
      clear r0 s3 z3 hr3 hA hG hM hT3 HM2 HR2 HB2
      have HEND : Hid (Nd.loopE l (Nd.startE kind l) (k + 1) = (⟨xn.kind, xn.keys ++ [bstr rv], xn.vals, xn.kids ++ [(qv : Int)]⟩, qs)) := by
        unfold Hid
        show Nd.stepE l (Nd.loopE l (Nd.startE kind l) k) = _
        rw [HX.out]
        unfold Nd.stepE
        simp only
        rw [if_pos (HKI.out.trans HK2.out), HRR.out, HQQ.out]
      go_wp2
      go_roundw
      case rel => exact ⟨k + 1, A1, c1, Av, cv, A2, c2, by have := HLT.out; omega, by go_num, by rw [HEND.out]; exact HM2b.out, by rw [HEND.out]; exact HR2b.out, HB2b.out⟩
      case measure => simp [intOf]; have := HLT.out; omega
  · have q2 : (((kind : Nat) : Int) == 2) = false := by rw [beq_eq_false_iff_ne]; omega
    have HK2 := Lib.hid hk2
    obtain ⟨n0, hn0⟩ : ∃ n : Nd.Node, (⟨kind, [], [], []⟩ : Nd.Node) = n := ⟨_, rfl⟩
    rw [hn0] at HM1
    have HN0 := Lib.hid hn0
    have HST : Hid ((Nd.startE kind l).1 = n0 ∧ (Nd.startE kind l).2 = s1) := by
      unfold Hid Nd.startE
      rw [if_neg hk2, HCNT.out, ← hn0]
      exact ⟨rfl, rfl⟩
    obtain ⟨sS, hsS⟩ : ∃ s, s1 = s := ⟨_, rfl⟩
    rw [hsS] at HST HR1
    clear hn0 hsS hk2
    have HSL : Hid ((Nd.startE kind l).1 = n0 ∧ (Nd.startE kind l).2 = sS) := HST.out
    go_wp2
    go_loopw [26] (fun i wr => ∃ (k : Nat) (Ak : Option Addr) (ck : Nat) (Av : Option Addr) (cv : Nat) (Ai : Option Addr) (ci : Nat), k ≤ cnt ∧ i = .int .i64 k ∧ Hid (NdMk wr base (w.heap.size + 1) (Nd.loopE l (Nd.startE kind l) k).1 Ak ck Av cv Ai ci) ∧ Hid (RdSt wr B w.heap.size (w.heap.size + 2) (w.heap.size + 3) (.slice A0 m0 c0) l (Nd.loopE l (Nd.startE kind l) k).2) ∧ Hid (Below w.heap.size w wr)) (fun i _ => cnt - (intOf i).toNat)
    case atStart => exact ⟨0, none, 0, none, 0, none, 0, by omega, rfl, by have := HM1.out; rw [← HSL.out.1] at this; exact this, by have := HR1.out; rw [← HSL.out.2] at this; exact this, HB1.out⟩
    case round =>
      obtain ⟨k, Ak, ck, Av, cv, Ai, ci, hk, rfl, HMr, HRr, HBr⟩ := hrel
      clear HM1 HR1 HB1
      have HKI : Hid ((Nd.loopE l (Nd.startE kind l) k).1.kind = kind) := by
        unfold Hid; rw [Nd.loop_kind, HSL.out.1, ← HN0.out]
      have hln := Nd.loop_len l (Nd.startE kind l) k
      rw [HSL.out.1] at hln
      have hn0l : n0.keys.length ≤ 1 ∧ n0.vals.length ≤ 1 ∧ n0.kids.length ≤ 1 := by rw [← HN0.out]; simp
      by_cases hlt : k < cnt
      rotate_left
      · have ek : k = cnt := by omega
        subst ek
        have hlt2 : ¬ (k : Int) < (k : Int) := by omega
        have HFE : Hid (Nd.loopE l (Nd.startE kind l) k = Nd.readE kind l) := by unfold Hid Nd.readE; rw [HCNT.out]
        rw [HFE.out] at HMr HRr HKI
        obtain ⟨⟨nf, af, ef⟩, hf⟩ : ∃ r, Nd.readE kind l = r := ⟨_, rfl⟩
        have HF := Lib.hid hf
        rw [hf] at HMr HRr HKI
        have c4 := HMr.out.row
        have HL1 := Lib.hid (And.intro hln hn0l)
        clear hlt hk hln hn0l hf
        go_wp2
        have hr0 : Rw wr.drew (w.heap.size + 1) 26 (ndC nf Ak ck Av cv Ai ci) ∧ Rw wr.drew (w.heap.size + 2) 3 #[.int .i64 (af : Nat)] ∧ Rw wr.drew (w.heap.size + 3) 28 #[.int .i64 (ef : Nat)] := ⟨HMr.out.row, HRr.out.ra, HRr.out.re⟩
        have hSn := pn_size nf Ak ck Av cv Ai ci
        refine wp_region_held_drew (S := fun w' => (Rw w' (w.heap.size + 1) 26 (ndC nf Ak ck Av cv Ai ci) ∧ Rw w' (w.heap.size + 2) 3 #[.int .i64 (af : Nat)] ∧ Rw w' (w.heap.size + 3) 28 #[.int .i64 (ef : Nat)]) ∧ Turned (fun q => w.heap.size + 1 ≤ q ∧ q ≤ w.heap.size + 3) wr w') (by kernel_rfl) ⟨hr0, (Turned.refl _ wr).drew⟩ (fun hH => ?_)
        refine wpAnyH_take (i := 0) (v := .agg (ndC nf Ak ck Av cv Ai ci)) rfl (by kernel_rfl) (by kernel_rfl) (by kernel_rfl) (fun _ _ _ h => h) (Or.inl ⟨by rfl, fun w' hSw => exec_load_row _ _ rfl (w.heap.size + 1) rfl 26 (ndC nf Ak ck Av cv Ai ci) (0, 0) _ w' hSw.1.1 Try.underlying26 rfl hSn⟩) hH ?_
        try simp only [Act.put, List.getElem_toArray, List.getElem_cons_zero, List.setIfInBounds_toArray, List.set_cons_zero, List.set_cons_succ]
        refine wpAnyH_take (i := 2) (v := ?_) rfl (by kernel_rfl) (by kernel_rfl) (by kernel_rfl) (fun _ _ _ h => h) (Or.inl ⟨by rfl, (by intro w' hSw; have s1 : w'.cell? ⟨w.heap.size + 3, 0, none⟩ = some (.int .i64 (ef : Nat)) := hSw.1.2.2.cell 0; go_simp; first | done | with_reducible rfl)⟩) hH ?_
        try simp only [Act.put, List.getElem_toArray, List.getElem_cons_succ, List.getElem_cons_zero, List.setIfInBounds_toArray, List.set_cons_zero, List.set_cons_succ]
        refine wpAnyH_take (i := 1) (v := ?_) rfl (by kernel_rfl) (by kernel_rfl) (by kernel_rfl) (fun _ _ _ h => h) (Or.inl ⟨by rfl, (by intro w' hSw; have s1 : w'.cell? ⟨w.heap.size + 2, 0, none⟩ = some (.int .i64 (af : Nat)) := hSw.1.2.1.cell 0; go_simp; first | done | with_reducible rfl)⟩) hH ?_
        try simp only [Act.put, List.getElem_toArray, List.getElem_cons_succ, List.getElem_cons_zero, List.setIfInBounds_toArray, List.set_cons_zero, List.set_cons_succ]
        refine wpAnyH_ready (rs := [3]) (by kernel_rfl) (by simp) ?_
        refine AllReadyH.cons rfl (fun K hK => ?_) AllReadyH.nil
        rw [if_pos (by rfl)]
        refine wp_store_row 26 (.tmp 4) (.tmp 52) rfl (w.heap.size + 1) (ndC nf Ak ck Av cv Ai ci) rfl rfl 26 (ndC nf Ak ck Av cv Ai ci) hr0.1 hSn rfl (pn_one nf Ak ck Av cv Ai ci) ?_
        obtain ⟨V1, hV1⟩ : ∃ V, wr.drew.setRow (w.heap.size + 1) (ndC nf Ak ck Av cv Ai ci) = V := ⟨_, rfl⟩
        have v1a : Rw V1 (w.heap.size + 1) 26 (ndC nf Ak ck Av cv Ai ci) := by rw [← hV1]; exact hr0.1.row _
        have v1b : Rw V1 (w.heap.size + 2) 3 #[.int .i64 (af : Nat)] := by rw [← hV1]; exact hr0.2.1.rowOther (by omega) _
        have v1c : Rw V1 (w.heap.size + 3) 28 #[.int .i64 (ef : Nat)] := by rw [← hV1]; exact hr0.2.2.rowOther (by omega) _
        have t1 : Turned (fun q => w.heap.size + 1 ≤ q ∧ q ≤ w.heap.size + 3) wr V1 := by rw [← hV1]; exact ((Turned.refl _ wr).drew).setRow (fun _ => by omega) _
        rw [hV1]
        refine hK.out _ _ ⟨⟨v1a, v1b, v1c⟩, t1⟩ (fun hH => ?_)
        clear hK K
        try simp only [Act.put, List.getElem_toArray, List.getElem_cons_succ, List.getElem_cons_zero]
        have c5 : V1.cell? ⟨w.heap.size + 2, 0, none⟩ = some (.int .i64 (af : Nat)) := v1b.cell 0
        have f5 : V1.frozen? ⟨w.heap.size + 2, 0, none⟩ = false := v1b.frozen 0
        obtain ⟨V2, hV2⟩ : ∃ V, V1.setCell ⟨w.heap.size + 2, 0, none⟩ (.int .i64 (af : Nat)) = V := ⟨_, rfl⟩
        have v2a : Rw V2 (w.heap.size + 1) 26 (ndC nf Ak ck Av cv Ai ci) := by rw [← hV2]; exact v1a.setOther (by omega) 0 _
        have v2b : Rw V2 (w.heap.size + 2) 3 #[.int .i64 (af : Nat)] := by rw [← hV2]; exact v1b.one_put _
        have v2c : Rw V2 (w.heap.size + 3) 28 #[.int .i64 (ef : Nat)] := by rw [← hV2]; exact v1c.setOther (by omega) 0 _
        have t2 : Turned (fun q => w.heap.size + 1 ≤ q ∧ q ≤ w.heap.size + 3) wr V2 := by rw [← hV2]; exact t1.setCell (p := ⟨w.heap.size + 2, 0, none⟩) (fun _ => ⟨Nat.le_succ _, Nat.le_succ _⟩) _
        refine wpAnyH_ready (rs := [4]) (by kernel_rfl) (by simp) ?_
        refine AllReadyH.cons rfl (fun K hK => ?_) AllReadyH.nil
        go_simp
        refine hK.out _ _ ⟨⟨v2a, v2b, v2c⟩, t2⟩ (fun hH => ?_)
        clear hK K
        try simp only [Act.put, List.getElem_toArray, List.getElem_cons_succ, List.getElem_cons_zero, List.setIfInBounds_toArray, List.set_cons_zero, List.set_cons_succ]
        have c6 : V2.cell? ⟨w.heap.size + 3, 0, none⟩ = some (.int .i64 (ef : Nat)) := v2c.cell 0
        have f6 : V2.frozen? ⟨w.heap.size + 3, 0, none⟩ = false := v2c.frozen 0
        obtain ⟨V3, hV3⟩ : ∃ V, V2.setCell ⟨w.heap.size + 3, 0, none⟩ (.int .i64 (ef : Nat)) = V := ⟨_, rfl⟩
        have v3a : Rw V3 (w.heap.size + 1) 26 (ndC nf Ak ck Av cv Ai ci) := by rw [← hV3]; exact v2a.setOther (by omega) 0 _
        have v3b : Rw V3 (w.heap.size + 2) 3 #[.int .i64 (af : Nat)] := by rw [← hV3]; exact v2b.setOther (by omega) 0 _
        have v3c : Rw V3 (w.heap.size + 3) 28 #[.int .i64 (ef : Nat)] := by rw [← hV3]; exact v2c.one_put _
        have t3 : Turned (fun q => w.heap.size + 1 ≤ q ∧ q ≤ w.heap.size + 3) wr V3 := by rw [← hV3]; exact t2.setCell (p := ⟨w.heap.size + 3, 0, none⟩) (fun _ => ⟨by show w.heap.size + 1 ≤ w.heap.size + 3; omega, Nat.le_refl _⟩) _
        refine wpAnyH_ready (rs := [5]) (by kernel_rfl) (by simp) ?_
        refine AllReadyH.cons rfl (fun K hK => ?_) AllReadyH.nil
        go_simp
        refine hK.out _ _ ⟨⟨v3a, v3b, v3c⟩, t3⟩ (fun hH => ?_)
        clear hK K
        try simp only [Act.put, List.getElem_toArray, List.getElem_cons_succ, List.getElem_cons_zero, List.setIfInBounds_toArray, List.set_cons_zero, List.set_cons_succ]
        refine wpAnyH_done (by kernel_rfl) ?_ _
        clear hH
        have hoff : ∀ q, base ≤ q → ¬ (w.heap.size + 1 ≤ q ∧ q ≤ w.heap.size + 3) := fun q hq => by have := HG.out; omega
        clear hV1 hV2 hV3
        go_wp2
        rw [HF.out]
        refine bodyPost_ret (results_read rfl _ _ (w.heap.size + 1) (w.heap.size + 2) (w.heap.size + 3) (ndC nf Ak ck Av cv Ai ci) (.int .i64 (af : Nat)) (.int .i64 (ef : Nat)) rfl rfl rfl hSn v3a v3b v3c) rfl ⟨Ak, ck, Av, cv, Ai, ci, rfl, by rw [HKI.out]; exact HK8.out, ?_, ?_, ?_, ?_⟩
        · exact (HMr.out.keys.turned_ t3 (fun k hk => hoff k (HMr.out.keys.lt_ k hk).1)).mono_ (by have := HG.out; omega)
        · exact (HMr.out.vals.turned_ t3 (fun k hk => hoff k (HMr.out.vals.lt_ k hk).1)).mono_ (by have := HG.out; omega)
        · exact (HMr.out.kids.turned_ t3 (fun k hk => hoff k (HMr.out.kids.lt_ k hk).1)).mono_ (by have := HG.out; omega)
        · exact HBr.out.trans (t3.below HBr.out.size (fun q hq => by omega))
      have hlti : (k : Int) < (cnt : Int) := by omega
      have wk : IntKind.i64.wrap ((k : Int) + 1) = (k : Int) + 1 := by rw [IntKind.wrap_i64]; have := HC6.out; omega
      obtain ⟨⟨xn, xs⟩, hx⟩ : ∃ r, Nd.loopE l (Nd.startE kind l) k = r := ⟨_, rfl⟩
      rw [hx] at HMr HRr HKI hln
      obtain ⟨⟨rv, rs⟩, hrr⟩ : ∃ r, Nd.rowE l xs 40 = r := ⟨_, rfl⟩
      have hrl : (bstr rv).size ≤ maxLen := by rw [bstr_size]; have := Nd.rowE_len l xs 40; rw [hrr] at this; have h9 := HSZ.out; simp only [maxLen]; have this : rv.length ≤ l.length := this; omega
      have HRO1 := Lib.hid (fun (w' : World) (h : RdSt w' B w.heap.size (w.heap.size + 2) (w.heap.size + 3) (.slice A0 m0 c0) l xs) => HROW.out w' xs h)
      rw [hrr] at HRO1
      have HX := Lib.hid hx
      have HRR := Lib.hid hrr
      have HRL := Lib.hid hrl
      have HLT := Lib.hid hlt
      have HLN : Hid (xn.keys.length ≤ 10 ∧ xn.vals.length ≤ 10 ∧ xn.kids.length ≤ 10) := by unfold Hid; have h6 := HC6.out; obtain ⟨hl1, hl2, hl3⟩ := hln; have g1 : xn.keys.length ≤ n0.keys.length + k := hl1; have g2 : xn.vals.length ≤ n0.vals.length + k := hl2; have g3 : xn.kids.length ≤ n0.kids.length + k := hl3; exact ⟨by omega, by omega, by omega⟩
      clear hx hrr hrl hlt hk hln hn0l
      go_wp2
      have r0 : wr.drew.cell? ⟨w.heap.size + 1, 1, none⟩ = some (.slice Ak xn.keys.length ck) := HMr.out.cells.2.1
      refine wp_region_m (fun x' => x'.cell? ⟨w.heap.size + 1, 1, none⟩ = some (.slice Ak xn.keys.length ck)) 7 (by kernel_rfl) ?_
      refine wpAnyM_take (i := 0) (v := ?_) rfl (by kernel_rfl) (by kernel_rfl) (by kernel_rfl) (by kernel_rfl) (fun _ _ _ h => h) r0 (Or.inl ⟨by rfl, (by intro w' hSw; go_simp; first | done | with_reducible rfl)⟩) ?_
      try simp only [Act.put, List.getElem_toArray, List.getElem_cons_zero, List.setIfInBounds_toArray, List.set_cons_zero, List.set_cons_succ]
      refine wpAnyM_take (i := 1) (v := ?_) rfl (by kernel_rfl) (by kernel_rfl) (by kernel_rfl) (by kernel_rfl) (fun _ _ _ h => h) r0 (Or.inl ⟨by rfl, (by intro w' hSw; go_simp; first | done | with_reducible rfl)⟩) ?_
      try simp only [Act.put, List.getElem_toArray, List.getElem_cons_succ, List.getElem_cons_zero, List.setIfInBounds_toArray, List.set_cons_zero, List.set_cons_succ]
      refine wpAnyM_take (i := 2) (v := ?_) rfl (by kernel_rfl) (by kernel_rfl) (by kernel_rfl) (by kernel_rfl) (fun _ _ _ h => h) r0 (Or.inl ⟨by rfl, (by intro w' hSw; go_simp; first | done | with_reducible rfl)⟩) ?_
      try simp only [Act.put, List.getElem_toArray, List.getElem_cons_succ, List.getElem_cons_zero, List.setIfInBounds_toArray, List.set_cons_zero, List.set_cons_succ]
      refine wpAnyM_next (i := 3) (by kernel_rfl) rfl (fun K hK => ?_)
      go_simp
      refine (HRO1.out wr.drew HRr.out.drew).mono ?_
      rintro e y1 ⟨rfl, hs1, ht1⟩
      have HM1 := Lib.hid ((HMr.out.drewN_ 1).turned_ ht1 (fun q hq => by have h1 := HG.out; rcases hq with hq | hq <;> omega))
      have HR1 := Lib.hid hs1
      have HB1 : Hid (Below w.heap.size w y1) := (HBr.out.drew).trans (ht1.below HBr.out.size (fun q hq => by have h1 := HG.out; rcases hq with hq | hq <;> omega))
      have s1 : y1.cell? ⟨w.heap.size + 1, 1, none⟩ = some (.slice Ak xn.keys.length ck) := HM1.out.cells.2.1
      clear hs1 ht1
      refine hK.out _ _ (.inr s1) ?_
      clear hK K
      try simp only [Act.put, List.getElem_toArray, List.getElem_cons_succ, List.getElem_cons_zero, List.setIfInBounds_toArray, List.set_cons_zero, List.set_cons_succ]
      have s2 : (y1.alloc (.cells #[.string (bstr rv)] 9)).cell? ⟨w.heap.size + 1, 1, none⟩ = some (.slice Ak xn.keys.length ck) := ((HM1.out.row.old _).cell 1)
      refine wpAnyM_next (i := 4) (by kernel_rfl) rfl (fun K hK => ?_)
      go_simp
      refine hK.out _ _ (.inr s2) ?_
      clear hK K
      try simp only [Act.put, List.getElem_toArray, List.getElem_cons_succ, List.getElem_cons_zero, List.setIfInBounds_toArray, List.set_cons_zero, List.set_cons_succ]
      refine wpAnyM_next (i := 5) (by kernel_rfl) rfl (fun K hK => ?_)
      refine step_push_m y1 sK rfl _ _ rfl base (.slice Ak xn.keys.length ck) rfl xn.keys HM1.out.keys rfl (bstr rv) HRL.out _ rfl _ rfl (by show (_ + 1) * 16 ≤ _; have := HLN.out; omega) (by have := HLN.out; simp only [maxLen]; omega) HM1.out.top ?_
      intro A1 c1 w3 hA hG hM
      have hr3 := HM1.out.grown_row (fun k hk => (HM1.out.keys.lt_ k hk).1) hG
      have s3 : w3.cell? ⟨w.heap.size + 1, 1, none⟩ = some (.slice Ak xn.keys.length ck) := hr3.cell 1
      have z3 : w3.frozen? ⟨w.heap.size + 1, 1, none⟩ = false := hr3.frozen 1
      refine hK.out _ _ (.inr s3) ?_
      clear hK K s1 s2
      try simp only [Act.put, List.getElem_toArray, List.getElem_cons_succ, List.getElem_cons_zero, List.setIfInBounds_toArray, List.set_cons_zero, List.set_cons_succ]
      refine wpAnyM_take (i := 6) (v := ?_) rfl (by kernel_rfl) (by kernel_rfl) (by kernel_rfl) (by kernel_rfl) (fun _ _ _ h => h) s3 (Or.inl ⟨by rfl, (by intro w' hSw; go_simp; first | done | with_reducible rfl)⟩) ?_
      try simp only [Act.put, List.getElem_toArray, List.getElem_cons_succ, List.getElem_cons_zero, List.setIfInBounds_toArray, List.set_cons_zero, List.set_cons_succ]
      have hT3 := grown_turn (g := w.heap.size + 1) (off := 1) (base := base) hG (fun k hk => (HM1.out.keys.lt_ k hk).1) (.slice A1 (xn.keys.length + 1) c1)
      have HM1b : Hid (NdMk (w3.setCell ⟨w.heap.size + 1, 1, none⟩ (.slice A1 (xn.keys.length + 1) c1)) base (w.heap.size + 1) _ _ _ _ _ _ _) := HM1.out.key (x := (bstr rv)) hA hG hM
      have HR1b := Lib.hid (HR1.out.turned hT3 (fun q hq => by have h1 := HG.out; rcases hq with hq | hq <;> omega))
      have HB1b : Hid (Below w.heap.size w _) := HB1.out.trans (hT3.below HB1.out.size (fun q hq => by have h1 := HG.out; rcases hq with hq | hq <;> omega))
      obtain ⟨W1, hW1⟩ : ∃ W', w3.setCell ⟨w.heap.size + 1, 1, none⟩ (.slice A1 (xn.keys.length + 1) c1) = W' := ⟨_, rfl⟩
      refine wpAnyM_next (i := 7) (by kernel_rfl) rfl (fun K hK => ?_)
      go_simp
      refine hK.out _ _ (.inl (Nat.le_refl _)) ?_
      clear hK K
      try simp only [Act.put, List.getElem_toArray, List.getElem_cons_succ, List.getElem_cons_zero, List.setIfInBounds_toArray, List.set_cons_zero, List.set_cons_succ]
      refine wpAnyM_done (by kernel_rfl) ?_ _
      rw [hW1] at HM1b HR1b HB1b
      try rw [hW1]
      clear r0 s3 z3 hr3 hA hG hM hT3 HM1 HR1 HB1
      obtain ⟨⟨qv, qs⟩, hqq⟩ : ∃ r, Nd.rowE l rs 40 = r := ⟨_, rfl⟩
      have hq65 : (bstr qv).size ≤ maxLen := by rw [bstr_size]; have := Nd.rowE_len l rs 40; rw [hqq] at this; have h9 := HSZ.out; simp only [maxLen]; have this : qv.length ≤ l.length := this; omega
      have HRO3 := Lib.hid (fun (w' : World) (h : RdSt w' B w.heap.size (w.heap.size + 2) (w.heap.size + 3) (.slice A0 m0 c0) l rs) => HROW.out w' rs h)
      rw [hqq] at HRO3
      have HQL := Lib.hid hq65
      have HQQ := Lib.hid hqq
      clear hqq hq65
      go_wp2
      have r0 : W1.drew.cell? ⟨w.heap.size + 1, 2, none⟩ = some (.slice Av xn.vals.length cv) := HM1b.out.cells.2.2.1
      refine wp_region_m (fun x' => x'.cell? ⟨w.heap.size + 1, 2, none⟩ = some (.slice Av xn.vals.length cv)) 7 (by kernel_rfl) ?_
      refine wpAnyM_take (i := 0) (v := ?_) rfl (by kernel_rfl) (by kernel_rfl) (by kernel_rfl) (by kernel_rfl) (fun _ _ _ h => h) r0 (Or.inl ⟨by rfl, (by intro w' hSw; go_simp; first | done | with_reducible rfl)⟩) ?_
      try simp only [Act.put, List.getElem_toArray, List.getElem_cons_zero, List.setIfInBounds_toArray, List.set_cons_zero, List.set_cons_succ]
      refine wpAnyM_take (i := 1) (v := ?_) rfl (by kernel_rfl) (by kernel_rfl) (by kernel_rfl) (by kernel_rfl) (fun _ _ _ h => h) r0 (Or.inl ⟨by rfl, (by intro w' hSw; go_simp; first | done | with_reducible rfl)⟩) ?_
      try simp only [Act.put, List.getElem_toArray, List.getElem_cons_succ, List.getElem_cons_zero, List.setIfInBounds_toArray, List.set_cons_zero, List.set_cons_succ]
      refine wpAnyM_take (i := 2) (v := ?_) rfl (by kernel_rfl) (by kernel_rfl) (by kernel_rfl) (by kernel_rfl) (fun _ _ _ h => h) r0 (Or.inl ⟨by rfl, (by intro w' hSw; go_simp; first | done | with_reducible rfl)⟩) ?_
      try simp only [Act.put, List.getElem_toArray, List.getElem_cons_succ, List.getElem_cons_zero, List.setIfInBounds_toArray, List.set_cons_zero, List.set_cons_succ]
      refine wpAnyM_next (i := 3) (by kernel_rfl) rfl (fun K hK => ?_)
      go_simp
      refine (HRO3.out W1.drew HR1b.out.drew).mono ?_
      rintro e y2 ⟨rfl, hs2, ht2⟩
      have HM2 := Lib.hid ((HM1b.out.drewN_ 1).turned_ ht2 (fun q hq => by have h1 := HG.out; rcases hq with hq | hq <;> omega))
      have HR2 := Lib.hid hs2
      have HB2 : Hid (Below w.heap.size w y2) := (HB1b.out.drew).trans (ht2.below HB1b.out.size (fun q hq => by have h1 := HG.out; rcases hq with hq | hq <;> omega))
      have s1 : y2.cell? ⟨w.heap.size + 1, 2, none⟩ = some (.slice Av xn.vals.length cv) := HM2.out.cells.2.2.1
      clear hs2 ht2
      refine hK.out _ _ (.inr s1) ?_
      clear hK K
      try simp only [Act.put, List.getElem_toArray, List.getElem_cons_succ, List.getElem_cons_zero, List.setIfInBounds_toArray, List.set_cons_zero, List.set_cons_succ]
      have s2 : (y2.alloc (.cells #[.string (bstr qv)] 9)).cell? ⟨w.heap.size + 1, 2, none⟩ = some (.slice Av xn.vals.length cv) := ((HM2.out.row.old _).cell 2)
      refine wpAnyM_next (i := 4) (by kernel_rfl) rfl (fun K hK => ?_)
      go_simp
      refine hK.out _ _ (.inr s2) ?_
      clear hK K
      try simp only [Act.put, List.getElem_toArray, List.getElem_cons_succ, List.getElem_cons_zero, List.setIfInBounds_toArray, List.set_cons_zero, List.set_cons_succ]
      refine wpAnyM_next (i := 5) (by kernel_rfl) rfl (fun K hK => ?_)
      refine step_push_m y2 sK rfl _ _ rfl base (.slice Av xn.vals.length cv) rfl xn.vals HM2.out.vals rfl (bstr qv) HQL.out _ rfl _ rfl (by show (_ + 1) * 16 ≤ _; have := HLN.out; omega) (by have := HLN.out; simp only [maxLen]; omega) HM2.out.top ?_
      intro A2 c2 w3 hA hG hM
      have hr3 := HM2.out.grown_row (fun k hk => (HM2.out.vals.lt_ k hk).1) hG
      have s3 : w3.cell? ⟨w.heap.size + 1, 2, none⟩ = some (.slice Av xn.vals.length cv) := hr3.cell 2
      have z3 : w3.frozen? ⟨w.heap.size + 1, 2, none⟩ = false := hr3.frozen 2
      refine hK.out _ _ (.inr s3) ?_
      clear hK K s1 s2
      try simp only [Act.put, List.getElem_toArray, List.getElem_cons_succ, List.getElem_cons_zero, List.setIfInBounds_toArray, List.set_cons_zero, List.set_cons_succ]
      refine wpAnyM_take (i := 6) (v := ?_) rfl (by kernel_rfl) (by kernel_rfl) (by kernel_rfl) (by kernel_rfl) (fun _ _ _ h => h) s3 (Or.inl ⟨by rfl, (by intro w' hSw; go_simp; first | done | with_reducible rfl)⟩) ?_
      try simp only [Act.put, List.getElem_toArray, List.getElem_cons_succ, List.getElem_cons_zero, List.setIfInBounds_toArray, List.set_cons_zero, List.set_cons_succ]
      have hT3 := grown_turn (g := w.heap.size + 1) (off := 2) (base := base) hG (fun k hk => (HM2.out.vals.lt_ k hk).1) (.slice A2 (xn.vals.length + 1) c2)
      have HM2b : Hid (NdMk (w3.setCell ⟨w.heap.size + 1, 2, none⟩ (.slice A2 (xn.vals.length + 1) c2)) base (w.heap.size + 1) _ _ _ _ _ _ _) := HM2.out.val (x := (bstr qv)) hA hG hM
      have HR2b := Lib.hid (HR2.out.turned hT3 (fun q hq => by have h1 := HG.out; rcases hq with hq | hq <;> omega))
      have HB2b : Hid (Below w.heap.size w _) := HB2.out.trans (hT3.below HB2.out.size (fun q hq => by have h1 := HG.out; rcases hq with hq | hq <;> omega))
      obtain ⟨W2, hW2⟩ : ∃ W', w3.setCell ⟨w.heap.size + 1, 2, none⟩ (.slice A2 (xn.vals.length + 1) c2) = W' := ⟨_, rfl⟩
      refine wpAnyM_next (i := 7) (by kernel_rfl) rfl (fun K hK => ?_)
      go_simp
      refine hK.out _ _ (.inl (Nat.le_refl _)) ?_
      clear hK K
      try simp only [Act.put, List.getElem_toArray, List.getElem_cons_succ, List.getElem_cons_zero, List.setIfInBounds_toArray, List.set_cons_zero, List.set_cons_succ]
      refine wpAnyM_done (by kernel_rfl) ?_ _
      rw [hW2] at HM2b HR2b HB2b
      try rw [hW2]
      clear r0 s3 z3 hr3 hA hG hM hT3 HM2 HR2 HB2
      have HEND : Hid (Nd.loopE l (Nd.startE kind l) (k + 1) = (⟨xn.kind, xn.keys ++ [bstr rv], xn.vals ++ [bstr qv], xn.kids⟩, qs)) := by
        unfold Hid
        show Nd.stepE l (Nd.loopE l (Nd.startE kind l) k) = _
        rw [HX.out]
        unfold Nd.stepE
        simp only
        rw [if_neg (by rw [HKI.out]; exact HK2.out), HRR.out, HQQ.out]
      go_wp2
      go_roundw
      case rel => exact ⟨k + 1, A1, c1, A2, c2, Ai, ci, by have := HLT.out; omega, by go_num, by rw [HEND.out]; exact HM2b.out, by rw [HEND.out]; exact HR2b.out, HB2b.out⟩
      case measure => simp [intOf]; have := HLT.out; omega
end Go.Proofs.Ytlefkaoibokjdaa
namespace Go.Proofs.Ytlefkaoibokjdaa
open Go.RowKit
set_option linter.unusedVariables false
theorem nd_zero : (Try.prog.info? 26).map (fun i => (i.zero, i.size)) = some (some (.agg ndZ), 4) := by kernel_rfl
set_option maxHeartbeats 4000000 in
set_option maxRecDepth 100000 in
theorem pnget_any (kind : Nat) (hk8 : kind < 256) (v : Value) (l : List Nat) (B : Nat) (w : World) (hv : Bv w B v l) (hB : B ≤ w.heap.size) (hsz : l.length ≤ 140737488355328) :
    Calls Try.prog 17 #[.int .u8 (kind : Nat), v] w (IsNdE (Nd.getE kind l) w) := by
  have hz := (zero_of_info nd_zero).1
  have hv9 : ∃ A c, v = .slice A l.length c := by obtain ⟨A, c, e, _⟩ := hv; exact ⟨A, c, e⟩
  obtain ⟨A0, c0, rfl⟩ := hv9
  obtain ⟨W, hW⟩ : ∃ W, w.alloc (.cells ndZ 26) = W := ⟨_, rfl⟩
  have hbW : Below w.heap.size w W := by rw [← hW]; exact (Below.refl _ _).alloc (Nat.le_refl _) _
  have hrW : Rw W w.heap.size 26 ndZ := by rw [← hW]; exact Rw.new w _ _
  have hsW : W.heap.size = w.heap.size + 1 := by rw [← hW]; simp
  have HB := Lib.hid hbW
  have HR := Lib.hid hrW
  have HS := Lib.hid hsW
  have HSN : Hid ((Try.prog.info? 26).map (·.size) = some ndZ.size) := by unfold Hid; kernel_rfl
  have HZ1 : Hid (ndZ.all (·.oneCell') = true) := by unfold Hid; simp [ndZ, Value.oneCell']
  have CR := Lib.hid (pnread_any kind hk8 _ l B W (hv.below_ hbW hB) (by omega) hsz)
  have HL : Hid (l.length ≤ 140737488355328) := hsz
  have hll : l.length ≤ 140737488355328 := hsz
  clear hv hB hsz hbW hrW hsW
  obtain ⟨Z, hZ⟩ : ∃ Z, ndZ = Z := ⟨_, rfl⟩
  have HZE := Lib.hid hZ
  rw [hZ] at hW HR HSN HZ1 hz
  clear hZ
  by_cases hk : kind ≠ 1 ∧ kind ≠ 2
  · have HE : Hid (Nd.getE kind l = (Nd.zero, 2)) := if_pos hk
    have q1 : (((kind : Nat) : Int) != 1) = true := by rw [bne_iff_ne]; omega
    have q2 : (((kind : Nat) : Int) != 2) = true := by rw [bne_iff_ne]; omega
    clear hk CR
    go_enter Try.func17, Try.ntmps17
    go_wp2_with (refine wpList_store_row rfl _ _ _ rfl w.heap.size Z rfl rfl 26 Z HR.out HSN.out rfl HZ1.out ?_)
    exact IsNdE.ret0 rfl rfl rfl rfl (by have := HR.out.row Z; rw [← HZE.out] at this ⊢; exact this) HE.out (below_setRow HB.out (Nat.le_refl _) _)
  have HK : Hid (kind = 1 ∨ kind = 2) := by unfold Hid; omega
  have hways : kind = 1 ∨ kind = 2 := HK.out
  have q1 : (((kind : Nat) : Int) != 1 ∧ ((kind : Nat) : Int) != 2) → False := fun ⟨h1, h2⟩ => by
    rw [bne_iff_ne] at h1 h2; omega
  obtain ⟨⟨n, a, er⟩, hre⟩ : ∃ r, Nd.readE kind l = r := ⟨_, rfl⟩
  rw [hre] at CR
  have HG : Hid (Nd.getE kind l = if er ≠ 0 then (Nd.zero, er) else if a < l.length ∨ ¬ Nd.Right n 6 6 then (Nd.zero, 5) else (n, 0)) := by
    unfold Hid Nd.getE
    rw [if_neg hk, hre]
  clear hre hk q1
  obtain ⟨gE, hgE⟩ : ∃ r, Nd.getE kind l = r := ⟨_, rfl⟩
  rw [hgE] at HG ⊢
  clear hgE
  rcases hways with rfl | rfl
  all_goals
    go_enter Try.func17, Try.ntmps17
    go_wp2_with fail
    refine CR.out.mono ?_
    rintro e w1 ⟨Ak, ck, Av, cv, Ai, ci, rfl, hk8', hl1, hl2, hl3, b1⟩
    obtain ⟨C, hC⟩ : ∃ C : Array Value, #[.int .u8 (n.kind : Nat), .slice Ak n.keys.length ck, .slice Av n.vals.length cv, .slice Ai n.kids.length ci] = C := ⟨_, rfl⟩
    have hSC : (Try.prog.info? 26).map (·.size) = some C.size := by rw [← hC]; kernel_rfl
    have hOC : C.all (·.oneCell') = true := by rw [← hC]; simp [Value.oneCell']
    have hZC : Z.size = C.size := by rw [← HZE.out, ← hC]; rfl
    obtain ⟨X, hX⟩ : ∃ X, (w1.alloc (.cells Z 26)).setRow w1.heap.size C = X := ⟨_, rfl⟩
    have hrx : Rw X w1.heap.size 26 C := by rw [← hX]; exact (Rw.new w1 _ _).row C
    have hbx : Below w1.heap.size w1 X := by rw [← hX]; exact below_setRow ((Below.refl _ _).alloc (Nat.le_refl _) _) (Nat.le_refl _) _
    have HRX := Lib.hid hrx
    have HBX : Hid (Below w.heap.size w X) := (HB.out.trans (b1.mono HB.out.size)).trans (hbx.mono (HB.out.trans (b1.mono HB.out.size)).size)
    have HR1 : Hid (Rw X w.heap.size 26 Z) := (HR.out.below b1 (by have := HS.out; omega)).below hbx (by have := HS.out; have := b1.size; omega)
    have HCE := Lib.hid hC
    have HNX : Hid (NdIs X w1.heap.size (.agg C) n) := ⟨Ak, ck, Av, cv, Ai, ci, by rw [← hC]; rfl, hk8', hl1.form_.below_ hbx (Nat.le_refl _), hl2.form_.below_ hbx (Nat.le_refl _), hl3.form_.below_ hbx (Nat.le_refl _)⟩
    have HOX : Hid (n.kind < 256 ∧ OwnL sK X W.heap.size (.slice Ak n.keys.length ck) n.keys ∧ OwnL sK X W.heap.size (.slice Av n.vals.length cv) n.vals ∧ OwnL iK X W.heap.size (.slice Ai n.kids.length ci) n.kids) := ⟨hk8', hl1.below_ hbx (Nat.le_refl _), hl2.below_ hbx (Nat.le_refl _), hl3.below_ hbx (Nat.le_refl _)⟩
    have CM := Lib.hid (pnmay_any n _ _ X HNX.out hbx.size)
    have HSC := Lib.hid hSC
    have HOC := Lib.hid hOC
    have HZC := Lib.hid hZC
    have HWX : Hid (w1.heap.size < X.heap.size ∧ w.heap.size < w1.heap.size) := ⟨hrx.lt, by have := HS.out; have := b1.size; omega⟩
    unfold ndV
    rw [hC]
    clear hC hrx hbx b1 hl1 hl2 hl3 hk8' CR HR hSC hOC hZC
    by_cases he : er = 0
    rotate_left
    · have heq : ((er : Int) != 0) = true := by rw [bne_iff_ne]; omega
      have HE : Hid (gE = (Nd.zero, er)) := by unfold Hid; rw [HG.out, if_pos he]
      clear he CM
      go_wp2_with (first
        | (refine wpList_store_row rfl _ _ _ rfl w1.heap.size C rfl rfl 26 Z (Rw.new w1 _ _) HSC.out HZC.out HOC.out ?_; rw [hX])
        | (refine wpList_store_row rfl _ _ _ rfl w.heap.size Z rfl rfl 26 Z HR1.out HSN.out rfl HZ1.out ?_))
      exact IsNdE.ret0 rfl rfl rfl rfl (by have := HR1.out.row Z; rw [← HZE.out] at this ⊢; exact this) HE.out (below_setRow HBX.out (Nat.le_refl _) _)
    subst he
    by_cases hal : a < l.length
    · have hali : (a : Int) < (l.length : Int) := by omega
      have HE : Hid (gE = (Nd.zero, 5)) := by unfold Hid; rw [HG.out, if_neg (by simp), if_pos (.inl hal)]
      clear hal CM
      go_wp2_with (first
        | (refine wpList_store_row rfl _ _ _ rfl w1.heap.size C rfl rfl 26 Z (Rw.new w1 _ _) HSC.out HZC.out HOC.out ?_; rw [hX])
        | (refine wpList_store_row rfl _ _ _ rfl w.heap.size Z rfl rfl 26 Z HR1.out HSN.out rfl HZ1.out ?_))
      exact IsNdE.ret0 rfl rfl rfl rfl (by have := HR1.out.row Z; rw [← HZE.out] at this ⊢; exact this) HE.out (below_setRow HBX.out (Nat.le_refl _) _)
    have hali : ¬ (a : Int) < (l.length : Int) := by omega
    have hald : decide (a < l.length) = false := decide_eq_false hal
    obtain ⟨bm, hbm⟩ : ∃ b, Nd.may n = b := ⟨_, rfl⟩
    rw [hbm] at CM
    have HBM := Lib.hid hbm
    have HAL := Lib.hid hal
    clear hbm hal
    go_wp2_with (first
      | (refine wpList_store_row rfl _ _ _ rfl w1.heap.size C rfl rfl 26 Z (Rw.new w1 _ _) HSC.out HZC.out HOC.out ?_; rw [hX])
      | (refine wpList_load_row_onT (by rfl) _ _ rfl w1.heap.size rfl 26 C (0, 0) _ HRX.out Try.underlying26 rfl HSC.out ?_))
    refine CM.out.mono ?_
    rintro e w3 ⟨rfl, b3⟩
    have HB3x : Hid (Below X.heap.size X w3) := b3
    have HB3 : Hid (Below w.heap.size w w3) := HBX.out.trans (b3.mono HBX.out.size)
    have HR3 : Hid (Rw w3 w.heap.size 26 Z) := HR1.out.below b3 (by have := HWX.out; omega)
    have HRX3 : Hid (Rw w3 w1.heap.size 26 C) := HRX.out.below b3 HWX.out.1
    have HNX3 := Lib.hid (HNX.out.below_ b3 (by have := HWX.out; omega))
    clear CM b3
    cases bm
    · have HE : Hid (gE = (Nd.zero, 5)) := by unfold Hid; rw [HG.out, if_neg (by simp), if_pos (.inr (of_decide_eq_false HBM.out))]
      go_wp2_with (refine wpList_store_row rfl _ _ _ rfl w.heap.size Z rfl rfl 26 Z HR3.out HSN.out rfl HZ1.out ?_)
      exact IsNdE.ret0 rfl rfl rfl rfl (by have := HR3.out.row Z; rw [← HZE.out] at this ⊢; exact this) HE.out (below_setRow HB3.out (Nat.le_refl _) _)
    · have HE : Hid (gE = (n, 0)) := by
        unfold Hid; rw [HG.out, if_neg (by simp), if_neg]
        rintro (h | h)
        · exact HAL.out h
        · exact h (of_decide_eq_true HBM.out)
      go_wp2_with (first
        | (refine wpList_load_row rfl _ _ rfl w1.heap.size rfl 26 C (0, 0) _ HRX3.out Try.underlying26 rfl HSC.out ?_)
        | (refine wpList_store_row rfl _ _ _ rfl w.heap.size C rfl rfl 26 Z HR3.out HSC.out HZC.out HOC.out ?_))
      refine bodyPost_ret (results_nd rfl _ _ w.heap.size C (.int .i64 0) rfl rfl HSC.out (HR3.out.row C)) rfl ?_
      rw [HE.out]
      have hT := (Turned.refl (fun q => q = w.heap.size) w3).setRow (g := w.heap.size) (fun _ => rfl) C
      have hno : ∀ {v : Value}, (∀ k, v.ownBlock = some k → W.heap.size ≤ k ∧ k < X.heap.size) → ∀ k, v.ownBlock = some k → ¬ k = w.heap.size := fun h k hk e => by have := (h k hk).1; have := HS.out; omega
      have ho := HOX.out
      have hx3 := HB3x.out
      have g1 := ho.2.1.below_ hx3 (Nat.le_refl _)
      have g2 := ho.2.2.1.below_ hx3 (Nat.le_refl _)
      have g3 := ho.2.2.2.below_ hx3 (Nat.le_refl _)
      refine ⟨_, rfl, ⟨Ak, ck, Av, cv, Ai, ci, by rw [← HCE.out]; rfl, ho.1, ?_, ?_, ?_⟩, below_setRow HB3.out (Nat.le_refl _) _⟩
      · exact (g1.turned_ hT (hno ho.2.1.lt_)).form_
      · exact (g2.turned_ hT (hno ho.2.2.1.lt_)).form_
      · exact (g3.turned_ hT (hno ho.2.2.2.lt_)).form_
end Go.Proofs.Ytlefkaoibokjdaa
