/-
  append on a slice of bytes that the call itself made, up to where Go's growth still fits: 4/5 of 2^48 bytes and no longer 2^47.
-/
import Derived.Test.YtgljncmegpamaaaApp
namespace Go.Proofs.Ytgljncmegpamaaa
open Go.RowKit
set_option linter.unusedVariables false

theorem grows_fit {need old : Nat} (h : old < need) (hb : need ≤ 225179981368000) : Builtin.nextslicecap need old ≤ 281474976710656 := by
  unfold Builtin.nextslicecap
  split
  · omega
  · split
    · omega
    · rw [growBy_four]
      repeat' split
      all_goals omega

/-- The two ways of an append onto an own slice that is not empty: into its room, or into a new block. -/
theorem run_append_wide (w : World) (base : Nat) (v : Value) (l : List Nat) (hown : OwnB w base v l) (hl0 : 0 < l.length) (ad : Addr) (c B : Nat) (m : List Nat) (hx : Bv w B (.slice (some ad) m.length c) m)
    (hsz : l.length + m.length ≤ 225179981368000) (hbase : base ≤ w.heap.size) :
    ∃ v' w', (Builtin.append_ #[27, 27] 27 #[v, .slice (some ad) m.length c]).run Try.prog w = .ok v' w' ∧ Apd w w' base v v' (l ++ m) := by
  obtain ⟨i, hi, hz, hs, hby⟩ := info_parts info5
  obtain ⟨A', c', he, _, _, _, hm⟩ := hx
  injection he with he1 _ _
  subst he1
  have hall : ∀ x ∈ l ++ m, x < 256 := fun x h => (List.mem_append.1 h).elim (hown.1 x) (hm.1 x)
  have hread : ∀ j u, (m.map u8)[j]? = some u → w.cell? (ad.add j) = some u := by
    intro j u hu
    rw [List.getElem?_map, Option.map_eq_some_iff] at hu
    obtain ⟨d, hd, rfl⟩ := hu
    obtain ⟨b, off, e, _, hc⟩ := hm.2 (by have := (List.getElem?_eq_some_iff.1 hd).1; omega)
    injection e with e
    subst e
    have ea : (⟨b, off, none⟩ : Addr).add j = ⟨b, off + j, none⟩ := by unfold Addr.add; split <;> simp_all
    rw [ea]
    exact hc j d hd
  have hone : ∀ u ∈ m.map u8, u.oneCell' = true := by
    intro u hu
    obtain ⟨_, _, rfl⟩ := List.mem_map.1 hu
    rfl
  have hmx : (l ++ m).length ≤ maxLen := by simp [maxLen]; omega
  obtain ⟨hln, hcase⟩ := hown.2
  rcases hcase with ⟨_, h0⟩ | ⟨g, cap, cur, rfl, hbg, hg, hnc, hcm, hcs, htk⟩
  · omega
  rw [Nat.mul_one] at hcs htk
  by_cases hroom : l.length + m.length ≤ cap
  · have hr := run_append_room (P := Try.prog) w 27 27 5 i Try.underlying27 hi g l.length cap cur hg ad m.length c (m.map u8) (by rw [hs]; simp) hread hone hroom (by rw [hs]; simp; omega)
    refine ⟨_, _, hr, ⟨⟨hall, ?_⟩, ⟨rfl, rfl, rfl, by simp, fun k _ hk => setRow_other w g k _ (fun e => hk (by rw [e]; rfl))⟩⟩⟩
    refine ⟨by simp, .inr ⟨g, cap, _, by simp, hbg, setRow_heap w g cur _ _ _ hg, by simpa using hroom, hcm, ?_, ?_⟩⟩
    · rw [hs]
      simp
      omega
    · rw [hs, Nat.mul_one, Nat.mul_one, htk, List.length_append, List.append_assoc, List.take_append]
      simp
      exact List.take_of_length_le (by rw [List.length_map]; omega)
  · have hr := run_append_grow (P := Try.prog) w 27 27 5 i _ Try.underlying27 hi hz ⟨g, 0, none⟩ l.length cap (l.map u8) (by rw [hs]; simp) (hown.2.cells (g := g) rfl) ad m.length c (m.map u8) (by rw [hs]; simp) hread (by omega) (by omega)
      (by rw [hby, Nat.mul_one]; exact grows_fit (by omega) hsz)
    have hge := grownCap_ge w (l.length + m.length) cap 5
    refine ⟨_, _, hr, ⟨⟨hall, ?_⟩, ⟨rfl, rfl, rfl, by simp, fun k hk _ => heap_alloc_old w.drew _ hk⟩⟩⟩
    refine ⟨by simp, .inr ⟨w.heap.size, _, _, by simp, hbase, heap_alloc_new w.drew _, by simpa using hge, grownCap_le_maxLen w (l.length + m.length) cap 5 (by simpa using hmx), ?_, ?_⟩⟩
    · simp [Builtin.zeroCells, Value.cells]
      omega
    · rw [Nat.mul_one, List.length_append]
      simp [List.take_append]
      exact List.take_of_length_le (by rw [List.length_map]; omega)
/-- Both kinds of sizes in one: each of the two no longer than what comes in, the whole within Go's growth. -/
theorem run_append_bytes2 (w : World) (base : Nat) (v : Value) (l : List Nat) (hown : OwnB w base v l) (x : Value) (B : Nat) (m : List Nat) (hx : Bv w B x m) (h1 : l.length ≤ 140737488355328) (h2 : m.length ≤ 140737488355328)
    (hsz : l.length + m.length ≤ 225179981368000) (hbase : base ≤ w.heap.size) :
    ∃ v' w', (Builtin.append_ #[27, 27] 27 #[v, x]).run Try.prog w = .ok v' w' ∧ Apd w w' base v v' (l ++ m) := by
  by_cases hs : l.length + m.length ≤ 140737488355328
  · exact run_append_bytes w base v l hown x B m hx hs hbase
  · have h := hx
    obtain ⟨A, c, rfl, _, _, _, hm⟩ := hx
    obtain ⟨b, off, rfl, _⟩ := hm.2 (by omega)
    exact run_append_wide w base v l hown (by omega) _ c B m h hsz hbase

theorem wpList_append_bytes2 (w : World) {ops : Array Oper} {rest : List Oper} {o : Oper} {a : Act} {Q : Exit → Act → World → Prop} (hgd : o.guard = none) (s t : Operand)
    (ho : o.op = .call { callee := .builtin .append, args := #[s, t], argTypes := #[27, 27] }) (hty : o.type = 27)
    (base : Nat) (v : Value) (hs : a.eval s = v) (l : List Nat) (hown : OwnB w base v l) (x : Value) (hx0 : a.eval t = x) (B : Nat) (m : List Nat) (hx : Bv w B x m) (h1 : l.length ≤ 140737488355328) (h2 : m.length ≤ 140737488355328)
    (hsz : l.length + m.length ≤ 225179981368000) (hbase : base ≤ w.heap.size)
    (h : ∀ A c w', Apd w w' base v (.slice A (l ++ m).length c) (l ++ m) → wpList Try.prog ops Q rest (a.put o.dst (.slice A (l ++ m).length c)) w') : wpList Try.prog ops Q (o :: rest) a w :=
  wpList_plain hgd fun K hK => by
    obtain ⟨v', w', hr, hA⟩ := run_append_bytes2 w base v l hown x B m hx h1 h2 hsz hbase
    obtain ⟨A, c, rfl, _⟩ := hA.own.form_
    unfold Oper.wp execOp
    simp only [ho, resolve, invoke, builtin, Sem.run_bind, Sem.run_pure, Result.andThen_ok, List.map_toArray, List.map_cons, List.map_nil, hs, hx0, hr, hty]
    exact hK _ _ (h A c w' hA)
end Go.Proofs.Ytgljncmegpamaaa
