/-
  RNdF: stookref18: Copy.
  RNdG: A function of a node that answers a node and an error: how it begins, how it ends.
  OwnTwo: Own lists of unlike kinds lie in unlike blocks.
-/
import Derived.Test.YtlefkaoibokjdaaPc19
import Derived.Test.YtlefkaoibokjdaaPc03
import Derived.Deep.RegionHeld3
import Derived.Test.YtlefkaoibokjdaaPc02
namespace Go.Proofs.Ytlefkaoibokjdaa
open Go.RowKit
set_option linter.unusedVariables false
def NdSmall (n : Nd.Node) : Prop := n.keys.length ≤ 8796093022208 ∧ n.vals.length ≤ 8796093022208 ∧ n.kids.length ≤ 17592186044416

/-- The answer: a node of its own memory. -/
def IsNdO (n : Nd.Node) (w : World) (e : Ending) (w' : World) : Prop :=
  ∃ Ak ck Av cv Ai ci, e = .returned (ndV n Ak ck Av cv Ai ci) ∧ n.kind < 256 ∧ OwnL sK w' w.heap.size (.slice Ak n.keys.length ck) n.keys ∧ OwnL sK w' w.heap.size (.slice Av n.vals.length cv) n.vals ∧ OwnL iK w' w.heap.size (.slice Ai n.kids.length ci) n.kids ∧
    (∀ k, (Value.slice Ak n.keys.length ck).ownBlock = some k → (Value.slice Av n.vals.length cv).ownBlock ≠ some k) ∧ Below w.heap.size w w'
theorem IsNdO.weak {n : Nd.Node} {w w' : World} {e : Ending} (h : IsNdO n w e w') : IsNd n w e w' := by
  obtain ⟨Ak, ck, Av, cv, Ai, ci, rfl, h1, h2, h3, h4, _, h5⟩ := h
  exact ⟨_, rfl, ⟨Ak, ck, Av, cv, Ai, ci, rfl, h1, h2.form_, h3.form_, h4.form_⟩, h5⟩

set_option maxHeartbeats 1000000 in
set_option maxRecDepth 100000 in
theorem rcopyO_any (n : Nd.Node) (v : Value) (B : Nat) (w : World) (hv : NdIs w B v n) (hB : B ≤ w.heap.size) (hsz : NdSmall n) :
    Calls Try.prog 26 #[v] w (IsNdO n w) := by
  obtain ⟨Ak, ck, Av, cv, Ai, ci, W, rfl, hk8, hW, H0, hbW, hs, hn⟩ := hv.open_ hB
  obtain ⟨W2, hW2⟩ : ∃ W2, W.alloc (.cells #[.int .u8 0, .slice none 0 0, .slice none 0 0, .slice none 0 0] 26) = W2 := ⟨_, rfl⟩
  have hbW2 : Below W.heap.size W W2 := by rw [← hW2]; exact (Below.refl _ _).alloc (Nat.le_refl _) _
  have hs2 : W2.heap.size = w.heap.size + 2 := by rw [← hW2]; simp [hs]
  have H2 := Lib.hid (H0.below_ hbW2 (by omega) (by omega))
  have HB2 := Lib.hid (hbW.trans (hbW2.mono (by omega)))
  have hR0 : Rw W w.heap.size 26 #[.int .u8 (n.kind : Nat), .slice Ak n.keys.length ck, .slice Av n.vals.length cv, .slice Ai n.kids.length ci] := by rw [← hW]; exact Rw.new w _ _
  have HR := Lib.hid (hR0.below hbW2 (by omega))
  have HZ : Hid (Rw W2 W.heap.size 26 #[.int .u8 0, .slice none 0 0, .slice none 0 0, .slice none 0 0]) := by unfold Hid; rw [← hW2]; exact Rw.new W _ _
  rw [hs] at HZ
  have J1 := Lib.hid (rtexts_any (.slice Ak n.keys.length ck) n.keys B W2.drew (H2.out.keys.drew_) hsz.1)
  have HJ2 : Hid (∀ x, Below W2.heap.size W2 x → Calls Try.prog 49 #[.slice Av n.vals.length cv] x (IsL1 sK n.vals x)) := fun x hx => rtexts_any _ n.vals B x (H2.out.vals.below_ hx (by omega)) hsz.2.1
  have HJ3 : Hid (∀ x, Below W2.heap.size W2 x → Calls Try.prog 50 #[.slice Ai n.kids.length ci] x (IsL1 iK n.kids x)) := fun x hx => copyInts_any _ n.kids B x (H2.out.kids.below_ hx (by omega)) hsz.2.2
  have HW2 : Hid (W.heap.size = w.heap.size + 1 ∧ W2.heap.size = w.heap.size + 2) := ⟨hs, hs2⟩
  have HK8 := Lib.hid hk8
  have hS0 := HR.out.drew
  clear hv hn H0 hbW hbW2 hs2 hsz hB hR0 hk8
  unfold ndV at *
  unfold ndB at hW
  go_enter Try.func26, Try.ntmps26
  go_wp2_with (fail)
  refine wp_region_held_drew (S := fun x => Rw x w.heap.size 26 #[.int .u8 (n.kind : Nat), .slice Ak n.keys.length ck, .slice Av n.vals.length cv, .slice Ai n.kids.length ci]) (by kernel_rfl) hS0 (fun hH => ?_)
  refine wpAnyH_take (i := 0) (v := ?_) rfl (by kernel_rfl) (by kernel_rfl) (by kernel_rfl) (fun _ _ _ h => h) (Or.inl ⟨by rfl, (by intro w' hSw; have q0 := Rw.cell hSw 0; have q1 := Rw.cell hSw 1; have q2 := Rw.cell hSw 2; have q3 := Rw.cell hSw 3; simp only [List.getElem?_toArray, List.getElem?_cons_zero, List.getElem?_cons_succ] at q0 q1 q2 q3; go_simp; first | done | with_reducible rfl)⟩) hH ?_
  try simp only [Act.put, List.getElem_toArray, List.getElem_cons_zero, List.setIfInBounds_toArray, List.set_cons_zero, List.set_cons_succ]
  refine wpAnyH_take (i := 1) (v := ?_) rfl (by kernel_rfl) (by kernel_rfl) (by kernel_rfl) (fun _ _ _ h => h) (Or.inl ⟨by rfl, (by intro w' hSw; have q0 := Rw.cell hSw 0; have q1 := Rw.cell hSw 1; have q2 := Rw.cell hSw 2; have q3 := Rw.cell hSw 3; simp only [List.getElem?_toArray, List.getElem?_cons_zero, List.getElem?_cons_succ] at q0 q1 q2 q3; go_simp; first | done | with_reducible rfl)⟩) hH ?_
  try simp only [Act.put, List.getElem_toArray, List.getElem_cons_succ, List.getElem_cons_zero, List.setIfInBounds_toArray, List.set_cons_zero, List.set_cons_succ]
  refine wpAnyH_take (i := 2) (v := ?_) rfl (by kernel_rfl) (by kernel_rfl) (by kernel_rfl) (fun _ _ _ h => h) (Or.inl ⟨by rfl, (by intro w' hSw; have q0 := Rw.cell hSw 0; have q1 := Rw.cell hSw 1; have q2 := Rw.cell hSw 2; have q3 := Rw.cell hSw 3; simp only [List.getElem?_toArray, List.getElem?_cons_zero, List.getElem?_cons_succ] at q0 q1 q2 q3; go_simp; first | done | with_reducible rfl)⟩) hH ?_
  try simp only [Act.put, List.getElem_toArray, List.getElem_cons_succ, List.getElem_cons_zero, List.setIfInBounds_toArray, List.set_cons_zero, List.set_cons_succ]
  refine wpAnyH_take (i := 3) (v := ?_) rfl (by kernel_rfl) (by kernel_rfl) (by kernel_rfl) (fun _ _ _ h => h) (Or.inl ⟨by rfl, (by intro w' hSw; have q0 := Rw.cell hSw 0; have q1 := Rw.cell hSw 1; have q2 := Rw.cell hSw 2; have q3 := Rw.cell hSw 3; simp only [List.getElem?_toArray, List.getElem?_cons_zero, List.getElem?_cons_succ] at q0 q1 q2 q3; go_simp; first | done | with_reducible rfl)⟩) hH ?_
  try simp only [Act.put, List.getElem_toArray, List.getElem_cons_succ, List.getElem_cons_zero, List.setIfInBounds_toArray, List.set_cons_zero, List.set_cons_succ]
  refine wpAnyH_take (i := 5) (v := ?_) rfl (by kernel_rfl) (by kernel_rfl) (by kernel_rfl) (fun _ _ _ h => h) (Or.inl ⟨by rfl, (by intro w' hSw; have q0 := Rw.cell hSw 0; have q1 := Rw.cell hSw 1; have q2 := Rw.cell hSw 2; have q3 := Rw.cell hSw 3; simp only [List.getElem?_toArray, List.getElem?_cons_zero, List.getElem?_cons_succ] at q0 q1 q2 q3; go_simp; first | done | with_reducible rfl)⟩) hH ?_
  try simp only [Act.put, List.getElem_toArray, List.getElem_cons_succ, List.getElem_cons_zero, List.setIfInBounds_toArray, List.set_cons_zero, List.set_cons_succ]
  refine wpAnyH_take (i := 6) (v := ?_) rfl (by kernel_rfl) (by kernel_rfl) (by kernel_rfl) (fun _ _ _ h => h) (Or.inl ⟨by rfl, (by intro w' hSw; have q0 := Rw.cell hSw 0; have q1 := Rw.cell hSw 1; have q2 := Rw.cell hSw 2; have q3 := Rw.cell hSw 3; simp only [List.getElem?_toArray, List.getElem?_cons_zero, List.getElem?_cons_succ] at q0 q1 q2 q3; go_simp; first | done | with_reducible rfl)⟩) hH ?_
  try simp only [Act.put, List.getElem_toArray, List.getElem_cons_succ, List.getElem_cons_zero, List.setIfInBounds_toArray, List.set_cons_zero, List.set_cons_succ]
  refine wpAnyH_take (i := 8) (v := ?_) rfl (by kernel_rfl) (by kernel_rfl) (by kernel_rfl) (fun _ _ _ h => h) (Or.inl ⟨by rfl, (by intro w' hSw; have q0 := Rw.cell hSw 0; have q1 := Rw.cell hSw 1; have q2 := Rw.cell hSw 2; have q3 := Rw.cell hSw 3; simp only [List.getElem?_toArray, List.getElem?_cons_zero, List.getElem?_cons_succ] at q0 q1 q2 q3; go_simp; first | done | with_reducible rfl)⟩) hH ?_
  try simp only [Act.put, List.getElem_toArray, List.getElem_cons_succ, List.getElem_cons_zero, List.setIfInBounds_toArray, List.set_cons_zero, List.set_cons_succ]
  refine wpAnyH_take (i := 9) (v := ?_) rfl (by kernel_rfl) (by kernel_rfl) (by kernel_rfl) (fun _ _ _ h => h) (Or.inl ⟨by rfl, (by intro w' hSw; have q0 := Rw.cell hSw 0; have q1 := Rw.cell hSw 1; have q2 := Rw.cell hSw 2; have q3 := Rw.cell hSw 3; simp only [List.getElem?_toArray, List.getElem?_cons_zero, List.getElem?_cons_succ] at q0 q1 q2 q3; go_simp; first | done | with_reducible rfl)⟩) hH ?_
  try simp only [Act.put, List.getElem_toArray, List.getElem_cons_succ, List.getElem_cons_zero, List.setIfInBounds_toArray, List.set_cons_zero, List.set_cons_succ]
  refine wpAnyH_ready (rs := [4]) (by kernel_rfl) (by simp) ?_
  refine AllReadyH.cons rfl (fun K hK => ?_) AllReadyH.nil
  go_simp
  refine (J1.out).mono ?_
  rintro e x1 ⟨A1, c1, rfl, o1, b1⟩
  have X1 := Lib.hid ((Below.refl W2.heap.size W2).drew.trans b1)
  have O1 : Hid (OwnL sK x1 W2.heap.size _ _) := o1
  have s1 := HR.out.below X1.out (by have := HW2.out; omega)
  have J2 := Lib.hid (HJ2.out x1 X1.out)
  clear o1 b1 J1
  refine hK.out _ _ s1 (fun hH => ?_)
  clear hK K
  try simp only [Act.put, List.getElem_toArray, List.getElem_cons_succ, List.getElem_cons_zero, List.setIfInBounds_toArray, List.set_cons_zero, List.set_cons_succ]
  refine wpAnyH_ready (rs := [7]) (by kernel_rfl) (by simp) ?_
  refine AllReadyH.cons rfl (fun K hK => ?_) AllReadyH.nil
  go_simp
  refine (J2.out).mono ?_
  rintro e x2 ⟨A2, c2, rfl, o2, b2⟩
  have HAP : Hid (∀ k, (Value.slice A1 n.keys.length c1).ownBlock = some k → (Value.slice A2 n.vals.length c2).ownBlock ≠ some k) := fun k hk e => by have := (O1.out.lt_ k hk).2; have := (o2.lt_ k e).1; omega
  have X2 := Lib.hid (X1.out.trans (b2.mono X1.out.size))
  have O2 : Hid (OwnL sK x2 W2.heap.size _ _) := o2.mono_ X1.out.size
  have O1 := Lib.hid (O1.out.below_ b2 (Nat.le_refl _))
  have L12 : Hid (x1.heap.size ≤ x2.heap.size) := b2.size
  have s2 := HR.out.below X2.out (by have := HW2.out; omega)
  have J3 := Lib.hid (HJ3.out x2 X2.out)
  clear o2 b2 J2
  refine hK.out _ _ s2 (fun hH => ?_)
  clear hK K
  try simp only [Act.put, List.getElem_toArray, List.getElem_cons_succ, List.getElem_cons_zero, List.setIfInBounds_toArray, List.set_cons_zero, List.set_cons_succ]
  refine wpAnyH_ready (rs := [10]) (by kernel_rfl) (by simp) ?_
  refine AllReadyH.cons rfl (fun K hK => ?_) AllReadyH.nil
  go_simp
  refine (J3.out).mono ?_
  rintro e x3 ⟨A3, c3, rfl, o3, b3⟩
  have X3 := Lib.hid (X2.out.trans (b3.mono X2.out.size))
  have O3 : Hid (OwnL iK x3 W2.heap.size _ _) := o3.mono_ X2.out.size
  have O1 := Lib.hid (O1.out.below_ b3 (Nat.le_refl _))
  have O2 := Lib.hid (O2.out.below_ b3 (Nat.le_refl _))
  have s3 := HR.out.below X3.out (by have := HW2.out; omega)
  have HZ3 := Lib.hid (HZ.out.below X3.out (by have := HW2.out; omega))
  clear o3 b3 J3
  refine hK.out _ _ s3 (fun hH => ?_)
  clear hK K
  try simp only [Act.put, List.getElem_toArray, List.getElem_cons_succ, List.getElem_cons_zero, List.setIfInBounds_toArray, List.set_cons_zero, List.set_cons_succ]
  refine wpAnyH_take (i := 11) (v := ?_) rfl (by kernel_rfl) (by kernel_rfl) (by kernel_rfl) (fun _ _ _ h => h) (Or.inl ⟨by rfl, (by intro w' hSw; have q0 := Rw.cell hSw 0; have q1 := Rw.cell hSw 1; have q2 := Rw.cell hSw 2; have q3 := Rw.cell hSw 3; simp only [List.getElem?_toArray, List.getElem?_cons_zero, List.getElem?_cons_succ] at q0 q1 q2 q3; go_simp; first | done | with_reducible rfl)⟩) hH ?_
  try simp only [Act.put, List.getElem_toArray, List.getElem_cons_succ, List.getElem_cons_zero, List.setIfInBounds_toArray, List.set_cons_zero, List.set_cons_succ]
  refine wpAnyH_ready (rs := [12]) (by kernel_rfl) (by simp) ?_
  refine AllReadyH.cons rfl (fun K hK => ?_) AllReadyH.nil
  rw [if_pos (by rfl)]
  refine wp_store_row 26 (.tmp 2) (.tmp 14) rfl (w.heap.size + 1) #[.int .u8 (n.kind : Nat), .slice A1 n.keys.length c1, .slice A2 n.vals.length c2, .slice A3 n.kids.length c3] rfl rfl 26 _ HZ3.out (by kernel_rfl) rfl (by simp [Value.oneCell']) ?_
  have HRZ := Lib.hid (HZ3.out.row #[.int .u8 (n.kind : Nat), .slice A1 n.keys.length c1, .slice A2 n.vals.length c2, .slice A3 n.kids.length c3])
  refine hK.out _ _ (s3.rowOther (by have := HW2.out; omega) _) (fun hH => ?_)
  clear hK K
  refine wpAnyH_done (by kernel_rfl) ?_ _
  clear hH
  go_wp2
  try simp only [Act.put, List.getElem_toArray, List.getElem_cons_succ, List.getElem_cons_zero]
  have HO : Hid (∀ k, W2.heap.size ≤ k → (x3.setRow (w.heap.size + 1) #[.int .u8 (n.kind : Nat), .slice A1 n.keys.length c1, .slice A2 n.vals.length c2, .slice A3 n.kids.length c3]).heap[k]? = x3.heap[k]?) := fun k hk => setRow_other _ _ _ _ (by have := HW2.out; omega)
  refine bodyPost_ret (v := .agg #[.int .u8 (n.kind : Nat), .slice A1 n.keys.length c1, .slice A2 n.vals.length c2, .slice A3 n.kids.length c3]) (results_cell_row rfl _ _ (w.heap.size + 1) 26 #[.int .u8 (n.kind : Nat), .slice A1 n.keys.length c1, .slice A2 n.vals.length c2, .slice A3 n.kids.length c3] (0, 0) _ rfl HRZ.out Try.underlying26 rfl (by kernel_rfl)) rfl ⟨A1, c1, A2, c2, A3, c3, rfl, HK8.out, ?_, ?_, ?_, HAP.out, ?_⟩
  · exact (O1.out.of_block (fun k hk => HO.out k (O1.out.lt_ k hk).1)).mono_ (by have := HW2.out; omega)
  · exact (O2.out.of_block (fun k hk => HO.out k (O2.out.lt_ k hk).1)).mono_ (by have := HW2.out; omega)
  · exact (O3.out.of_block (fun k hk => HO.out k (O3.out.lt_ k hk).1)).mono_ (by have := HW2.out; omega)
  · exact below_setRow (HB2.out.trans (X3.out.mono (by have := HW2.out; omega))) (by omega) _
theorem rcopy_any (n : Nd.Node) (v : Value) (B : Nat) (w : World) (hv : NdIs w B v n) (hB : B ≤ w.heap.size) (hsz : NdSmall n) :
    Calls Try.prog 26 #[v] w (IsNd n w) := (rcopyO_any n v B w hv hB hsz).mono fun _ _ h => h.weak
end Go.Proofs.Ytlefkaoibokjdaa
namespace Go.Proofs.Ytlefkaoibokjdaa
open Go.RowKit
set_option linter.unusedVariables false
/-- The cells of no node. -/
def ndZ : Array Value := #[.int .u8 0, .slice none 0 0, .slice none 0 0, .slice none 0 0]
theorem NdIs.open2_ {w : World} {B : Nat} {v : Value} {n : Nd.Node} (h : NdIs w B v n) (hB : B ≤ w.heap.size) :
    ∃ Ak ck Av cv Ai ci W W2, v = ndV n Ak ck Av cv Ai ci ∧ n.kind < 256 ∧ w.alloc (ndB n Ak ck Av cv Ai ci) = W ∧ W.alloc (.cells ndZ 26) = W2 ∧ NdAt W2 w.heap.size B n Ak ck Av cv Ai ci ∧ Rw W2 (w.heap.size + 1) 26 ndZ ∧ Below w.heap.size w W2 ∧ W2.heap.size = w.heap.size + 2 ∧ W.heap.size = w.heap.size + 1 ∧ NdIs W2 B (ndV n Ak ck Av cv Ai ci) n := by
  obtain ⟨Ak, ck, Av, cv, Ai, ci, W, rfl, hk8, hW, H0, hbW, hs, hn⟩ := h.open_ hB
  have hb : Below W.heap.size W (W.alloc (.cells ndZ 26)) := (Below.refl _ _).alloc (Nat.le_refl _) _
  have hr : Rw (W.alloc (.cells ndZ 26)) W.heap.size 26 ndZ := Rw.new W _ _
  rw [hs] at hr
  exact ⟨Ak, ck, Av, cv, Ai, ci, W, _, rfl, hk8, hW, rfl, H0.below_ hb (by omega) (by omega), hr, hbW.trans (hb.mono (by omega)), by simp [hs], hs, hn.below_ hb (by omega)⟩
theorem results_nd {fn : Func} {p u : Tmp} (h : fn.results = #[.cell p 26, .tmp u]) (tmps : Array Value) (w : World) (g : Nat) (C : Array Value) (x : Value)
    (hp : tmps.getD p undef = .pointer (some ⟨g, 0, none⟩)) (hu : tmps.getD u undef = x) (hC : (Try.prog.info? 26).map (·.size) = some C.size) (hg : Rw w g 26 C) :
    (results fn tmps).run Try.prog w = .ok (.tuple #[.agg C, x]) w := by
  have hp' : tmps[p]?.getD undef = .pointer (some ⟨g, 0, none⟩) := by simpa using hp
  have hu' : tmps[u]?.getD undef = x := by simpa using hu
  simp [results, h, hp', hu', asAddr, run_loadVar_row w g _ _ _ (0, 0) _ hg Try.underlying26 rfl hC]
/-- No node, and an error. -/
theorem IsNdE.ret0 {fn : Func} {p u : Tmp} {w w' : World} {a : Act} {g e : Nat} {r : Nd.Node × Nat} (hf : fn.results = #[.cell p 26, .tmp u]) (ha : a.defers = [])
    (hp : a.tmps.getD p undef = .pointer (some ⟨g, 0, none⟩)) (hu : a.tmps.getD u undef = .int .i64 (e : Nat)) (hg : Rw w' g 26 ndZ) (hr : r = (Nd.zero, e)) (hb : Below w.heap.size w w') :
    bodyPost Try.prog fn (IsNdE r w) .ret a w' := by
  subst hr
  refine bodyPost_ret (results_nd hf _ _ g ndZ _ hp hu (by kernel_rfl) hg) ha ⟨_, rfl, ⟨none, 0, none, 0, none, 0, rfl, (by show (0 : Nat) < 256; omega), Lv.nil_ _ _ _, Lv.nil_ _ _ _, Lv.nil_ _ _ _⟩, hb⟩
end Go.Proofs.Ytlefkaoibokjdaa
namespace Go.Proofs.Ytlefkaoibokjdaa
open Go.RowKit
set_option linter.unusedVariables false
theorem own_kindN {P : Program} {α : Type} {K : El P α} {w : World} {base b : Nat} {v : Value} {l : List α} {cs : Array Value} {T : TypeId} {fr : Nat × Nat} (h : OwnL K w base v l) (hb : w.heap[b]? = some (.cells cs T fr)) (hT : T ≠ K.e) : v.ownBlock ≠ some b := by
  intro e
  rcases h.2 with ⟨rfl, _⟩ | ⟨g, s, rfl, _, _, _, hh⟩
  · cases e
  · have eg : g = b := Option.some.inj e
    subst eg
    rw [hb] at hh
    injection hh with hh
    injection hh with _ hh _
    exact hT hh
theorem own_twoN {P : Program} {α β : Type} {K : El P α} {K' : El P β} {w : World} {base base' : Nat} {v u : Value} {l : List α} {m : List β} (h : OwnL K w base v l) (h' : OwnL K' w base' u m) (hT : K'.e ≠ K.e) {k : Nat} (hk : v.ownBlock = some k) : u.ownBlock ≠ some k := by
  intro e
  rcases h'.2 with ⟨rfl, _⟩ | ⟨g, s, rfl, _, _, _, hh⟩
  · cases e
  · have eg : g = k := Option.some.inj e
    subst eg
    exact own_kindN h hh hT hk
theorem own_ne_or {v u : Value} (h : ∀ k, v.ownBlock = some k → u.ownBlock ≠ some k) : v.ownBlock = none ∨ v.ownBlock ≠ u.ownBlock := by
  cases hv : v.ownBlock with
  | none => exact .inl rfl
  | some k => exact .inr fun e => h k hv e.symm
end Go.Proofs.Ytlefkaoibokjdaa
