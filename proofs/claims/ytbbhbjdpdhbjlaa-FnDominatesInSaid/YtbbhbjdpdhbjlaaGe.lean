/- Draws of graphs; the walk of the law of GraphOk. -/
import Derived.Test.YtbbhbjdpdhbjlaaGc
import Derived.Test.YtbbhbjdpdhbjlaaG7a
set_option linter.unusedSimpArgs false
set_option linter.unusedVariables false
namespace Go.Proofs.Ytbbhbjdpdhbjlaa.Gp
open Go.RowKit Pl
section
variable {L : Nat → List Nat} {N : Nat}
theorem tree_last : ∀ {l : List Nat}, Tree L [0] l → l ≠ [] → l.getLast? = some 0
  | [], _, h => absurd rfl h
  | [p], h, _ => by
    rcases h.1 with h1 | ⟨u, hu, _⟩
    · obtain rfl : p = 0 := by simpa using h1
      rfl
    · cases hu
  | p :: q :: b, h, _ => by
    have := tree_last (l := q :: b) h.2 (by simp)
    rw [List.getLast?_cons_cons]
    exact this
theorem tree_rev : ∀ {l : List Nat}, Tree L [0] l → l.Nodup → ∀ i, 0 < i → i < l.length → ∃ k, k < i ∧ l.reverse.getD i 0 ∈ L (l.reverse.getD k 0)
  | [], _, _, i, _, h => by simp at h
  | p :: b, h, hn, i, h0, hi => by
    have hnb := (List.nodup_cons.1 hn).2
    have hpb := (List.nodup_cons.1 hn).1
    have hlen : b.reverse.length = b.length := by simp
    have hget : ∀ j, j < b.length → (p :: b).reverse.getD j 0 = b.reverse.getD j 0 := fun j hj => by
      rw [List.reverse_cons, List.getD_eq_getElem?_getD, List.getElem?_append_left (by omega), ← List.getD_eq_getElem?_getD]
    by_cases hib : i < b.length
    · obtain ⟨k, hk, hm⟩ := tree_rev (l := b) h.2 hnb i h0 hib
      exact ⟨k, hk, by rw [hget i hib, hget k (by omega)]; exact hm⟩
    · have hie : i = b.length := by simp at hi; omega
      have hbn : b ≠ [] := fun e => by subst e; simp at hie; omega
      have hlast := tree_last h.2 hbn
      have hp : (p :: b).reverse.getD i 0 = p := by
        rw [List.reverse_cons, List.getD_eq_getElem?_getD, List.getElem?_append_right (by omega), hie]
        simp
      rw [hp]
      rcases h.1 with h1 | ⟨u, hu, hl⟩
      · obtain rfl : p = 0 := by simpa using h1
        exact absurd (List.mem_of_getLast? hlast) hpb
      · have hur : u ∈ b.reverse := by simpa using hu
        obtain ⟨k, hk, he⟩ := List.getElem_of_mem hur
        refine ⟨k, by omega, ?_⟩
        rw [hget k (by omega), List.getD_eq_getElem?_getD, List.getElem?_eq_getElem hk, Option.getD_some, he]
        exact hl
theorem order_first (hL : Gd L N) : (orderP L).getD 0 0 = 0 ∧ 0 < (orderP L).length := by
  have hf := left_facts hL [0] (st_lt hL)
  have h0 : 0 ∈ leftOf L [0] [] := (hf.mem 0).2 (.start _ (by simp) (by simp))
  have hne : leftOf L [0] [] ≠ [] := fun e => by rw [e] at h0; cases h0
  have h1 := tree_last hf.tree hne
  unfold orderP
  refine ⟨?_, by rw [List.length_reverse]; exact List.length_pos_iff.2 hne⟩
  rw [List.getD_eq_getElem?_getD, ← List.head?_eq_getElem?, List.head?_reverse, h1]
  rfl
theorem order_comes (hL : Gd L N) {i : Nat} (h0 : 0 < i) (hi : i < (orderP L).length) : ∃ k, k < i ∧ (orderP L).getD i 0 ∈ L ((orderP L).getD k 0) := by
  have hf := left_facts hL [0] (st_lt hL)
  unfold orderP at hi ⊢
  rw [List.length_reverse] at hi
  exact tree_rev hf.tree hf.nd i h0 hi
end
end Go.Proofs.Ytbbhbjdpdhbjlaa.Gp
namespace Go.Proofs.Ytbbhbjdpdhbjlaa.Ge
open Go.RowKit Pl Ft Mm In Gp Sr

/-- A graph has been drawn from bytes. -/
def DrawG (w : World) (e : Ending) (w' : World) : Prop :=
  ∃ (v : Value) (g : List (List Int)), e = .returned v ∧ GAt w'.heap.size w' v g ∧ 1 ≤ g.length ∧ Sz g ∧ Below w.heap.size w w'
theorem sz_of {g : List (List Int)} (h1 : g.length ≤ 20) (h2 : ∀ j, j < g.length → (g.getD j []).length ≤ 20) : Sz g := ⟨by omega, fun j hj => by have := h2 j hj; omega⟩
set_option maxHeartbeats 1000000 in
theorem drawGraphOk_c (a : Option Addr) (len cap : Nat) (zs : List Int) (w : World) (hB : Bytes w a len zs) :
    Calls Try.prog 16 #[.slice a len cap] w (DrawG w) := by
  have H := hid hB
  clear hB
  go_enter Try.func16, Try.ntmps16
  go_wp2_with fail
  refine (from_c a len cap zs w H.out).mono ?_
  rintro e w1 ⟨sb, rfl, hsb, s1, b1⟩
  have S1 := hid s1
  have B1 := hid b1
  clear s1 b1
  go_wp2_with fail
  refine (graph_c sb a len cap zs 0 w1 S1.out (by omega)).mono ?_
  rintro e w2 ⟨v, g, k2, rfl, hg, h1, h2, h3, _, _, _, m2, _⟩
  obtain ⟨sg, cg, rfl⟩ := hg.slice
  have HG := hid hg
  have HZ := hid (sz_of h2 h3)
  have B2 := hid (m2.below B1.out hsb B1.out.size)
  clear m2 hg h2 h3
  go_wp2_with fail
  go_ret
  exact ⟨_, g, rfl, HG.out, h1, HZ.out, B2.out⟩
set_option maxHeartbeats 1000000 in
theorem drawOrderOf_c (a : Option Addr) (len cap : Nat) (zs : List Int) (w : World) (hB : Bytes w a len zs) :
    Calls Try.prog 20 #[.slice a len cap] w (DrawG w) := by
  have H := hid hB
  clear hB
  go_enter Try.func20, Try.ntmps20
  go_wp2_with fail
  refine (from_c a len cap zs w H.out).mono ?_
  rintro e w1 ⟨sb, rfl, hsb, s1, b1⟩
  have S1 := hid s1
  have B1 := hid b1
  clear s1 b1
  go_wp2_with fail
  refine (graph_c sb a len cap zs 0 w1 S1.out (by omega)).mono ?_
  rintro e w2 ⟨v, g, k2, rfl, hg, h1, h2, h3, _, _, _, m2, _⟩
  obtain ⟨sg, cg, rfl⟩ := hg.slice
  have HG := hid hg
  have HZ := hid (sz_of h2 h3)
  have B2 := hid (m2.below B1.out hsb B1.out.size)
  clear m2 hg h2 h3
  go_wp2_with fail
  go_ret
  exact ⟨_, g, rfl, HG.out, h1, HZ.out, B2.out⟩
theorem orderS_facts {g : List (List Int)} (h : okG g = true) : 1 ≤ (orderS g).length ∧ (orderS g).length ≤ g.length ∧ (orderS g).getD 0 0 = 0 := by
  have hL := adj_bd h
  have hf := order_first hL
  have hl := order_len hL
  unfold orderS
  rw [if_pos h, natI_len, natI_get _ _ hf.2, hf.1]
  exact ⟨hf.2, hl, rfl⟩
set_option maxRecDepth 100000 in
set_option maxHeartbeats 2000000 in
theorem graphOk_w (a : Option Addr) (len cap : Nat) (zs : List Int) (w : World) (hB : Bytes w a len zs) :
    Calls Try.prog 3 #[.slice a len cap] w fun e w' => e = .returned (.bool true) ∧ Below w.heap.size w w' := by
  have hs := hB.small
  have H := hid hB
  clear hB
  go_enter Try.func3, Try.ntmps3
  go_wp2_with fail
  refine (drawGraphOk_c a len cap zs w H.out).mono ?_
  rintro e w1 ⟨v1, g, rfl, hg, hg1, hz, b1⟩
  obtain ⟨sg, cg, rfl⟩ := hg.slice
  have HG := hid hg
  have HZ := hid hz
  have hgl := hz.len
  have B1 := hid b1
  clear hg hz b1
  obtain ⟨r, hr⟩ : ∃ r, okG g = r := ⟨_, rfl⟩
  have HR := hid hr
  clear hr
  go_wp2_with fail
  refine (graphOkB g _ _ w1 HG.out HZ.out).mono ?_
  rintro e w2 ⟨rfl, hb2⟩
  rw [HR.out]
  have HG2 := hid (HG.out.on hb2)
  have B2 := hid (B1.out.trans (hb2.mono B1.out.size))
  clear hb2
  go_wp2_with fail
  refine (sGraphOkB g _ _ w2 HG2.out HZ.out).mono ?_
  rintro e w3 ⟨rfl, hb3⟩
  rw [HR.out]
  have HG3 := hid (HG2.out.on hb3)
  have B3 := hid (B2.out.trans (hb3.mono B2.out.size))
  clear hb3
  cases r
  · go_wp2_with fail
    go_ret
    exact ⟨rfl, B3.out⟩
  go_wp2_with fail
  refine (orderOf_c g _ _ w3 HG3.out HZ.out).mono ?_
  rintro e w4 ⟨v4, rfl, hown4, hb4⟩
  have hf := orderS_facts HR.out
  obtain ⟨os, hos⟩ : ∃ os, orderS g = os := ⟨_, rfl⟩
  rw [hos] at hown4 hf
  obtain ⟨hf1, hf2, hf3⟩ := hf
  have B4 := hid (B3.out.trans (hb4.mono B3.out.size))
  have HO := hid hown4
  obtain ⟨bo, co, rfl, hcell⟩ : ∃ b c, v4 = .slice (some ⟨b, 0, none⟩) os.length c ∧ w4.cell? ⟨b, 0, none⟩ = some (.int .i64 0) := by
    obtain ⟨b, c, hv, _, _⟩ := own_addr hown4 (by omega)
    subst hv
    refine ⟨b, c, rfl, ?_⟩
    have := hown4.cells (g := b) rfl 0 (.int .i64 0) (by
      cases os with
      | nil => simp at hf1
      | cons y ys =>
        obtain rfl : y = 0 := by simpa using hf3
        rfl)
    simpa [add_none] using this
  clear hown4 hb4 hos
  go_wp2_with fail
  go_ret
  exact ⟨rfl, B4.out⟩
end Go.Proofs.Ytbbhbjdpdhbjlaa.Ge
