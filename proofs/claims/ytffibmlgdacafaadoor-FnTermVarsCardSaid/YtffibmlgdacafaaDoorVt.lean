/- Terms that are made of others: bin, not of the model; binTerm, notTerm of the program. -/
import Derived.Test.YtffibmlgdacafaaDoorVs
import Derived.Test.YtffibmlgdacafaaDoorVj
set_option linter.unusedSimpArgs false
set_option linter.unusedVariables false
namespace Go.Proofs.YtffibmlgdacafaaDoor.Um
open Go.RowKit Pl Ft Mm In C2 Im

/-- A row of terms that was just laid; what its parts are is said elsewhere. -/
theorem own_terms (w : World) (ks : List Tm) (us : List Value) (cs : Array Value) (h : cs.toList = tCells ks us) (hl : ks.length ≤ 1000) (n : Nat) (hn : n = ks.length) : (w.alloc (.cells cs 28)).ownsRow w.heap.size 28 4 (.slice (some ⟨w.heap.size, 0, none⟩) n n) ks.length (tCells ks us) := by
  subst hn
  rw [← h]
  have hs : cs.size = ks.length * 4 := by
    have := congrArg List.length h
    rw [tCells_len] at this
    simpa using this
  exact World.ownsRow_lit (base := w.heap.size) (e := 28) (size := 4) w cs ks.length (Nat.le_refl _) (by simp only [maxLen]; omega) hs
theorem rd_of_own {w : World} {base n m : Nat} {v : Value} {ks : List Tm} {us : List Value} (hrow : w.ownsRow base 28 4 v m (tCells ks us)) (hm : m = ks.length) (hl : us.length = ks.length) (hk : ∀ j, j < ks.length → KRd w n (us.getD j vz) (ks.getD j tz).kids) : KRd w (n + 1) v ks := by
  subst hm
  obtain ⟨a, cap, rfl⟩ := own_slice hrow
  refine ⟨a, cap, rfl, ?_⟩
  by_cases h0 : ks = []
  · exact .inl h0
  · have hp : 0 < ks.length := List.length_pos_iff.2 h0
    obtain ⟨b, cap', hv, _, hb⟩ := own_addr hrow hp
    have ha : a = some ⟨b, 0, none⟩ := by simp at hv; exact hv.1
    subst ha
    refine .inr ⟨b, 0, rfl, hb, fun j hj => ?_⟩
    obtain ⟨c0, c1, c2, c3⟩ := tCells_get ks us j hj hl
    have hc : ∀ i u, (tCells ks us)[i]? = some u → w.cell? ⟨b, i, none⟩ = some u := by
      intro i u hu
      have := hrow.cells (g := b) rfl i u hu
      rwa [add_none, Nat.zero_add] at this
    rw [Nat.zero_add]
    exact ⟨_, hc _ _ c0, hc _ _ c1, hc _ _ c2, hc _ _ c3, hk j hj⟩
/-- What is given for a term of these parts, whose own parts are us. -/
def MadePost (t : Tm) (us : List Value) (w : World) (e : Ending) (w' : World) : Prop :=
  ∃ a c, e = .returned (tmVal t (.slice a t.kids.length c)) ∧ w'.ownsRow w.heap.size 28 4 (.slice a t.kids.length c) t.kids.length (tCells t.kids us) ∧ Below w.heap.size w w'
theorem made_end {t : Tm} {us : List Value} {w w3 : World} {cs : Array Value} {g : Nat} (hb : Below w.heap.size w w3) (hz : w3.heap.size = g) (h : cs.toList = tCells t.kids us) (hl : t.kids.length ≤ 2) {k : Nat} (hk : k = t.kids.length) {v : Value} (hv : v = tmVal t (.slice (some ⟨g, 0, none⟩) k k)) : MadePost t us w (.returned v) (w3.alloc (.cells cs 28)) := by
  subst hk hv hz
  exact ⟨_, _, rfl, own_mono (own_terms w3 t.kids us cs h (by omega) _ rfl) hb.size, hb.alloc hb.size _⟩
theorem bin_c (s : ByteArray) (a b : Tm) (va vb : Value) (w : World) : Calls Tryd.prog 54 #[.string s, tmVal a va, tmVal b vb] w (MadePost (binT a s b) [va, vb] w) := by
  obtain ⟨x0, x1, x2, xk⟩ := a
  obtain ⟨y0, y1, y2, yk⟩ := b
  have hb1 := (Below.refl w.heap.size w).alloc (Nat.le_refl _) (.cells #[.int .i64 x0, .int .i64 x1, .string x2, va] 28)
  have hb2 := hb1.alloc hb1.size (.cells #[.int .i64 y0, .int .i64 y1, .string y2, vb] 28)
  have HB3 := hid (hb2.alloc hb2.size (.cells #[.int .i64 2, .int .i64 0, .string s, .slice (some ⟨w.heap.size + 1 + 1 + 1, 0, none⟩) 2 2] 28))
  have HR := hid ((Row.new ((w.alloc (.cells #[.int .i64 x0, .int .i64 x1, .string x2, va] 28)).alloc (.cells #[.int .i64 y0, .int .i64 y1, .string y2, vb] 28)) 28 #[.int .i64 2, .int .i64 0, .string s, .slice (some ⟨w.heap.size + 1 + 1 + 1, 0, none⟩) 2 2]).alloc (.cells #[.int .i64 x0, .int .i64 x1, .string x2, va, .int .i64 y0, .int .i64 y1, .string y2, vb] 28))
  simp only [World.size_alloc] at HR
  clear hb1 hb2
  unfold tmVal
  simp only [Tm.kind, Tm.num, Tm.text]
  go_enter Tryd.func54, Tryd.ntmps54
  go_wp2_with fail
  refine bodyPost_ret (v := .agg #[.int .i64 2, .int .i64 0, .string s, .slice (some ⟨w.heap.size + 1 + 1 + 1, 0, none⟩) 2 2])
    (results_cell_row Tryd.results54 _ _ (w.heap.size + 1 + 1) 28 #[.int .i64 2, .int .i64 0, .string s, .slice (some ⟨w.heap.size + 1 + 1 + 1, 0, none⟩) 2 2] (0, 0) _ rfl HR.out Tryd.underlying28 rfl size_term) rfl ?_
  exact made_end HB3.out (by simp only [World.size_alloc]) rfl (Nat.le_refl _) rfl rfl
theorem binTerm_c (s : ByteArray) (a b : Tm) (va vb : Value) (w : World) : Calls Tryd.prog 99 #[tmVal a va, .string s, tmVal b vb] w (MadePost (binT a s b) [va, vb] w) := by
  obtain ⟨x0, x1, x2, xk⟩ := a
  obtain ⟨y0, y1, y2, yk⟩ := b
  have hb1 := (Below.refl w.heap.size w).alloc (Nat.le_refl _) (.cells #[.int .i64 x0, .int .i64 x1, .string x2, va] 28)
  have hb2 := hb1.alloc hb1.size (.cells #[.int .i64 y0, .int .i64 y1, .string y2, vb] 28)
  have HB3 := hid (hb2.alloc hb2.size (.cells #[.int .i64 2, .int .i64 0, .string s, .slice (some ⟨w.heap.size + 1 + 1 + 1, 0, none⟩) 2 2] 28))
  have HR := hid ((Row.new ((w.alloc (.cells #[.int .i64 x0, .int .i64 x1, .string x2, va] 28)).alloc (.cells #[.int .i64 y0, .int .i64 y1, .string y2, vb] 28)) 28 #[.int .i64 2, .int .i64 0, .string s, .slice (some ⟨w.heap.size + 1 + 1 + 1, 0, none⟩) 2 2]).alloc (.cells #[.int .i64 x0, .int .i64 x1, .string x2, va, .int .i64 y0, .int .i64 y1, .string y2, vb] 28))
  simp only [World.size_alloc] at HR
  clear hb1 hb2
  unfold tmVal
  simp only [Tm.kind, Tm.num, Tm.text]
  go_enter Tryd.func99, Tryd.ntmps99
  go_wp2_with fail
  refine bodyPost_ret (v := .agg #[.int .i64 2, .int .i64 0, .string s, .slice (some ⟨w.heap.size + 1 + 1 + 1, 0, none⟩) 2 2])
    (results_cell_row Tryd.results99 _ _ (w.heap.size + 1 + 1) 28 #[.int .i64 2, .int .i64 0, .string s, .slice (some ⟨w.heap.size + 1 + 1 + 1, 0, none⟩) 2 2] (0, 0) _ rfl HR.out Tryd.underlying28 rfl size_term) rfl ?_
  exact made_end HB3.out (by simp only [World.size_alloc]) rfl (Nat.le_refl _) rfl rfl
theorem not_c (a : Tm) (va : Value) (w : World) : Calls Tryd.prog 56 #[tmVal a va] w (MadePost (notT a) [va] w) := by
  obtain ⟨x0, x1, x2, xk⟩ := a
  have hb1 := (Below.refl w.heap.size w).alloc (Nat.le_refl _) (.cells #[.int .i64 x0, .int .i64 x1, .string x2, va] 28)
  have HB3 := hid (hb1.alloc hb1.size (.cells #[.int .i64 3, .int .i64 0, .string ⟨#[]⟩, .slice (some ⟨w.heap.size + 1 + 1, 0, none⟩) 1 1] 28))
  have HR := hid ((Row.new (w.alloc (.cells #[.int .i64 x0, .int .i64 x1, .string x2, va] 28)) 28 #[.int .i64 3, .int .i64 0, .string ⟨#[]⟩, .slice (some ⟨w.heap.size + 1 + 1, 0, none⟩) 1 1]).alloc (.cells #[.int .i64 x0, .int .i64 x1, .string x2, va] 28))
  simp only [World.size_alloc] at HR
  clear hb1
  unfold tmVal
  simp only [Tm.kind, Tm.num, Tm.text]
  go_enter Tryd.func56, Tryd.ntmps56
  go_wp2_with fail
  refine bodyPost_ret (v := .agg #[.int .i64 3, .int .i64 0, .string ⟨#[]⟩, .slice (some ⟨w.heap.size + 1 + 1, 0, none⟩) 1 1])
    (results_cell_row Tryd.results56 _ _ (w.heap.size + 1) 28 #[.int .i64 3, .int .i64 0, .string ⟨#[]⟩, .slice (some ⟨w.heap.size + 1 + 1, 0, none⟩) 1 1] (0, 0) _ rfl HR.out Tryd.underlying28 rfl size_term) rfl ?_
  exact made_end (t := notT (.mk x0 x1 x2 xk)) HB3.out (by simp only [World.size_alloc]) rfl (show 1 ≤ 2 by omega) rfl rfl
theorem notTerm_c (a : Tm) (va : Value) (w : World) : Calls Tryd.prog 100 #[tmVal a va] w (MadePost (notT a) [va] w) := by
  obtain ⟨x0, x1, x2, xk⟩ := a
  have hb1 := (Below.refl w.heap.size w).alloc (Nat.le_refl _) (.cells #[.int .i64 x0, .int .i64 x1, .string x2, va] 28)
  have HB3 := hid (hb1.alloc hb1.size (.cells #[.int .i64 3, .int .i64 0, .string ⟨#[]⟩, .slice (some ⟨w.heap.size + 1 + 1, 0, none⟩) 1 1] 28))
  have HR := hid ((Row.new (w.alloc (.cells #[.int .i64 x0, .int .i64 x1, .string x2, va] 28)) 28 #[.int .i64 3, .int .i64 0, .string ⟨#[]⟩, .slice (some ⟨w.heap.size + 1 + 1, 0, none⟩) 1 1]).alloc (.cells #[.int .i64 x0, .int .i64 x1, .string x2, va] 28))
  simp only [World.size_alloc] at HR
  clear hb1
  unfold tmVal
  simp only [Tm.kind, Tm.num, Tm.text]
  go_enter Tryd.func100, Tryd.ntmps100
  go_wp2_with fail
  refine bodyPost_ret (v := .agg #[.int .i64 3, .int .i64 0, .string ⟨#[]⟩, .slice (some ⟨w.heap.size + 1 + 1, 0, none⟩) 1 1])
    (results_cell_row Tryd.results100 _ _ (w.heap.size + 1) 28 #[.int .i64 3, .int .i64 0, .string ⟨#[]⟩, .slice (some ⟨w.heap.size + 1 + 1, 0, none⟩) 1 1] (0, 0) _ rfl HR.out Tryd.underlying28 rfl size_term) rfl ?_
  exact made_end (t := notT (.mk x0 x1 x2 xk)) HB3.out (by simp only [World.size_alloc]) rfl (show 1 ≤ 2 by omega) rfl rfl
theorem own_four {w : World} {base : Nat} {e : TypeId} {size : Nat} {v : Value} {n : Nat} {xs : List Value} (h : w.ownsRow base e size v n xs) {g : Nat} (hg : g < base) (y0 y1 y2 y3 : Value) :
    ((((w.setCell ⟨g, 0, none⟩ y0).setCell ⟨g, 1, none⟩ y1).setCell ⟨g, 2, none⟩ y2).setCell ⟨g, 3, none⟩ y3).ownsRow base e size v n xs :=
  own_same h (fun b hb => four_far _ _ _ (by have := (h.lt b hb).1; omega) _ _ _ _ _ _ _ _)
theorem own_alloc {w : World} {base : Nat} {e : TypeId} {size : Nat} {v : Value} {n : Nat} {xs : List Value} (h : w.ownsRow base e size v n xs) (o : Obj) : (w.alloc o).ownsRow base e size v n xs :=
  own_on h ((Below.refl w.heap.size w).alloc (Nat.le_refl _) o)
end Go.Proofs.YtffibmlgdacafaaDoor.Um
