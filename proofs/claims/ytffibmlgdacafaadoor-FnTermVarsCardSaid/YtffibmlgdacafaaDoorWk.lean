/- Simpler terms, by the model: terms that are read out of some blocks alone; what a function gives that makes a simpler term. -/
import Derived.Test.YtffibmlgdacafaaDoorWe
set_option linter.unusedSimpArgs false
set_option linter.unusedVariables false
namespace Go.Proofs.YtffibmlgdacafaaDoor.Um
open Go.RowKit Pl Ft Mm In C2 Im

/-- The slice v reads as these terms, out of blocks that are P. -/
def KP (P : Nat → Prop) (w : World) : Nat → Value → List Tm → Prop
  | 0, v, ks => ks = [] ∧ ∃ a cap, v = .slice a 0 cap
  | n + 1, v, ks => ∃ a cap, v = .slice a ks.length cap ∧ (ks = [] ∨ ∃ b o, a = some ⟨b, o, none⟩ ∧ (P b ∧ b < w.heap.size) ∧ ∀ j, j < ks.length → ∃ u,
      w.cell? ⟨b, o + j * 4, none⟩ = some (.int .i64 (ks.getD j tz).kind) ∧ w.cell? ⟨b, o + j * 4 + 1, none⟩ = some (.int .i64 (ks.getD j tz).num) ∧
      w.cell? ⟨b, o + j * 4 + 2, none⟩ = some (.string (ks.getD j tz).text) ∧ w.cell? ⟨b, o + j * 4 + 3, none⟩ = some u ∧ KP P w n u (ks.getD j tz).kids)
theorem KP.rd {P : Nat → Prop} {w : World} : ∀ {n : Nat} {v : Value} {ks : List Tm}, KP P w n v ks → KRd w n v ks
  | 0, _, _, h => h
  | n + 1, v, ks, h => by
    obtain ⟨a, cap, e, h⟩ := h
    refine ⟨a, cap, e, ?_⟩
    rcases h with h | ⟨b, o, ea, hg, hc⟩
    · exact .inl h
    · refine .inr ⟨b, o, ea, hg.2, fun j hj => ?_⟩
      obtain ⟨u, h0, h1, h2, h3, hk⟩ := hc j hj
      exact ⟨u, h0, h1, h2, h3, KP.rd hk⟩
theorem KRd.kp {P : Nat → Prop} {w : World} (hP : ∀ b, b < w.heap.size → P b) : ∀ {n : Nat} {v : Value} {ks : List Tm}, KRd w n v ks → KP P w n v ks
  | 0, _, _, h => h
  | n + 1, v, ks, h => by
    obtain ⟨a, cap, e, h⟩ := h
    refine ⟨a, cap, e, ?_⟩
    rcases h with h | ⟨b, o, ea, hg, hc⟩
    · exact .inl h
    · refine .inr ⟨b, o, ea, ⟨hP b hg, hg⟩, fun j hj => ?_⟩
      obtain ⟨u, h0, h1, h2, h3, hk⟩ := hc j hj
      exact ⟨u, h0, h1, h2, h3, KRd.kp hP hk⟩
theorem KP.slice {P : Nat → Prop} {w : World} {n : Nat} {v : Value} {ks : List Tm} (h : KP P w n v ks) : ∃ a cap, v = .slice a ks.length cap := h.rd.slice
theorem KP.weak {P Q : Nat → Prop} {w : World} (hPQ : ∀ b, b < w.heap.size → P b → Q b) : ∀ {n : Nat} {v : Value} {ks : List Tm}, KP P w n v ks → KP Q w n v ks
  | 0, _, _, h => h
  | n + 1, v, ks, h => by
    obtain ⟨a, cap, e, h⟩ := h
    refine ⟨a, cap, e, ?_⟩
    rcases h with h | ⟨b, o, ea, hg, hc⟩
    · exact .inl h
    · refine .inr ⟨b, o, ea, ⟨hPQ b hg.2 hg.1, hg.2⟩, fun j hj => ?_⟩
      obtain ⟨u, h0, h1, h2, h3, hk⟩ := hc j hj
      exact ⟨u, h0, h1, h2, h3, KP.weak hPQ hk⟩
theorem KP.keep {P : Nat → Prop} {w w' : World} (hz : w.heap.size ≤ w'.heap.size) (hb : ∀ b, P b → b < w.heap.size → w'.heap[b]? = w.heap[b]?) : ∀ {n : Nat} {v : Value} {ks : List Tm}, KP P w n v ks → KP P w' n v ks
  | 0, _, _, h => h
  | n + 1, v, ks, h => by
    obtain ⟨a, cap, e, h⟩ := h
    refine ⟨a, cap, e, ?_⟩
    rcases h with h | ⟨b, o, ea, hg, hc⟩
    · exact .inl h
    · refine .inr ⟨b, o, ea, ⟨hg.1, Nat.lt_of_lt_of_le hg.2 hz⟩, fun j hj => ?_⟩
      obtain ⟨u, h0, h1, h2, h3, hk⟩ := hc j hj
      have hcell : ∀ i, w'.cell? ⟨b, i, none⟩ = w.cell? ⟨b, i, none⟩ := fun i => World.cell?_of_block (w := w) (a := ⟨b, i, none⟩) (hb b hg.1 hg.2)
      exact ⟨u, (hcell _).trans h0, (hcell _).trans h1, (hcell _).trans h2, (hcell _).trans h3, KP.keep hz hb hk⟩
theorem KP.on {P : Nat → Prop} {w w' : World} {n : Nat} {v : Value} {ks : List Tm} (h : KP P w n v ks) (hb : Below w.heap.size w w') : KP P w' n v ks := KP.keep hb.size (fun b _ h => hb.block b h) h
theorem KP.mono {P : Nat → Prop} {w : World} : ∀ {n m : Nat} {v : Value} {ks : List Tm}, KP P w n v ks → n ≤ m → KP P w m v ks
  | 0, 0, _, _, h, _ => h
  | 0, m + 1, _, _, h, _ => by obtain ⟨rfl, a, cap, rfl⟩ := h; exact ⟨a, cap, rfl, .inl rfl⟩
  | n + 1, 0, _, _, _, hm => by omega
  | n + 1, m + 1, v, ks, h, hm => by
    obtain ⟨a, cap, e, h⟩ := h
    refine ⟨a, cap, e, ?_⟩
    rcases h with h | ⟨b, o, ea, hg, hc⟩
    · exact .inl h
    · refine .inr ⟨b, o, ea, hg, fun j hj => ?_⟩
      obtain ⟨u, h0, h1, h2, h3, hk⟩ := hc j hj
      exact ⟨u, h0, h1, h2, h3, KP.mono hk (by omega)⟩
/-- Blocks that there were, and are P, or new ones. -/
def Old (P : Nat → Prop) (w : World) (b : Nat) : Prop := (P b ∧ b < w.heap.size) ∨ w.heap.size ≤ b
theorem KP.old {P : Nat → Prop} {w wf : World} {n : Nat} {v : Value} {ks : List Tm} (h : KP P w n v ks) (hb : Below w.heap.size w wf) : KP (Old P w) wf n v ks :=
  (h.weak (Q := Old P w) (fun b h1 h2 => .inl ⟨h2, h1⟩)).on hb
/-- A row of one's own of parts that are read so. -/
theorem kp_row {P : Nat → Prop} {w : World} {base n m : Nat} {v : Value} {ks : List Tm} {us : List Value} (hrow : w.ownsRow base 28 4 v m (tCells ks us)) (hm : m = ks.length) (hl : us.length = ks.length) (hP : ∀ b, base ≤ b → P b) (hk : ∀ j, j < ks.length → KP P w n (us.getD j vz) (ks.getD j tz).kids) : KP P w (n + 1) v ks := by
  subst hm
  obtain ⟨a, cap, rfl⟩ := own_slice hrow
  refine ⟨a, cap, rfl, ?_⟩
  by_cases h0 : ks = []
  · exact .inl h0
  · have hp : 0 < ks.length := List.length_pos_iff.2 h0
    obtain ⟨b, cap', hv, hb0, hb⟩ := own_addr hrow hp
    have ha : a = some ⟨b, 0, none⟩ := by simp at hv; exact hv.1
    subst ha
    refine .inr ⟨b, 0, rfl, ⟨hP b hb0, hb⟩, fun j hj => ?_⟩
    obtain ⟨c0, c1, c2, c3⟩ := tCells_get ks us j hj hl
    have hc : ∀ i u, (tCells ks us)[i]? = some u → w.cell? ⟨b, i, none⟩ = some u := by
      intro i u hu
      have := hrow.cells (g := b) rfl i u hu
      rwa [add_none, Nat.zero_add] at this
    rw [Nat.zero_add]
    exact ⟨_, hc _ _ c0, hc _ _ c1, hc _ _ c2, hc _ _ c3, hk j hj⟩
theorem kp_bin {P : Nat → Prop} {w : World} {base n : Nat} {v va vb : Value} {a b : Tm} (hrow : w.ownsRow base 28 4 v 2 (tCells [a, b] [va, vb])) (hP : ∀ b, base ≤ b → P b) (ha : KP P w n va a.kids) (hb : KP P w n vb b.kids) : KP P w (n + 1) v [a, b] := by
  refine kp_row hrow rfl rfl hP (fun j hj => ?_)
  have hj2 : j = 0 ∨ j = 1 := by simp at hj; omega
  rcases hj2 with rfl | rfl
  · exact ha
  · exact hb
theorem kp_not {P : Nat → Prop} {w : World} {base n : Nat} {v va : Value} {a : Tm} (hrow : w.ownsRow base 28 4 v 1 (tCells [a] [va])) (hP : ∀ b, base ≤ b → P b) (ha : KP P w n va a.kids) : KP P w (n + 1) v [a] := by
  refine kp_row hrow rfl rfl hP (fun j hj => ?_)
  obtain rfl : j = 0 := by simpa using hj
  exact ha
theorem kp_nil {P : Nat → Prop} {w : World} (n : Nat) : KP P w n (.slice none 0 0) [] := by
  cases n with
  | zero => exact ⟨rfl, none, 0, rfl⟩
  | succ n => exact ⟨none, 0, rfl, .inl rfl⟩
/-- A part, by its cells. -/
theorem KP.part {P : Nat → Prop} {w : World} {n : Nat} {v : Value} {ks : List Tm} (h : KP P w n v ks) (h0 : 0 < ks.length) : ∃ m b o cap, n = m + 1 ∧ v = .slice (some ⟨b, o, none⟩) ks.length cap ∧ b < w.heap.size ∧ ∀ j, j < ks.length → ∃ u,
      w.cell? ⟨b, o + j * 4, none⟩ = some (.int .i64 (ks.getD j tz).kind) ∧ w.cell? ⟨b, o + j * 4 + 1, none⟩ = some (.int .i64 (ks.getD j tz).num) ∧
      w.cell? ⟨b, o + j * 4 + 2, none⟩ = some (.string (ks.getD j tz).text) ∧ w.cell? ⟨b, o + j * 4 + 3, none⟩ = some u ∧ KP P w m u (ks.getD j tz).kids := by
  cases n with
  | zero => obtain ⟨rfl, _⟩ := h; simp at h0
  | succ m =>
    obtain ⟨a, cap, rfl, h⟩ := h
    rcases h with rfl | ⟨b, o, rfl, hb, hc⟩
    · simp at h0
    · exact ⟨m, b, o, cap, rfl, rfl, hb.2, hc⟩
/-- What a function of the model gives that makes a simpler term of others, if there is one. -/
def FoldR (m : Nat) (P : Nat → Prop) (o : Option Tm) (w : World) (e : Ending) (w' : World) : Prop :=
  ∃ (t : Tm) (a : Option Addr) (c : Nat), e = .returned (.tuple #[tmVal t (.slice a t.kids.length c), .bool o.isSome]) ∧ (∀ r, o = some r → t = r ∧ KP (Old P w) w' m (.slice a t.kids.length c) r.kids) ∧ Below w.heap.size w w'
theorem foldr_end {m : Nat} {P : Nat → Prop} {o : Option Tm} {w wf : World} {t : Tm} {a : Option Addr} {c : Nat} {b : Bool} {v : Value} (hb : o.isSome = b) (h : ∀ r, o = some r → t = r ∧ KP (Old P w) wf m (.slice a t.kids.length c) r.kids) (hbl : Below w.heap.size w wf) (hv : v = tmVal t (.slice a t.kids.length c)) : FoldR m P o w (.returned (.tuple #[v, .bool b])) wf := by
  subst hv hb
  exact ⟨t, a, c, rfl, h, hbl⟩
theorem foldr_num {m : Nat} {P : Nat → Prop} {o : Option Tm} {w wf : World} {n : Int} (ho : o = some (nT n)) (hbl : Below w.heap.size w wf) : FoldR m P o w (.returned (.tuple #[.agg #[.int .i64 0, .int .i64 n, .string ⟨#[]⟩, .slice none 0 0], .bool true])) wf := by
  subst ho
  refine foldr_end (t := nT n) (a := none) (c := 0) rfl (fun r hr => ?_) hbl rfl
  obtain rfl : nT n = r := Option.some.inj hr
  exact ⟨rfl, kp_nil m⟩
theorem KP.arg {P : Nat → Prop} {w w1 : World} {n : Nat} {v : Value} {ks : List Tm} (h : KP P w n v ks) (hb : Below w.heap.size w w1) : KP (fun b => P b ∧ b < w.heap.size) w1 n v ks := (h.weak (Q := fun b => P b ∧ b < w.heap.size) (fun _ h1 h2 => ⟨h2, h1⟩)).on hb
/-- What another function gives is handed on: it is put into a block of one's own. -/
theorem foldr_pass {m : Nat} {P : Nat → Prop} {o : Option Tm} {w w1 w2 : World} {t : Tm} {v : Value} (h : ∀ r, o = some r → t = r ∧ KP (Old (fun b => P b ∧ b < w.heap.size) w1) w2 m v r.kids) {g : Nat} (hw : w.heap.size ≤ g) (hg : g < w1.heap.size) (y0 y1 y2 y3 : Value) :
    ∀ r, o = some r → t = r ∧ KP (Old P w) ((((w2.setCell ⟨g, 0, none⟩ y0).setCell ⟨g, 1, none⟩ y1).setCell ⟨g, 2, none⟩ y2).setCell ⟨g, 3, none⟩ y3) m v r.kids := by
  intro r hr
  obtain ⟨h1, h2⟩ := h r hr
  refine ⟨h1, (h2.keep (by rw [four_size]; exact Nat.le_refl _) (fun b hb _ => four_far _ _ _ (by rcases hb with ⟨⟨_, hb⟩, _⟩ | hb <;> omega) _ _ _ _ _ _ _ _)).weak (fun b _ hb => ?_)⟩
  rcases hb with ⟨hb, _⟩ | hb
  · exact .inl hb
  · exact .inr (by omega)
theorem foldr_lvl {m : Nat} {Q : Nat → Prop} {o : Option Tm} {w2 : World} {t : Tm} {v : Value} (h : ∀ r, o = some r → t = r ∧ KP Q w2 m v r.kids) : ∀ r, o = some r → t = r ∧ KP Q w2 (m + 1) v r.kids :=
  fun r hr => ⟨(h r hr).1, ((h r hr).2).mono (Nat.le_succ _)⟩
set_option maxHeartbeats 2000000 in
theorem foldSame_c (m : Nat) (P : Nat → Prop) (a : Tm) (va : Value) (s : ByteArray) (w : World) (ho : isOp s = true) (ha : KP P w m va a.kids) :
    Calls Tryd.prog 147 #[.string s, tmVal a va] w (FoldR m P (twiceT a s) w) := by
  obtain ⟨sa, ca, rfl⟩ := ha.slice
  have HA := hid ha
  clear ha
  obtain ⟨x0, x1, x2, la, hp⟩ := Pt.of a
  have HP := hid hp
  rw [hp.val]
  rw [hp.l] at HA ⊢
  clear hp
  have HB00 := hid ((Below.refl w.heap.size w).alloc (Nat.le_refl _) (.cells #[.int .i64 x0, .int .i64 x1, .string x2, .slice sa la ca] 28))
  have HB0 := hid (HB00.out.alloc HB00.out.size (.cells #[.int .i64 0, .int .i64 0, .string ⟨#[]⟩, .slice none 0 0] 28))
  have HZ0 := hid (Row.new (w.alloc (.cells #[.int .i64 x0, .int .i64 x1, .string x2, .slice sa la ca] 28)) 28 #[.int .i64 0, .int .i64 0, .string ⟨#[]⟩, .slice none 0 0])
  have HBa := hid (HB00.out.alloc HB00.out.size (.cells #[.int .i64 x0, .int .i64 x1, .string x2, .slice sa la ca] 28))
  have HZa := hid (Row.new (w.alloc (.cells #[.int .i64 x0, .int .i64 x1, .string x2, .slice sa la ca] 28)) 28 #[.int .i64 x0, .int .i64 x1, .string x2, .slice sa la ca])
  simp only [World.size_alloc] at HZ0 HZa
  rcases op_lit ho with rfl | rfl | rfl | rfl | rfl | rfl | rfl | rfl | rfl
  all_goals clear ho
  · rw [show twiceT a _ = none from rfl]
    go_enter Tryd.func147, Tryd.ntmps147
    go_wp2_with fail
    refine bodyPost_ret (v := .tuple #[.agg #[.int .i64 0, .int .i64 0, .string ⟨#[]⟩, .slice none 0 0], .bool false]) ?_ rfl ?_
    · exact results_cell_tmp Tryd.results147 _ _ (w.heap.size + 1) _ _ rfl HZ0.out Tryd.underlying28 size_term
    · exact foldr_end (t := tz) (a := none) (c := 0) rfl (fun r hr => by cases hr) HB0.out rfl
  · rw [show twiceT a _ = some (nT 0) from rfl]
    go_enter Tryd.func147, Tryd.ntmps147
    go_wp2_with fail
    refine (num0_c 0 _).mono ?_
    rintro e w1 ⟨rfl, hb1⟩
    have HB1 := hid (HB0.out.trans (hb1.mono HB0.out.size))
    have HZ1 := hid (HZ0.out.on hb1)
    clear hb1
    rw [nT_val]
    have r0 := HZ1.out.cell 0
    have r1 := HZ1.out.cell 1
    have r2 := HZ1.out.cell 2
    have r3 := HZ1.out.cell 3
    simp at r0 r1 r2 r3
    have hfr := HZ1.out.free
    go_wp2_with fail
    clear r0 r1 r2 r3 hfr
    refine bodyPost_ret (v := .tuple #[.agg #[.int .i64 0, .int .i64 0, .string ⟨#[]⟩, .slice none 0 0], .bool true]) ?_ rfl ?_
    · exact results_cell_tmp Tryd.results147 _ _ (w.heap.size + 1) _ _ rfl (four_row HZ1.out (.int .i64 0) (.int .i64 0) (.string ⟨#[]⟩) (.slice none 0 0)) Tryd.underlying28 size_term
    · exact foldr_num rfl (four_bel HB1.out (show w.heap.size ≤ w.heap.size + 1 by omega) _ _ _ _)
  · rw [show twiceT a _ = none from rfl]
    go_enter Tryd.func147, Tryd.ntmps147
    go_wp2_with fail
    refine bodyPost_ret (v := .tuple #[.agg #[.int .i64 0, .int .i64 0, .string ⟨#[]⟩, .slice none 0 0], .bool false]) ?_ rfl ?_
    · exact results_cell_tmp Tryd.results147 _ _ (w.heap.size + 1) _ _ rfl HZ0.out Tryd.underlying28 size_term
    · exact foldr_end (t := tz) (a := none) (c := 0) rfl (fun r hr => by cases hr) HB0.out rfl
  · rw [show twiceT a _ = some a from rfl]
    go_enter Tryd.func147, Tryd.ntmps147
    go_wp2_with fail
    refine bodyPost_ret (v := .tuple #[.agg #[.int .i64 x0, .int .i64 x1, .string x2, .slice sa la ca], .bool true]) ?_ rfl ?_
    · exact results_cell_tmp Tryd.results147 _ _ (w.heap.size + 1) _ _ rfl HZa.out Tryd.underlying28 size_term
    · exact foldr_end (t := a) (a := sa) (c := ca) rfl (fun r hr => by obtain rfl : a = r := Option.some.inj hr; exact ⟨rfl, by rw [HP.out.l]; exact HA.out.old HBa.out⟩) HBa.out (by rw [HP.out.l, HP.out.val])
  · rw [show twiceT a _ = some a from rfl]
    go_enter Tryd.func147, Tryd.ntmps147
    go_wp2_with fail
    refine bodyPost_ret (v := .tuple #[.agg #[.int .i64 x0, .int .i64 x1, .string x2, .slice sa la ca], .bool true]) ?_ rfl ?_
    · exact results_cell_tmp Tryd.results147 _ _ (w.heap.size + 1) _ _ rfl HZa.out Tryd.underlying28 size_term
    · exact foldr_end (t := a) (a := sa) (c := ca) rfl (fun r hr => by obtain rfl : a = r := Option.some.inj hr; exact ⟨rfl, by rw [HP.out.l]; exact HA.out.old HBa.out⟩) HBa.out (by rw [HP.out.l, HP.out.val])
  · rw [show twiceT a _ = some (nT 0) from rfl]
    go_enter Tryd.func147, Tryd.ntmps147
    go_wp2_with fail
    refine (num0_c 0 _).mono ?_
    rintro e w1 ⟨rfl, hb1⟩
    have HB1 := hid (HB0.out.trans (hb1.mono HB0.out.size))
    have HZ1 := hid (HZ0.out.on hb1)
    clear hb1
    rw [nT_val]
    have r0 := HZ1.out.cell 0
    have r1 := HZ1.out.cell 1
    have r2 := HZ1.out.cell 2
    have r3 := HZ1.out.cell 3
    simp at r0 r1 r2 r3
    have hfr := HZ1.out.free
    go_wp2_with fail
    clear r0 r1 r2 r3 hfr
    refine bodyPost_ret (v := .tuple #[.agg #[.int .i64 0, .int .i64 0, .string ⟨#[]⟩, .slice none 0 0], .bool true]) ?_ rfl ?_
    · exact results_cell_tmp Tryd.results147 _ _ (w.heap.size + 1) _ _ rfl (four_row HZ1.out (.int .i64 0) (.int .i64 0) (.string ⟨#[]⟩) (.slice none 0 0)) Tryd.underlying28 size_term
    · exact foldr_num rfl (four_bel HB1.out (show w.heap.size ≤ w.heap.size + 1 by omega) _ _ _ _)
  · rw [show twiceT a _ = some (nT 1) from rfl]
    go_enter Tryd.func147, Tryd.ntmps147
    go_wp2_with fail
    refine (num0_c 1 _).mono ?_
    rintro e w1 ⟨rfl, hb1⟩
    have HB1 := hid (HB0.out.trans (hb1.mono HB0.out.size))
    have HZ1 := hid (HZ0.out.on hb1)
    clear hb1
    rw [nT_val]
    have r0 := HZ1.out.cell 0
    have r1 := HZ1.out.cell 1
    have r2 := HZ1.out.cell 2
    have r3 := HZ1.out.cell 3
    simp at r0 r1 r2 r3
    have hfr := HZ1.out.free
    go_wp2_with fail
    clear r0 r1 r2 r3 hfr
    refine bodyPost_ret (v := .tuple #[.agg #[.int .i64 0, .int .i64 1, .string ⟨#[]⟩, .slice none 0 0], .bool true]) ?_ rfl ?_
    · exact results_cell_tmp Tryd.results147 _ _ (w.heap.size + 1) _ _ rfl (four_row HZ1.out (.int .i64 0) (.int .i64 1) (.string ⟨#[]⟩) (.slice none 0 0)) Tryd.underlying28 size_term
    · exact foldr_num rfl (four_bel HB1.out (show w.heap.size ≤ w.heap.size + 1 by omega) _ _ _ _)
  · rw [show twiceT a _ = some (nT 0) from rfl]
    go_enter Tryd.func147, Tryd.ntmps147
    go_wp2_with fail
    refine (num0_c 0 _).mono ?_
    rintro e w1 ⟨rfl, hb1⟩
    have HB1 := hid (HB0.out.trans (hb1.mono HB0.out.size))
    have HZ1 := hid (HZ0.out.on hb1)
    clear hb1
    rw [nT_val]
    have r0 := HZ1.out.cell 0
    have r1 := HZ1.out.cell 1
    have r2 := HZ1.out.cell 2
    have r3 := HZ1.out.cell 3
    simp at r0 r1 r2 r3
    have hfr := HZ1.out.free
    go_wp2_with fail
    clear r0 r1 r2 r3 hfr
    refine bodyPost_ret (v := .tuple #[.agg #[.int .i64 0, .int .i64 0, .string ⟨#[]⟩, .slice none 0 0], .bool true]) ?_ rfl ?_
    · exact results_cell_tmp Tryd.results147 _ _ (w.heap.size + 1) _ _ rfl (four_row HZ1.out (.int .i64 0) (.int .i64 0) (.string ⟨#[]⟩) (.slice none 0 0)) Tryd.underlying28 size_term
    · exact foldr_num rfl (four_bel HB1.out (show w.heap.size ≤ w.heap.size + 1 by omega) _ _ _ _)
  · rw [show twiceT a _ = some (nT 0) from rfl]
    go_enter Tryd.func147, Tryd.ntmps147
    go_wp2_with fail
    refine (num0_c 0 _).mono ?_
    rintro e w1 ⟨rfl, hb1⟩
    have HB1 := hid (HB0.out.trans (hb1.mono HB0.out.size))
    have HZ1 := hid (HZ0.out.on hb1)
    clear hb1
    rw [nT_val]
    have r0 := HZ1.out.cell 0
    have r1 := HZ1.out.cell 1
    have r2 := HZ1.out.cell 2
    have r3 := HZ1.out.cell 3
    simp at r0 r1 r2 r3
    have hfr := HZ1.out.free
    go_wp2_with fail
    clear r0 r1 r2 r3 hfr
    refine bodyPost_ret (v := .tuple #[.agg #[.int .i64 0, .int .i64 0, .string ⟨#[]⟩, .slice none 0 0], .bool true]) ?_ rfl ?_
    · exact results_cell_tmp Tryd.results147 _ _ (w.heap.size + 1) _ _ rfl (four_row HZ1.out (.int .i64 0) (.int .i64 0) (.string ⟨#[]⟩) (.slice none 0 0)) Tryd.underlying28 size_term
    · exact foldr_num rfl (four_bel HB1.out (show w.heap.size ≤ w.heap.size + 1 by omega) _ _ _ _)
end Go.Proofs.YtffibmlgdacafaaDoor.Um
