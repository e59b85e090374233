/- The text of a term, plainly; by the model. -/
import Derived.Test.YtgenojpdjplccaaDoorUi
import Derived.Test.YtgenojpdjplccaaDoorTx
import Derived.Laws.Concat
import Derived.RegionTactic
import Derived.BigRegion
import Derived.Deep.RegionHeld3
set_option linter.unusedSimpArgs false
set_option linter.unusedVariables false
namespace Go.Proofs.YtgenojpdjplccaaDoor.Um
open Go.RowKit Pl Ft Mm In C2 Im Tx

/-- The text of a term at most so high. -/
def textT : Nat → Tm → ByteArray
  | 0, _ => ⟨#[]⟩
  | h + 1, t =>
    if t.kind = 0 then txt t.num
    else if t.kind = 1 then t.text
    else if t.kind = 2 then ⟨#[40]⟩ ++ textT h (t.kids.getD 0 tz) ++ ⟨#[32]⟩ ++ t.text ++ ⟨#[32]⟩ ++ textT h (t.kids.getD 1 tz) ++ ⟨#[41]⟩
    else if t.kind = 3 then ⟨#[33]⟩ ++ textT h (t.kids.getD 0 tz)
    else if t.kind = 4 then ⟨#[119, 111, 114, 100, 91]⟩ ++ textT h (t.kids.getD 0 tz) ++ ⟨#[93]⟩
    else ⟨#[98, 121, 116, 101, 91]⟩ ++ textT h (t.kids.getD 0 tz) ++ ⟨#[93]⟩
/-- What a term that has its form has. -/
theorem form_cases {t : Tm} (hf : t.form = true) : (t.kind = 0 ∧ 0 ≤ t.num ∧ t.num ≤ 65535 ∧ t.kids = []) ∨ (t.kind = 1 ∧ t.kids = []) ∨ (t.kind = 2 ∧ ∃ a b, t.kids = [a, b]) ∨ (t.kind = 3 ∧ ∃ a, t.kids = [a]) ∨ (t.kind = 4 ∧ ∃ a, t.kids = [a]) ∨ (t.kind = 5 ∧ ∃ a, t.kids = [a]) := by
  have two : t.kids.length = 2 → ∃ a b, t.kids = [a, b] := fun h => by
    cases e : t.kids with
    | nil => rw [e] at h; simp at h
    | cons a l => cases l with
      | nil => rw [e] at h; simp at h
      | cons b l => cases l with
        | nil => exact ⟨a, b, rfl⟩
        | cons c l => rw [e] at h; simp at h
  have one : t.kids.length = 1 → ∃ a, t.kids = [a] := fun h => List.length_eq_one_iff.1 h
  have hk := form_kind hf
  unfold Tm.form formOf at hf
  have hc : t.kind = 0 ∨ t.kind = 1 ∨ t.kind = 2 ∨ t.kind = 3 ∨ t.kind = 4 ∨ t.kind = 5 := by omega
  rcases hc with h | h | h | h | h | h
  · rw [if_pos h] at hf
    simp only [Bool.and_eq_true, beq_iff_eq] at hf
    have h1 : 0 ≤ t.num ∧ t.num ≤ 65535 := by simpa [inR, lo, hi] using hf.1
    exact .inl ⟨h, h1.1, h1.2, List.eq_nil_of_length_eq_zero hf.2.2⟩
  · rw [if_neg (by omega), if_pos h] at hf
    simp only [Bool.and_eq_true, beq_iff_eq] at hf
    exact .inr (.inl ⟨h, List.eq_nil_of_length_eq_zero hf.2.2⟩)
  · rw [if_neg (by omega), if_neg (by omega), if_pos h] at hf
    simp only [Bool.and_eq_true, beq_iff_eq] at hf
    exact .inr (.inr (.inl ⟨h, two hf.2.2⟩))
  · rw [if_neg (by omega), if_neg (by omega), if_neg (by omega), if_pos (by omega)] at hf
    simp only [Bool.and_eq_true, beq_iff_eq] at hf
    exact .inr (.inr (.inr (.inl ⟨h, one hf.2.2⟩)))
  · rw [if_neg (by omega), if_neg (by omega), if_neg (by omega), if_pos (by omega)] at hf
    simp only [Bool.and_eq_true, beq_iff_eq] at hf
    exact .inr (.inr (.inr (.inr (.inl ⟨h, one hf.2.2⟩))))
  · rw [if_neg (by omega), if_neg (by omega), if_neg (by omega), if_pos (by omega)] at hf
    simp only [Bool.and_eq_true, beq_iff_eq] at hf
    exact .inr (.inr (.inr (.inr (.inr ⟨h, one hf.2.2⟩))))
theorem size_app (a b : ByteArray) : (a ++ b).size = a.size + b.size := ByteArray.size_append
theorem text_len : ∀ (h : Nat) (t : Tm), shape h t = true → t.wide ≤ 1048576 → (textT h t).size ≤ 2000000 * t.size
  | 0, _, hs, _ => by simp [shape] at hs
  | h + 1, t, hs, hw => by
    obtain ⟨hf, hk⟩ := shape_at hs
    have e1 := size_eq t
    have e2 := wide_eq t
    have key : ∀ j, j < t.kids.length → (textT h (t.kids.getD j tz)).size ≤ 2000000 * (t.kids.getD j tz).size := fun j hj => by
      have := wides_at t.kids j hj
      exact text_len h _ (hk j hj) (by omega)
    unfold textT
    rcases form_cases hf with ⟨h0, h1, h2, h3⟩ | ⟨h0, h3⟩ | ⟨h0, a, b, h3⟩ | ⟨h0, a, h3⟩ | ⟨h0, a, h3⟩ | ⟨h0, a, h3⟩
    · rw [if_pos h0]
      have := itoa_len (x := t.num) (by omega) (by omega)
      omega
    · rw [if_neg (by omega), if_pos h0]
      omega
    · rw [if_neg (by omega), if_neg (by omega), if_pos h0]
      rw [h3] at key e1 ⊢
      have k0 := key 0 (by simp)
      have k1 := key 1 (by simp)
      simp only [List.getD_cons_zero, List.getD_cons_succ] at k0 k1 ⊢
      rw [sizes_cons, sizes_cons, sizes_nil] at e1
      simp only [size_app]
      simp only [show (⟨#[40]⟩ : ByteArray).size = 1 from rfl, show (⟨#[41]⟩ : ByteArray).size = 1 from rfl, show (⟨#[32]⟩ : ByteArray).size = 1 from rfl]
      omega
    · rw [if_neg (by omega), if_neg (by omega), if_neg (by omega), if_pos h0]
      rw [h3] at key e1 ⊢
      have k0 := key 0 (by simp)
      simp only [List.getD_cons_zero] at k0 ⊢
      rw [sizes_cons, sizes_nil] at e1
      simp only [size_app]
      simp only [show (⟨#[33]⟩ : ByteArray).size = 1 from rfl]
      omega
    · rw [if_neg (by omega), if_neg (by omega), if_neg (by omega), if_neg (by omega), if_pos h0]
      rw [h3] at key e1 ⊢
      have k0 := key 0 (by simp)
      simp only [List.getD_cons_zero] at k0 ⊢
      rw [sizes_cons, sizes_nil] at e1
      simp only [size_app]
      simp only [show (⟨#[119, 111, 114, 100, 91]⟩ : ByteArray).size = 5 from rfl, show (⟨#[93]⟩ : ByteArray).size = 1 from rfl]
      omega
    · rw [if_neg (by omega), if_neg (by omega), if_neg (by omega), if_neg (by omega), if_neg (by omega)]
      rw [h3] at key e1 ⊢
      have k0 := key 0 (by simp)
      simp only [List.getD_cons_zero] at k0 ⊢
      rw [sizes_cons, sizes_nil] at e1
      simp only [size_app]
      simp only [show (⟨#[98, 121, 116, 101, 91]⟩ : ByteArray).size = 5 from rfl, show (⟨#[93]⟩ : ByteArray).size = 1 from rfl]
      omega
/-- A text that a call gives, and blocks that it made. -/
def TPost (s : ByteArray) (w : World) (e : Ending) (w' : World) : Prop := e = .returned (.string s) ∧ Below w.heap.size w w'
theorem text_of_val {P : Tm → Prop} {t : Tm} {x0 x1 : Int} {x2 : ByteArray} {lk : Nat} (hp : Pt t x0 x1 x2 lk) {f : Nat} {kv : Value} {w : World} {s : ByteArray} (h : Calls Tryd.prog f #[tmVal t kv] w (TPost s w)) :
    Calls Tryd.prog f #[.agg #[.int .i64 x0, .int .i64 x1, .string x2, kv]] w (TPost s w) := by
  rw [← hp.val]; exact h
set_option maxRecDepth 100000 in
set_option maxHeartbeats 4000000 in
theorem sText_c (h : Nat) : ∀ (n : Nat) (t : Tm) (kv : Value) (w : World), KRd w n kv t.kids → t.wide ≤ 1048576 → t.size ≤ 60 → shape h t = true →
    Calls Tryd.prog 75 #[tmVal t kv] w (TPost (textT h t) w) := by
  induction h with
  | zero => intro n t kv w _ _ _ hs; simp [shape] at hs
  | succ h ih =>
    intro n t kv w hr hw hz hs
    obtain ⟨hf, hks⟩ := shape_at hs
    have HI := hid ih
    have HSz := hid (size_eq t)
    have HWi := hid (wide_eq t)
    have HWd := hid hw
    have HZ := hid hz
    have HSh := hid hks
    clear ih hw hz hs hks
    have hcs := form_cases hf
    clear hf
    obtain ⟨x0, x1, x2, lk, hp⟩ := Pt.of t
    rw [hp.val]
    have HTt := hid (show textT (h + 1) t = if x0 = 0 then txt x1 else if x0 = 1 then x2 else if x0 = 2 then ⟨#[40]⟩ ++ textT h (t.kids.getD 0 tz) ++ ⟨#[32]⟩ ++ x2 ++ ⟨#[32]⟩ ++ textT h (t.kids.getD 1 tz) ++ ⟨#[41]⟩ else if x0 = 3 then ⟨#[33]⟩ ++ textT h (t.kids.getD 0 tz) else if x0 = 4 then ⟨#[119, 111, 114, 100, 91]⟩ ++ textT h (t.kids.getD 0 tz) ++ ⟨#[93]⟩ else ⟨#[98, 121, 116, 101, 91]⟩ ++ textT h (t.kids.getD 0 tz) ++ ⟨#[93]⟩ by
      rw [textT, hp.k, hp.n, hp.s])
    rw [hp.k, hp.n] at hcs
    have hx2 : x2.size ≤ 1048576 := by rw [← hp.s]; have := HWi.out; have := HWd.out; omega
    clear hp
    obtain ⟨r, hre⟩ : ∃ r, textT (h + 1) t = r := ⟨_, rfl⟩
    rw [hre] at HTt ⊢
    clear hre
    have HB0 := hid ((Below.refl w.heap.size w).alloc (Nat.le_refl _) (.cells #[.int .i64 x0, .int .i64 x1, .string x2, kv] 25))
    have HX0 := hid (Row.new w 25 #[.int .i64 x0, .int .i64 x1, .string x2, kv])
    have one : ∀ a, t.kids = [a] → ∃ (m b o : Nat) (cap : Nat) (u : Value) (z0 z1 : Int) (z2 : ByteArray) (lz : Nat), kv = .slice (some ⟨b, o, none⟩) 1 cap ∧ b < w.heap.size ∧ Pt a z0 z1 z2 lz ∧ w.cell? ⟨b, o, none⟩ = some (.int .i64 z0) ∧ w.cell? ⟨b, o + 1, none⟩ = some (.int .i64 z1) ∧ w.cell? ⟨b, o + 2, none⟩ = some (.string z2) ∧ w.cell? ⟨b, o + 3, none⟩ = some u ∧ KRd w m u a.kids ∧ (textT h a).size ≤ 120000000 ∧ ∀ w2, KRd w2 m u a.kids → Calls Tryd.prog 75 #[.agg #[.int .i64 z0, .int .i64 z1, .string z2, u]] w2 (TPost (textT h a) w2) := by
      intro a ha
      rw [ha] at hr
      obtain ⟨m, b, o, cap, rfl, rfl, hb, hc⟩ := hr.cells (by simp)
      obtain ⟨u, c0, c1, c2, c3, hk⟩ := hc 0 (by simp)
      obtain ⟨z0, z1, z2, lz, hq⟩ := Pt.of a
      simp only [List.getD_cons_zero, Nat.zero_mul, Nat.add_zero] at c0 c1 c2 c3 hk
      have e1 := HSz.out
      have e2 := HWi.out
      have e3 := HWd.out
      have e4 := HZ.out
      have e5 := HSh.out 0 (by rw [ha]; simp)
      rw [ha, sizes_cons, sizes_nil] at e1
      rw [ha, wides_cons, wides_nil] at e2
      rw [ha, List.getD_cons_zero] at e5
      rw [hq.k] at c0
      rw [hq.n] at c1
      rw [hq.s] at c2
      have e6 := text_len h a e5 (by omega)
      exact ⟨m, b, o, cap, u, z0, z1, z2, lz, rfl, hb, hq, c0, c1, c2, c3, hk, by omega, fun w2 hk2 => text_of_val (P := fun _ => True) hq (HI.out m a u w2 hk2 (by omega) (by omega) e5)⟩
    rcases hcs with ⟨rfl, h1, h2, h3⟩ | ⟨rfl, h3⟩ | ⟨rfl, a, b, h3⟩ | ⟨rfl, a, h3⟩ | ⟨rfl, a, h3⟩ | ⟨rfl, a, h3⟩
    · clear one
      go_enter Tryd.func75, Tryd.ntmps75
      go_wp2_with fail
      refine (decimalAll_c x1 _ (by omega) (by omega)).mono ?_
      rintro e w1 ⟨rfl, rfl⟩
      obtain ⟨s, hs⟩ : ∃ s, txt x1 = s := ⟨_, rfl⟩
      have HS := hid hs
      rw [hs]
      clear hs
      go_wp2_with fail
      go_ret
      exact ⟨by rw [HTt.out, ← HS.out]; rfl, HB0.out⟩
    · clear one
      go_enter Tryd.func75, Tryd.ntmps75
      go_wp2_with fail
      go_ret
      exact ⟨by rw [HTt.out]; rfl, HB0.out⟩
    · clear one
      rw [h3] at hr
      obtain ⟨m, g, o, cap, rfl, rfl, hb, hc⟩ := hr.cells (by simp)
      obtain ⟨u, c0, c1, c2, c3, hk⟩ := hc 0 (by simp)
      obtain ⟨v, d0, d1, d2, d3, hl⟩ := hc 1 (by simp)
      obtain ⟨z0, z1, z2, lz, hq⟩ := Pt.of a
      obtain ⟨y0, y1, y2, ly, hq2⟩ := Pt.of b
      simp only [List.getD_cons_zero, List.getD_cons_succ, Nat.zero_mul, Nat.add_zero, Nat.one_mul] at c0 c1 c2 c3 hk d0 d1 d2 d3 hl
      have e1 := HSz.out
      have e2 := HWi.out
      have e3 := HWd.out
      have e4 := HZ.out
      have e5 := HSh.out 0 (by rw [h3]; simp)
      have e6 := HSh.out 1 (by rw [h3]; simp)
      rw [h3, sizes_cons, sizes_cons, sizes_nil] at e1
      rw [h3, wides_cons, wides_cons, wides_nil] at e2
      rw [h3, List.getD_cons_zero] at e5
      rw [h3, List.getD_cons_succ, List.getD_cons_zero] at e6
      rw [hq.k] at c0
      rw [hq.n] at c1
      rw [hq.s] at c2
      rw [hq2.k] at d0
      rw [hq2.n] at d1
      rw [hq2.s] at d2
      have hla := text_len h a e5 (by omega)
      have hlb := text_len h b e6 (by omega)
      have hla2 : (textT h a).size ≤ 120000000 := by omega
      have hlb2 : (textT h b).size ≤ 120000000 := by omega
      have HCa := hid (fun w2 (hk2 : KRd w2 m u a.kids) => text_of_val (P := fun _ => True) hq (HI.out m a u w2 hk2 (by omega) (by omega) e5))
      have HCb := hid (fun w2 (hk2 : KRd w2 m v b.kids) => text_of_val (P := fun _ => True) hq2 (HI.out m b v w2 hk2 (by omega) (by omega) e6))
      have HKa := hid (hk.on HB0.out)
      have HKb := hid (hl.on HB0.out)
      have HT2 := hid (show r = ⟨#[40]⟩ ++ textT h a ++ ⟨#[32]⟩ ++ x2 ++ ⟨#[32]⟩ ++ textT h b ++ ⟨#[41]⟩ by rw [HTt.out, h3]; rfl)
      have e : ∀ k, (w.alloc (.cells #[.int .i64 2, .int .i64 x1, .string x2, .slice (some ⟨g, o, none⟩) 2 cap] 25)).cell? ⟨g, k, none⟩ = w.cell? ⟨g, k, none⟩ := fun k => HB0.out.cell (p := ⟨g, k, none⟩) hb
      have p0 := (e _).trans c0
      have p1 := (e _).trans c1
      have p2 := (e _).trans c2
      have p3 := (e _).trans c3
      have q0 := (e _).trans d0
      have q1 := (e _).trans d1
      have q2 := (e _).trans d2
      have q3 := (e _).trans d3
      clear hc hk hl hq hq2 hr HTt hla hlb e1 e2 e3 e4 e5 e6 HI HSz HWi HWd HZ HSh c0 c1 c2 c3 d0 d1 d2 d3 e
      obtain ⟨s, hs⟩ : ∃ s, textT h a = s := ⟨_, rfl⟩
      rw [hs] at HCa HT2 hla2
      obtain ⟨s', hs'⟩ : ∃ s, textT h b = s := ⟨_, rfl⟩
      rw [hs'] at HCb HT2 hlb2
      clear hs hs' h3
      go_enter Tryd.func75, Tryd.ntmps75
      go_upto_region 7 with fail
      have hz1 : (w.alloc (.cells #[.int .i64 2, .int .i64 x1, .string x2, .slice (some ⟨g, o, none⟩) 2 cap] 25)).heap.size = w.heap.size + 1 := by simp
      have hX0 := HX0.out
      simp only [List.length_cons, List.length_nil] at hX0
      generalize (w.alloc (.cells #[.int .i64 2, .int .i64 x1, .string x2, .slice (some ⟨g, o, none⟩) 2 cap] 25)) = w1 at HB0 hX0 HKa HKb p0 p1 p2 p3 q0 q1 q2 q3 hz1 ⊢
      have hg1 : g < w1.heap.size := by omega
      have HX1 := hid hX0
      have k2 := hX0.cell 2
      have k3 := hX0.cell 3
      simp at k2 k3
      have hgt := hX0.lt
      have HS := hid (fun (wx : World) (hbx : Below w1.heap.size w1 wx) => (show wx.cell? ⟨g, o, none⟩ = some (.int .i64 z0) ∧ wx.cell? ⟨g, o + 1, none⟩ = some (.int .i64 z1) ∧ wx.cell? ⟨g, o + 2, none⟩ = some (.string z2) ∧ wx.cell? ⟨g, o + 3, none⟩ = some u ∧ wx.cell? ⟨g, o + 4, none⟩ = some (.int .i64 y0) ∧ wx.cell? ⟨g, o + 4 + 1, none⟩ = some (.int .i64 y1) ∧ wx.cell? ⟨g, o + 4 + 2, none⟩ = some (.string y2) ∧ wx.cell? ⟨g, o + 4 + 3, none⟩ = some v ∧ wx.cell? ⟨w.heap.size, 2, none⟩ = some (.string x2) ∧ wx.cell? ⟨w.heap.size, 3, none⟩ = some (.slice (some ⟨g, o, none⟩) 2 cap) from
        ⟨(hbx.cell (p := ⟨g, o, none⟩) hg1).trans p0, (hbx.cell (p := ⟨g, o + 1, none⟩) hg1).trans p1, (hbx.cell (p := ⟨g, o + 2, none⟩) hg1).trans p2, (hbx.cell (p := ⟨g, o + 3, none⟩) hg1).trans p3, (hbx.cell (p := ⟨g, o + 4, none⟩) hg1).trans q0, (hbx.cell (p := ⟨g, o + 4 + 1, none⟩) hg1).trans q1, (hbx.cell (p := ⟨g, o + 4 + 2, none⟩) hg1).trans q2, (hbx.cell (p := ⟨g, o + 4 + 3, none⟩) hg1).trans q3, (hbx.cell (p := ⟨w.heap.size, 2, none⟩) hgt).trans k2, (hbx.cell (p := ⟨w.heap.size, 3, none⟩) hgt).trans k3⟩))
      clear hX0 HX0 p0 p1 p2 p3 q0 q1 q2 q3 k2 k3
      have HDr := hid (Below.refl w1.heap.size w1).drew
      have HKb1 := hid (fun (wx : World) (hbx : Below w1.heap.size w1 wx) => HKb.out.on hbx)
      have zz1 : ¬ (9223372036854775807 < 1 + s.size) := by omega
      have zz2 : ¬ (9223372036854775807 < 1 + s.size + 1) := by omega
      have zz3 : ¬ (9223372036854775807 < 1 + s.size + 1 + x2.size) := by omega
      have zz4 : ¬ (9223372036854775807 < 1 + s.size + 1 + x2.size + 1) := by omega
      have zz5 : ¬ (9223372036854775807 < 1 + s.size + 1 + x2.size + 1 + s'.size) := by omega
      have zz6 : ¬ (9223372036854775807 < 1 + s.size + 1 + x2.size + 1 + s'.size + 1) := by omega
      go_region_held3 (fun w' => w'.cell? ⟨g, o, none⟩ = some (.int .i64 z0) ∧ w'.cell? ⟨g, o + 1, none⟩ = some (.int .i64 z1) ∧ w'.cell? ⟨g, o + 2, none⟩ = some (.string z2) ∧ w'.cell? ⟨g, o + 3, none⟩ = some u ∧ w'.cell? ⟨g, o + 4, none⟩ = some (.int .i64 y0) ∧ w'.cell? ⟨g, o + 4 + 1, none⟩ = some (.int .i64 y1) ∧ w'.cell? ⟨g, o + 4 + 2, none⟩ = some (.string y2) ∧ w'.cell? ⟨g, o + 4 + 3, none⟩ = some v ∧ w'.cell? ⟨w.heap.size, 2, none⟩ = some (.string x2) ∧ w'.cell? ⟨w.heap.size, 3, none⟩ = some (.slice (some ⟨g, o, none⟩) 2 cap)) (first | exact HS.out _ HDr.out | exact HS.out _ HBa.out | exact HS.out _ HBb.out)
        (first
        | (go_at_call 75; (with_reducible refine (HCa.out _ (HKa.out.on HDr.out)).mono ?_); rintro e wa ⟨rfl, hba⟩; have HBa := hid (HDr.out.trans (hba.mono (Nat.le_refl _))); clear hba)
        | (go_at_call 75; (with_reducible refine (HCb.out _ (HKb1.out _ HBa.out)).mono ?_); rintro e wb ⟨rfl, hbb⟩; have HBb := hid (HBa.out.trans (hbb.mono HBa.out.size)); clear hbb))
      all_goals
        go_wp2_with fail
        go_ret
        exact ⟨by rw [HT2.out]; rfl, HB0.out.trans (HBb.out.mono HB0.out.size)⟩
    · obtain ⟨m, g, o, cap, u, z0, z1, z2, lz, rfl, hb, hq, c0, c1, c2, c3, hk, hl, hc⟩ := one a h3
      clear one
      have HC := hid hc
      have HK := hid hk
      have HT2 := hid (show r = ⟨#[33]⟩ ++ textT h a by rw [HTt.out, h3]; rfl)
      clear hc hk hq
      obtain ⟨s, hs⟩ : ∃ s, textT h a = s := ⟨_, rfl⟩
      rw [hs] at HC HT2 hl
      clear hs h3
      go_enter Tryd.func75, Tryd.ntmps75
      go_wp2_with fail
      refine (HC.out _ (HK.out.on HB0.out)).mono ?_
      rintro e w1 ⟨rfl, hb1⟩
      have HB1 := hid (HB0.out.trans (hb1.mono HB0.out.size))
      clear hb1
      go_wp2_with fail
      go_ret
      exact ⟨by rw [HT2.out]; rfl, HB1.out⟩
    · obtain ⟨m, g, o, cap, u, z0, z1, z2, lz, rfl, hb, hq, c0, c1, c2, c3, hk, hl, hc⟩ := one a h3
      clear one
      have HC := hid hc
      have HK := hid hk
      have HT2 := hid (show r = ⟨#[119, 111, 114, 100, 91]⟩ ++ textT h a ++ ⟨#[93]⟩ by rw [HTt.out, h3]; rfl)
      clear hc hk hq
      obtain ⟨s, hs⟩ : ∃ s, textT h a = s := ⟨_, rfl⟩
      rw [hs] at HC HT2 hl
      clear hs h3
      go_enter Tryd.func75, Tryd.ntmps75
      go_wp2_with fail
      refine (HC.out _ (HK.out.on HB0.out)).mono ?_
      rintro e w1 ⟨rfl, hb1⟩
      have HB1 := hid (HB0.out.trans (hb1.mono HB0.out.size))
      clear hb1
      go_wp2_with fail
      go_ret
      exact ⟨by rw [HT2.out]; rfl, HB1.out⟩
    · obtain ⟨m, g, o, cap, u, z0, z1, z2, lz, rfl, hb, hq, c0, c1, c2, c3, hk, hl, hc⟩ := one a h3
      clear one
      have HC := hid hc
      have HK := hid hk
      have HT2 := hid (show r = ⟨#[98, 121, 116, 101, 91]⟩ ++ textT h a ++ ⟨#[93]⟩ by rw [HTt.out, h3]; rfl)
      clear hc hk hq
      obtain ⟨s, hs⟩ : ∃ s, textT h a = s := ⟨_, rfl⟩
      rw [hs] at HC HT2 hl
      clear hs h3
      go_enter Tryd.func75, Tryd.ntmps75
      go_wp2_with fail
      refine (HC.out _ (HK.out.on HB0.out)).mono ?_
      rintro e w1 ⟨rfl, hb1⟩
      have HB1 := hid (HB0.out.trans (hb1.mono HB0.out.size))
      clear hb1
      go_wp2_with fail
      go_ret
      exact ⟨by rw [HT2.out]; rfl, HB1.out⟩
end Go.Proofs.YtgenojpdjplccaaDoor.Um
