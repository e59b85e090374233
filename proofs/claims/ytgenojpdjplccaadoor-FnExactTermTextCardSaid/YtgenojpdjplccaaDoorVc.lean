/- The text of a term: TermText of the model; its parts, by the program. -/
import Derived.Test.YtgenojpdjplccaaDoorVb
import Derived.Test.YtgenojpdjplccaaDoorUw
import Derived.Test.YtgenojpdjplccaaDoorLay2
set_option linter.unusedSimpArgs false
set_option linter.unusedVariables false
namespace Go.Proofs.YtgenojpdjplccaaDoor.Um
open Go.RowKit Pl Ft Mm In C2 Im Tx

/-- The text of whatever is told as a term. -/
def termTextOf (t : Tm) : ByteArray := if termOk t then textT 14 t else ⟨#[]⟩
set_option maxHeartbeats 1000000 in
theorem sTermText_c (n : Nat) (t : Tm) (kv : Value) (w : World) (hr : KRd w n kv t.kids) (hw : t.wide ≤ 1048576) :
    Calls Tryd.prog 35 #[tmVal t kv] w (TPost (termTextOf t) w) := by
  have HR := hid hr
  have HWd := hid hw
  clear hr
  obtain ⟨x0, x1, x2, lk, hp⟩ := Pt.of t
  rw [hp.val]
  have HP := hid hp
  clear hp
  have HB0 := hid ((Below.refl w.heap.size w).alloc (Nat.le_refl _) (.cells #[.int .i64 x0, .int .i64 x1, .string x2, kv] 25))
  have HX0 := hid (Row.new w 25 #[.int .i64 x0, .int .i64 x1, .string x2, kv])
  cases hok : termOk t
  · have HOk := hid hok
    have HE := hid (show termTextOf t = ⟨#[]⟩ by rw [termTextOf, hok]; rfl)
    clear hok hw
    go_enter Tryd.func35, Tryd.ntmps35
    go_wp2_with fail
    rw [← HP.out.val]
    refine (validTerm_c n t kv _ (HR.out.on HB0.out) HWd.out).mono ?_
    rw [HOk.out]
    rintro e w1 ⟨rfl, hb1⟩
    have HB1 := hid (HB0.out.trans (hb1.mono HB0.out.size))
    clear hb1
    go_wp2_with fail
    go_ret
    exact ⟨by rw [HE.out]; rfl, HB1.out⟩
  · have HOk := hid hok
    obtain ⟨hsh, hsz⟩ := termOk_bd hok
    have HSh := hid hsh
    have HSz := hid hsz
    have HE := hid (show termTextOf t = textT 14 t by rw [termTextOf, hok]; rfl)
    clear hok hw hsh hsz
    go_enter Tryd.func35, Tryd.ntmps35
    go_wp2_with fail
    rw [← HP.out.val]
    refine (validTerm_c n t kv _ (HR.out.on HB0.out) HWd.out).mono ?_
    rw [HOk.out, HP.out.val]
    rintro e w1 ⟨rfl, hb1⟩
    have HB1 := hid (HB0.out.trans (hb1.mono HB0.out.size))
    have HX1 := hid (HX0.out.on hb1)
    clear hb1
    have d0 := HX1.out.cell 0
    have d1 := HX1.out.cell 1
    have d2 := HX1.out.cell 2
    have d3 := HX1.out.cell 3
    simp at d0 d1 d2 d3
    go_wp2_with fail
    refine (text_of_val (P := fun _ => True) HP.out (sText_c 14 n t kv _ (HR.out.on HB1.out) HWd.out HSz.out HSh.out)).mono ?_
    rintro e w2 ⟨rfl, hb2⟩
    have HB2 := hid (HB1.out.trans (hb2.mono HB1.out.size))
    clear hb2
    obtain ⟨s, hs⟩ : ∃ s, textT 14 t = s := ⟨_, rfl⟩
    rw [hs] at HE ⊢
    clear hs
    go_wp2_with fail
    go_ret
    exact ⟨by rw [HE.out]; rfl, HB2.out⟩
theorem spaced_c (s : ByteArray) (w : World) (hs : s.size ≤ 1048576) : Calls Tryd.prog 115 #[.string s] w fun e w' => e = .returned (.string (⟨#[32]⟩ ++ s ++ ⟨#[32]⟩)) ∧ w = w' := by
  go_enter Tryd.func115, Tryd.ntmps115
  go_wp2_with fail
  go_ret
  exact ⟨rfl, rfl⟩
theorem ba_mk (l : List UInt8) (a : ByteArray) (h : l = a.data.toList) : (⟨l.toArray⟩ : ByteArray) = a := by
  subst h
  rfl
def sepOf (s : ByteArray) : ByteArray := ⟨#[32]⟩ ++ s ++ ⟨#[32]⟩
def joinOf (l : List ByteArray) (s : ByteArray) : ByteArray := ⟨(Lib.join (l.map (·.data.toList)) s.data.toList).toArray⟩
theorem join_one (a s : ByteArray) : joinOf [a] s = a := by
  unfold joinOf
  apply ba_mk
  simp [Lib.join]
theorem join_two (a b s : ByteArray) : joinOf [a, b] s = a ++ s ++ b := by
  unfold joinOf
  apply ba_mk
  simp [Lib.join]
theorem text_join {h : Nat} {t : Tm} (hf : t.form = true) (hk : 2 ≤ t.kind) : textT (h + 1) t = (tforms.getD t.kind.toNat .none).ahead ++ joinOf (t.kids.map (textT h)) (sepOf t.text) ++ (tforms.getD t.kind.toNat .none).behind := by
  unfold textT
  rcases form_cases hf with ⟨h0, h1, h2, h3⟩ | ⟨h0, h3⟩ | ⟨h0, a, b, h3⟩ | ⟨h0, a, h3⟩ | ⟨h0, a, h3⟩ | ⟨h0, a, h3⟩
  · omega
  · omega
  · rw [if_neg (by omega), if_neg (by omega), if_pos h0, h0, h3, List.map_cons, List.map_cons, List.map_nil, join_two]
    unfold sepOf
    show _ = (⟨#[40]⟩ : ByteArray) ++ _ ++ ⟨#[41]⟩
    simp [ByteArray.append_assoc]
  · rw [if_neg (by omega), if_neg (by omega), if_neg (by omega), if_pos h0, h0, h3, List.map_cons, List.map_nil, join_one]
    show _ = (⟨#[33]⟩ : ByteArray) ++ _ ++ ⟨#[]⟩
    exact (ByteArray.append_empty).symm
  · rw [if_neg (by omega), if_neg (by omega), if_neg (by omega), if_neg (by omega), if_pos h0, h0, h3, List.map_cons, List.map_nil, join_one]
    rfl
  · rw [if_neg (by omega), if_neg (by omega), if_neg (by omega), if_neg (by omega), if_neg (by omega), h0, h3, List.map_cons, List.map_nil, join_one]
    rfl
end Go.Proofs.YtgenojpdjplccaaDoor.Um
