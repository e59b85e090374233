/- When a term is one, by the program: its tables, names, operators, the form of a term, TermOk. -/
import Derived.Test.YtffibmlgdacafaaDoorBase
import Derived.Test.YtffibmlgdacafaaDoorIm1
import Derived.RegionTactic
import Derived.BigRegion
import Derived.BigQuiet
set_option linter.unusedSimpArgs false
set_option linter.unusedVariables false
namespace Go.Proofs.YtffibmlgdacafaaDoor.Um
open Go.RowKit Pl Ft Mm In C2 Im

theorem text_of {p : ByteArray} {l : List UInt8} (h : p.toList = l) : p = ⟨l.toArray⟩ := by
  rw [ByteArray.toList_eq] at h
  apply ByteArray.ext
  rw [← h]
/-- A row of the table of forms, and one of the table of operators. -/
structure TF where
  num : Int
  label : Int
  parts : Int
  ahead : ByteArray
  behind : ByteArray
def TF.none : TF := ⟨0, 0, 0, ⟨#[]⟩, ⟨#[]⟩⟩
def tforms : List TF := [⟨5, 0, 0, ⟨#[]⟩, ⟨#[]⟩⟩, ⟨0, 1, 0, ⟨#[]⟩, ⟨#[]⟩⟩, ⟨0, 2, 2, ⟨#[40]⟩, ⟨#[41]⟩⟩, ⟨0, 0, 1, ⟨#[33]⟩, ⟨#[]⟩⟩, ⟨0, 0, 1, ⟨#[119, 111, 114, 100, 91]⟩, ⟨#[93]⟩⟩, ⟨0, 0, 1, ⟨#[98, 121, 116, 101, 91]⟩, ⟨#[93]⟩⟩]
structure Opr where
  text : ByteArray
  asks : Bool
  number : Int
def Opr.none : Opr := ⟨⟨#[]⟩, false, 0⟩
def oprs : List Opr := [⟨⟨#[43]⟩, false, 0⟩, ⟨⟨#[45]⟩, false, 1⟩, ⟨⟨#[42]⟩, false, 2⟩, ⟨⟨#[38]⟩, false, 3⟩, ⟨⟨#[124]⟩, false, 4⟩, ⟨⟨#[94]⟩, false, 5⟩, ⟨⟨#[61, 61]⟩, true, 0⟩, ⟨⟨#[60]⟩, true, 2⟩, ⟨⟨#[60, 60]⟩, true, 4⟩]
def Opr.val (o : Opr) : Value := .agg #[.string o.text, .bool o.asks, .int .i64 o.number]
def opCells : Array Value := #[.string ⟨#[43]⟩, .bool false, .int .i64 0, .string ⟨#[45]⟩, .bool false, .int .i64 1, .string ⟨#[42]⟩, .bool false, .int .i64 2, .string ⟨#[38]⟩, .bool false, .int .i64 3, .string ⟨#[124]⟩, .bool false, .int .i64 4, .string ⟨#[94]⟩, .bool false, .int .i64 5, .string ⟨#[61, 61]⟩, .bool true, .int .i64 0, .string ⟨#[60]⟩, .bool true, .int .i64 2, .string ⟨#[60, 60]⟩, .bool true, .int .i64 4]
def formCells : Array Value := #[.int .i64 5, .int .i64 0, .int .i64 0, .string ⟨#[]⟩, .string ⟨#[]⟩, .int .i64 0, .int .i64 1, .int .i64 0, .string ⟨#[]⟩, .string ⟨#[]⟩, .int .i64 0, .int .i64 2, .int .i64 2, .string ⟨#[40]⟩, .string ⟨#[41]⟩, .int .i64 0, .int .i64 0, .int .i64 1, .string ⟨#[33]⟩, .string ⟨#[]⟩, .int .i64 0, .int .i64 0, .int .i64 1, .string ⟨#[119, 111, 114, 100, 91]⟩, .string ⟨#[93]⟩, .int .i64 0, .int .i64 0, .int .i64 1, .string ⟨#[98, 121, 116, 101, 91]⟩, .string ⟨#[93]⟩]
/-- What the tables hold. -/
structure Tabs (w : World) : Prop where
  f : ∃ t fr, w.heap[(0 : Nat)]? = some (.cells formCells t fr)
  o : ∃ t fr, w.heap[(1 : Nat)]? = some (.cells opCells t fr)
theorem Tabs.f0 {w : World} (h : Tabs w) : 0 < w.heap.size := by
  obtain ⟨t, fr, h⟩ := h.f
  exact (Array.getElem?_eq_some_iff.1 h).1
theorem Tabs.o0 {w : World} (h : Tabs w) : 1 < w.heap.size := by
  obtain ⟨t, fr, h⟩ := h.o
  exact (Array.getElem?_eq_some_iff.1 h).1
theorem Tabs.on {w w' : World} (h : Tabs w) (hb : Below w.heap.size w w') : Tabs w' := by
  have hf := h.f0
  have ho := h.o0
  obtain ⟨⟨t, fr, h1⟩, ⟨u, gr, h2⟩⟩ := h
  exact ⟨⟨t, fr, (hb.block _ hf).trans h1⟩, ⟨u, gr, (hb.block _ ho).trans h2⟩⟩
theorem form_cells : ∀ k, k < 6 → formCells[k * 5]? = some (.int .i64 (tforms.getD k .none).num) ∧ formCells[k * 5 + 1]? = some (.int .i64 (tforms.getD k .none).label) ∧ formCells[k * 5 + 2]? = some (.int .i64 (tforms.getD k .none).parts) ∧ formCells[k * 5 + 3]? = some (.string (tforms.getD k .none).ahead) ∧ formCells[k * 5 + 4]? = some (.string (tforms.getD k .none).behind)
  | 0, _ => ⟨rfl, rfl, rfl, rfl, rfl⟩
  | 1, _ => ⟨rfl, rfl, rfl, rfl, rfl⟩
  | 2, _ => ⟨rfl, rfl, rfl, rfl, rfl⟩
  | 3, _ => ⟨rfl, rfl, rfl, rfl, rfl⟩
  | 4, _ => ⟨rfl, rfl, rfl, rfl, rfl⟩
  | 5, _ => ⟨rfl, rfl, rfl, rfl, rfl⟩
  | k + 6, h => by omega
theorem Tabs.form {w : World} (h : Tabs w) (k : Nat) (hk : k < 6) : w.cell? ⟨0, k * 5, none⟩ = some (.int .i64 (tforms.getD k .none).num) ∧ w.cell? ⟨0, k * 5 + 1, none⟩ = some (.int .i64 (tforms.getD k .none).label) ∧ w.cell? ⟨0, k * 5 + 2, none⟩ = some (.int .i64 (tforms.getD k .none).parts) ∧ w.cell? ⟨0, k * 5 + 3, none⟩ = some (.string (tforms.getD k .none).ahead) ∧ w.cell? ⟨0, k * 5 + 4, none⟩ = some (.string (tforms.getD k .none).behind) := by
  obtain ⟨t, fr, h⟩ := h.f
  rw [cell_of_row w _ _ _ _ _ h, cell_of_row w _ _ _ _ _ h, cell_of_row w _ _ _ _ _ h, cell_of_row w _ _ _ _ _ h, cell_of_row w _ _ _ _ _ h]
  exact form_cells k hk
theorem res_mem {s : ByteArray} (h : resWords.contains s.toList = true) : s.toList = [119, 111, 114, 100] ∨ s.toList = [98, 121, 116, 101] ∨ s.toList = [111, 117, 116] ∨ s.toList = [105, 110] ∨ s.toList = [105, 102] ∨ s.toList = [101, 108, 115, 101] ∨ s.toList = [108, 111, 111, 112] ∨ s.toList = [98, 108, 111, 99, 107] ∨ s.toList = [108, 101, 97, 118, 101] ∨ s.toList = [97, 103, 97, 105, 110] ∨ s.toList = [98, 97, 99, 107] ∨ s.toList = [104, 97, 108, 116] ∨ s.toList = [112, 114, 111, 99] := by
  simpa [resWords] using h
theorem res_not {s : ByteArray} (h : resWords.contains s.toList = false) : ∀ l ∈ resWords, (s.toList == l) = false := by
  intro l hl
  cases he : (s.toList == l)
  · rfl
  · have : s.toList = l := by simpa using he
    rw [this] at h
    have h2 : resWords.contains l = true := by simpa using hl
    rw [h2] at h
    cases h
set_option maxHeartbeats 1000000 in
theorem isFreeName_c (s : ByteArray) (w : World) (hs : s.size ≤ 4611686018427387904) : Calls Tryd.prog 68 #[.string s] w fun e w' => e = .returned (.bool (freeName s)) ∧ w = w' := by
  cases h : resWords.contains s.toList
  · have hn := res_not h
    have HF := hid (show freeName s = isName s by rw [freeName, h]; rfl)
    have h0 := hn _ (by simp [resWords] : [119, 111, 114, 100] ∈ resWords)
    have h1 := hn _ (by simp [resWords] : [98, 121, 116, 101] ∈ resWords)
    have h2 := hn _ (by simp [resWords] : [111, 117, 116] ∈ resWords)
    have h3 := hn _ (by simp [resWords] : [105, 110] ∈ resWords)
    have h4 := hn _ (by simp [resWords] : [105, 102] ∈ resWords)
    have h5 := hn _ (by simp [resWords] : [101, 108, 115, 101] ∈ resWords)
    have h6 := hn _ (by simp [resWords] : [108, 111, 111, 112] ∈ resWords)
    have h7 := hn _ (by simp [resWords] : [98, 108, 111, 99, 107] ∈ resWords)
    have h8 := hn _ (by simp [resWords] : [108, 101, 97, 118, 101] ∈ resWords)
    have h9 := hn _ (by simp [resWords] : [97, 103, 97, 105, 110] ∈ resWords)
    have h10 := hn _ (by simp [resWords] : [98, 97, 99, 107] ∈ resWords)
    have h11 := hn _ (by simp [resWords] : [104, 97, 108, 116] ∈ resWords)
    have h12 := hn _ (by simp [resWords] : [112, 114, 111, 99] ∈ resWords)
    clear hn h
    go_enter Tryd.func68, Tryd.ntmps68
    go_wp2_with fail
    refine (isName_c s _ hs).mono ?_
    rintro e w1 ⟨rfl, rfl⟩
    clear h0 h1 h2 h3 h4 h5 h6 h7 h8 h9 h10 h11 h12
    go_wp2_with fail
    go_ret
    exact ⟨bool_eq HF.out.symm, rfl⟩
  · have HF := hid (show freeName s = false by rw [freeName, h]; rfl)
    rcases res_mem h with h | h | h | h | h | h | h | h | h | h | h | h | h
    all_goals
      obtain rfl := text_of h
      clear h
      go_enter Tryd.func68, Tryd.ntmps68
      go_wp2_with fail
      go_ret
      exact ⟨bool_eq HF.out.symm, rfl⟩
def opFound (s : ByteArray) : Option Opr := oprs.find? fun o => o.text.toList == s.toList
def opPair (o : Option Opr) : Value := .tuple #[(o.getD .none).val, .bool o.isSome]
def o3 (o : Opr) : Array Value := #[.string o.text, .bool o.asks, .int .i64 o.number]
theorem opr_index : ∀ k : Nat, k < 9 → ∀ w : World, (Instr.index 120 (.agg opCells) (.int .i64 k)).run Tryd.prog w = .ok (oprs.getD k .none).val w := by
  intro k hk
  match k, hk with
  | 0, _ => intro w; kernel_rfl
  | 1, _ => intro w; kernel_rfl
  | 2, _ => intro w; kernel_rfl
  | 3, _ => intro w; kernel_rfl
  | 4, _ => intro w; kernel_rfl
  | 5, _ => intro w; kernel_rfl
  | 6, _ => intro w; kernel_rfl
  | 7, _ => intro w; kernel_rfl
  | 8, _ => intro w; kernel_rfl
  | k + 9, h => omega
theorem size_ops : (Tryd.prog.info? 120).map (·.size) = some opCells.size := by kernel_rfl
theorem size_opr : (Tryd.prog.info? 119).map (·.size) = some 3 := by kernel_rfl
theorem found_at {s : ByteArray} {k : Nat} (hk : k < 9) (h : ((oprs.getD k .none).text.toList == s.toList) = true) (hn : ∀ j, j < k → ((oprs.getD j .none).text.toList == s.toList) = false) : opFound s = some (oprs.getD k .none) := by
  unfold opFound
  rw [List.find?_eq_some_iff_append]
  refine ⟨h, oprs.take k, oprs.drop (k + 1), ?_, ?_⟩
  · have hl : k < oprs.length := hk
    have e : oprs.getD k .none = oprs[k] := by simp [hl]
    rw [e, List.getElem_cons_drop, List.take_append_drop]
  · intro o ho
    obtain ⟨j, hj, rfl⟩ := List.mem_iff_getElem.1 ho
    rw [List.length_take] at hj
    have := hn j (by omega)
    rw [List.getElem_take]
    have hjl : j < oprs.length := by omega
    have e : oprs.getD j .none = oprs[j] := by simp [hjl]
    rw [← e, this]
    rfl
theorem found_no {s : ByteArray} (hn : ∀ j, j < 9 → ((oprs.getD j .none).text.toList == s.toList) = false) : opFound s = none := by
  unfold opFound
  rw [List.find?_eq_none]
  intro o ho
  obtain ⟨j, hj, rfl⟩ := List.mem_iff_getElem.1 ho
  have e : oprs.getD j .none = oprs[j] := by simp [hj]
  have := hn j hj
  rw [← e, this]
  simp
theorem results_cell_tmp {fn : Func} {p r : Tmp} {t : TypeId} (h : fn.results = #[.cell p t, .tmp r]) (tmps : Array Value) (w : World) (g : Nat) (cs : Array Value) (fs : Array Field)
    (hp : tmps.getD p undef = .pointer (some ⟨g, 0, none⟩)) (h1 : Row w g t cs) (hu : Tryd.prog.underlying t = some (.struct fs)) (hi : (Tryd.prog.info? t).map (·.size) = some cs.size) :
    (results fn tmps).run Tryd.prog w = .ok (.tuple #[.agg cs, tmps.getD r undef]) w := by
  have hp' : tmps[p]?.getD undef = .pointer (some ⟨g, 0, none⟩) := by simpa using hp
  simp [results, h, hp', asAddr, run_loadVar_row w g t t cs (0, 0) _ h1 hu rfl hi]
theorem three_row {w : World} {g : Nat} {t : TypeId} {x0 x1 x2 : Value} (h : Row w g t #[x0, x1, x2]) (y0 y1 y2 : Value) :
    Row (((w.setCell ⟨g, 0, none⟩ y0).setCell ⟨g, 1, none⟩ y1).setCell ⟨g, 2, none⟩ y2) g t #[y0, y1, y2] := ((h.set 0 _).set 1 _).set 2 _
theorem three_bel {B : Nat} {w w' : World} {g : Nat} (h : Below B w w') (hg : B ≤ g) (y0 y1 y2 : Value) : Below B w (((w'.setCell ⟨g, 0, none⟩ y0).setCell ⟨g, 1, none⟩ y1).setCell ⟨g, 2, none⟩ y2) := by
  have h0 := h.setCell (p := ⟨g, 0, none⟩) hg y0
  have h1 := h0.setCell (p := ⟨g, 1, none⟩) hg y1
  exact h1.setCell (p := ⟨g, 2, none⟩) hg y2
theorem opFound_is {s : ByteArray} : (opFound s).isSome = isOp s := by
  have e : opTexts = oprs.map fun o => o.text.toList := by
    simp only [oprs, opTexts, List.map_cons, List.map_nil, ByteArray.toList_eq]
  unfold opFound isOp
  rw [e, Bool.eq_iff_iff, List.find?_isSome, List.contains_iff_mem]
  simp
set_option maxRecDepth 100000 in
set_option maxHeartbeats 2000000 in
theorem operatorOf_c (s : ByteArray) (w : World) (hT : Tabs w) : Calls Tryd.prog 105 #[.string s] w fun e w' => e = .returned (opPair (opFound s)) ∧ Below w.heap.size w w' := by
  have HB0 := hid ((Below.refl w.heap.size w).alloc (Nat.le_refl _) (.cells #[.string ⟨#[]⟩, .bool false, .int .i64 0] 119))
  have HO0 := hid (Row.new w 119 #[.string ⟨#[]⟩, .bool false, .int .i64 0])
  obtain ⟨t0, fr0, hb0⟩ := (hT.on HB0.out).o
  have HBk := hid hb0
  clear hb0 hT
  go_enter Tryd.func105, Tryd.ntmps105
  go_wp2_with (refine wpList_load_row rfl 120 _ rfl 1 rfl _ opCells _ _ HBk.out Tryd.underlying120 rfl size_ops ?_)
  go_loopw [7] (fun c wr => ∃ k : Nat, c = .int .i64 k ∧ k ≤ 9 ∧ (∀ j, j < k → ((oprs.getD j .none).text.toList == s.toList) = false) ∧ Row wr w.heap.size 119 #[.string ⟨#[]⟩, .bool false, .int .i64 0] ∧ Below w.heap.size w wr) (fun c _ => 9 - (intOf c).toNat)
  case atStart => exact ⟨0, rfl, by omega, fun j hj => by omega, HO0.out, HB0.out⟩
  case round =>
    obtain ⟨k, rfl, hk, hno, hrow, hbel⟩ := hrel
    have HNo := hid hno
    have HRow := hid hrow
    have HBe := hid hbel
    have hz := hbel.size
    have hlw := hrow.lt
    by_cases hlt : k < 9
    · have hidx := opr_index k hlt
      have HFd := hid (fun h => found_at hlt (s := s) h hno)
      obtain ⟨⟨t, b, n⟩, ho⟩ : ∃ o, oprs.getD k .none = o := ⟨_, rfl⟩
      have HOe := hid ho
      rw [ho] at hidx HFd
      simp only [Opr.val] at hidx HFd
      have c0 := hrow.cell 0
      have c1 := hrow.cell 1
      have c2 := hrow.cell 2
      have hfr := hrow.free
      simp at c0 c1 c2
      clear hno hrow hbel ho
      cases hb : (t.toList == s.toList)
      · have HBv := hid hb
        go_wp2_with fail
        go_roundw
        case rel =>
          refine ⟨k + 1, by go_num, by omega, fun j hj => ?_, HRow.out.alloc _, HBe.out.alloc HBe.out.size _⟩
          by_cases hjk : j < k
          · exact HNo.out j hjk
          · obtain rfl : j = k := by omega
            rw [HOe.out]
            exact HBv.out
        case measure => simp [intOf]; omega
      · have HBv := hid (HFd.out hb)
        go_wp2_with fail
        refine bodyPost_ret (v := .tuple #[.agg (o3 ⟨t, b, n⟩), .bool true]) ?_ rfl ?_
        · exact results_cell_tmp Tryd.results105 _ _ w.heap.size _ _ rfl ((three_row HRow.out _ _ _).alloc _) Tryd.underlying119 size_opr
        exact ⟨by rw [HBv.out]; rfl, (three_bel HBe.out (Nat.le_refl _) _ _ _).alloc (by simpa using hz) _⟩
    · obtain rfl : k = 9 := by omega
      have HFn := hid (found_no HNo.out)
      have c0 := hrow.cell 0
      have c1 := hrow.cell 1
      have c2 := hrow.cell 2
      have hfr := hrow.free
      simp at c0 c1 c2
      clear hno hrow hbel
      go_wp2_with fail
      refine bodyPost_ret (v := .tuple #[.agg #[.string ⟨#[]⟩, .bool false, .int .i64 0], .bool false]) ?_ rfl ?_
      · exact results_cell_tmp Tryd.results105 _ _ w.heap.size _ _ rfl (three_row HRow.out _ _ _) Tryd.underlying119 size_opr
      exact ⟨by rw [HFn.out]; rfl, three_bel HBe.out (Nat.le_refl _) _ _ _⟩
def labelOk (l : Int) (s : ByteArray) : Bool := if l = 1 then freeName s else if l = 2 then isOp s else noText s
set_option maxHeartbeats 1000000 in
theorem labelHas_c (l : Int) (s : ByteArray) (w : World) (hT : Tabs w) (hs : s.size ≤ 4611686018427387904) (hl : l = 0 ∨ l = 1 ∨ l = 2) :
    Calls Tryd.prog 166 #[.int .i64 l, .string s] w fun e w' => e = .returned (.bool (labelOk l s)) ∧ Below w.heap.size w w' := by
  rcases hl with rfl | rfl | rfl
  · go_enter Tryd.func166, Tryd.ntmps166
    go_wp2_with fail
    go_ret
    exact ⟨bool_eq rfl, Below.refl _ _⟩
  · go_enter Tryd.func166, Tryd.ntmps166
    go_wp2_with fail
    refine (isFreeName_c s _ hs).mono ?_
    rintro e w1 ⟨rfl, rfl⟩
    go_wp2_with fail
    go_ret
    exact ⟨bool_eq rfl, Below.refl _ _⟩
  · have HT := hid hT
    have HI := hid (opFound_is (s := s))
    clear hT
    go_enter Tryd.func166, Tryd.ntmps166
    go_wp2_with fail
    refine (operatorOf_c s _ HT.out).mono ?_
    rintro e w1 ⟨rfl, hb1⟩
    have HB1 := hid hb1
    clear hb1
    obtain ⟨o, ho⟩ : ∃ o, opFound s = o := ⟨_, rfl⟩
    rw [ho] at HI ⊢
    obtain ⟨⟨t, b, n⟩, hq⟩ : ∃ q, o.getD .none = q := ⟨_, rfl⟩
    obtain ⟨i, hi⟩ : ∃ i, o.isSome = i := ⟨_, rfl⟩
    unfold opPair
    rw [hq, hi]
    rw [hi] at HI
    unfold Opr.val
    simp only
    clear ho hq hi
    go_wp2_with fail
    go_ret
    exact ⟨bool_eq (by rw [HI.out]; rfl), HB1.out.alloc HB1.out.size _⟩
def formBy (f : TF) (n : Int) (s : ByteArray) (c : Nat) : Bool := inR f.num n && (labelOk f.label s && ((c : Int) == f.parts))
theorem formOf_is (k : Nat) (hk : k < 6) (n : Int) (s : ByteArray) (c : Nat) : formOf k n s c = formBy (tforms.getD k .none) n s c := by
  have h0 : inR 0 n = (n == 0) := by simp only [inR, lo, hi]; rw [Bool.eq_iff_iff]; simp; omega
  have h : k = 0 ∨ k = 1 ∨ k = 2 ∨ k = 3 ∨ k = 4 ∨ k = 5 := by omega
  have c0 : ((c : Int) == 0) = (c == 0) := by rw [Bool.eq_iff_iff]; simp
  have c1 : ((c : Int) == 1) = (c == 1) := by rw [Bool.eq_iff_iff]; simp; omega
  have c2 : ((c : Int) == 2) = (c == 2) := by rw [Bool.eq_iff_iff]; simp; omega
  rcases h with rfl | rfl | rfl | rfl | rfl | rfl
  · simp [formOf, formBy, tforms, labelOk, h0, c0]
  · simp [formOf, formBy, tforms, labelOk, h0, c0]
  · simp [formOf, formBy, tforms, labelOk, h0, c2]
  · simp [formOf, formBy, tforms, labelOk, h0, c1]
  · simp [formOf, formBy, tforms, labelOk, h0, c1]
  · simp [formOf, formBy, tforms, labelOk, h0, c1]
theorem formOf_out {k : Int} (hk : k < 0 ∨ 6 ≤ k) (n : Int) (s : ByteArray) (c : Nat) : formOf k n s c = false := by
  unfold formOf
  rw [if_neg (by omega), if_neg (by omega), if_neg (by omega), if_neg (by omega)]
theorem tf_label : ∀ k, k < 6 → (tforms.getD k .none).label = 0 ∨ (tforms.getD k .none).label = 1 ∨ (tforms.getD k .none).label = 2 := by decide
set_option maxHeartbeats 2000000 in
theorem hasForm_c (t : Tm) (kv : Value) (w : World) (hT : Tabs w) (hs : t.text.size ≤ 4611686018427387904) (hk : ∃ a cap, kv = .slice a t.kids.length cap) (hkl : t.kids.length ≤ 4611686018427387904) :
    Calls Tryd.prog 148 #[tmVal t kv] w fun e w' => e = .returned (.bool t.form) ∧ Below w.heap.size w w' := by
  obtain ⟨a, cap, rfl⟩ := hk
  obtain ⟨x, n, s, ks⟩ := t
  unfold tmVal Tm.form
  simp only [Tm.kind, Tm.num, Tm.text, Tm.kids] at *
  have HB0 := hid ((Below.refl w.heap.size w).alloc (Nat.le_refl _) (.cells #[.int .i64 x, .int .i64 n, .string s, .slice a ks.length cap] 28))
  have HX0 := hid (Row.new w 28 #[.int .i64 x, .int .i64 n, .string s, .slice a ks.length cap])
  have HT := hid (hT.on HB0.out)
  have hg0 := hT.f0
  have hgo := HT.out.f0
  obtain ⟨c, hc⟩ : ∃ c, ks.length = c := ⟨_, rfl⟩
  rw [hc] at HB0 HX0 HT hkl hgo ⊢
  clear hT hc
  by_cases h0 : 0 ≤ x
  case neg =>
    have HNo := hid (formOf_out (.inl (by omega)) n s c (k := x))
    go_enter Tryd.func148, Tryd.ntmps148
    go_wp2_with fail
    go_ret
    exact ⟨bool_eq HNo.out.symm, HB0.out⟩
  by_cases h6 : x < 6
  case neg =>
    have HNo := hid (formOf_out (.inr (by omega)) n s c (k := x))
    go_enter Tryd.func148, Tryd.ntmps148
    go_wp2_with fail
    go_ret
    exact ⟨bool_eq HNo.out.symm, HB0.out⟩
  obtain ⟨k, rfl⟩ := Int.eq_ofNat_of_zero_le h0
  have hk6 : k < 6 := by omega
  have HF := hid (formOf_is k hk6 n s c)
  have hlab := tf_label k hk6
  obtain ⟨f0, f1, f2, f3, f4⟩ := HT.out.form k hk6
  obtain ⟨⟨fn, fl, fp, fa, fb⟩, hf⟩ : ∃ f, tforms.getD k .none = f := ⟨_, rfl⟩
  rw [hf] at HF f0 f1 f2 f3 f4 hlab
  simp only at f0 f1 f2 f3 f4 hlab
  clear hf
  have HLab := hid hlab
  have hW : ∀ o, Below w.heap.size w ((w.alloc (.cells #[.int .i64 k, .int .i64 n, .string s, .slice a c cap] 28)).alloc o) := fun o => HB0.out.alloc HB0.out.size o
  have HT1 := hid (fun o => HT.out.on ((Below.refl _ _).alloc (Nat.le_refl _) o))
  have HWl := hid hW
  clear hlab hW
  cases h1 : inR fn n
  · have H1 := hid h1
    clear h1
    go_enter Tryd.func148, Tryd.ntmps148
    go_wp2_with (go_at_call 104; refine (has_c _ _ _).mono ?_; rw [H1.out]; rintro e w' ⟨rfl, rfl⟩)
    go_ret
    exact ⟨bool_eq (by rw [HF.out, formBy, H1.out]; rfl), HWl.out _⟩
  · have H1 := hid h1
    clear h1
    go_enter Tryd.func148, Tryd.ntmps148
    go_wp2_with (go_at_call 104; refine (has_c _ _ _).mono ?_; rw [H1.out]; rintro e w' ⟨rfl, rfl⟩)
    refine (labelHas_c fl s _ (HT1.out _) hs HLab.out).mono ?_
    rintro e w2 ⟨rfl, hb2⟩
    have hX2 := (HX0.out.alloc (.cells #[.int .i64 fn, .int .i64 fl, .int .i64 fp, .string fa, .string fb] 107)).on hb2
    have hY2 := (Row.new (w.alloc (.cells #[.int .i64 k, .int .i64 n, .string s, .slice a c cap] 28)) 107 #[.int .i64 fn, .int .i64 fl, .int .i64 fp, .string fa, .string fb]).on hb2
    simp only [World.size_alloc] at hY2
    have HB2 := hid ((HWl.out _).trans (hb2.mono (HWl.out _).size))
    have x3 := hX2.cell 3
    have y2 := hY2.cell 2
    simp at x3 y2
    clear hX2 hY2 hb2 f0 f1 f2 f3 f4
    cases h2 : labelOk fl s
    · have H2 := hid h2
      clear h2
      go_wp2_with fail
      go_ret
      exact ⟨bool_eq (by rw [HF.out, formBy, H1.out, H2.out]; rfl), HB2.out⟩
    · have H2 := hid h2
      clear h2
      go_wp2_with fail
      go_ret
      exact ⟨bool_eq (by rw [HF.out, formBy, H1.out, H2.out]; simp), HB2.out⟩
end Go.Proofs.YtffibmlgdacafaaDoor.Um
