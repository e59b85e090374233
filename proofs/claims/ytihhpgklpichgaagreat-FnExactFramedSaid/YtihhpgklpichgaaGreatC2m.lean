/- insIn of the program: reading an instruction. -/
import Derived.Test.YtihhpgklpichgaaGreatRead
import Derived.Deep.RegionWith
import Derived.Deep.DeepCutAuto
import Derived.RegionTactic
import Derived.BigRegion
import Derived.StillTailTactics
set_option linter.unusedSimpArgs false
set_option linter.unusedVariables false
namespace Go.Proofs.YtihhpgklpichgaaGreat.C2
open Go.RowKit Pl Ft Mm In

theorem results_cell_tmp {fn : Func} {p r : Tmp} {t : TypeId} (h : fn.results = #[.cell p t, .tmp r]) (tmps : Array Value) (w : World) (g : Nat) (cs : Array Value) (fs : Array Field)
    (hp : tmps.getD p undef = .pointer (some ⟨g, 0, none⟩)) (h1 : Row w g t cs) (hu : Tryz.prog.underlying t = some (.struct fs)) (hi : (Tryz.prog.info? t).map (·.size) = some cs.size) :
    (results fn tmps).run Tryz.prog w = .ok (.tuple #[.agg cs, tmps.getD r undef]) w := by
  have hp' : tmps[p]?.getD undef = .pointer (some ⟨g, 0, none⟩) := by simpa using hp
  simp [results, h, hp', asAddr, run_loadVar_row w g t t cs (0, 0) _ h1 hu rfl hi]
theorem ahead_r (n : Nat) (w : World) : (nilAhead (n + 1) 224 (.agg #[]) "loop.example/liftedcode/impl.with").run Tryz.prog w = .ok (some false) w := by kernel_rfl
theorem ahead_n (n : Nat) (x : Int) (s : Bool) (w : World) : (nilAhead (n + 1) 226 (.agg #[.int .i64 x, .bool s]) "loop.example/liftedcode/impl.with").run Tryz.prog w = .ok (some false) w := by kernel_rfl
theorem ahead_t (n : Nat) (w : World) : (nilAhead (n + 1) 227 (.agg #[]) "loop.example/liftedcode/impl.with").run Tryz.prog w = .ok (some false) w := by kernel_rfl
theorem ahead_j (n : Nat) (w : World) : (nilAhead (n + 1) 228 (.agg #[]) "loop.example/liftedcode/impl.with").run Tryz.prog w = .ok (some false) w := by kernel_rfl
theorem fuel_eq : Tryz.prog.types.size + Made.depth = 342 := by kernel_rfl
def insVal (o : Option IIns) : Value := .tuple #[(o.getD insZero).val, .bool o.isSome]
def i4 (i : IIns) : Array Value := #[.int .i64 i.op, .int .i64 i.a, .int .i64 i.b, .int .i64 i.n]
def f8 (f : IForm) : Array Value := #[.int .i64 f.op, .int .i64 f.first, .int .i64 f.added, .int .i64 f.a, .int .i64 f.b, .int .i64 f.n, .string f.follows, .string f.text]
def z4 : Array Value := #[.int .i64 0, .int .i64 0, .int .i64 0, .int .i64 0]
theorem elem_int : Tryz.prog.underlying 22 = some (.slice (Tryz.prog.elem 22)) := by kernel_rfl
theorem size_elem (w : World) : (sizeOf (Tryz.prog.elem 22)).run Tryz.prog w = .ok 1 w := by kernel_rfl
theorem slice_at (g o n cap p L : Nat) (h : p < cap) (hl : p + L ≤ cap) (lo hi : Int) (hlo : lo = p) (hhi : hi = p + L) (w : World) :
    (Instr.sliceAt 22 (.slice (some ⟨g, o, none⟩) n cap) (some (.int .i64 lo)) (some (.int .i64 hi)) none).run Tryz.prog w = .ok (.slice (some ⟨g, o + p, none⟩) L (cap - p)) w := by
  subst hlo hhi
  rw [run_sliceAt_slice w _ _ _ _ _ elem_int, run_slice_lh w _ _ _ _ elem_int _ _ _ _ (by omega) (by omega) (by omega), size_elem]
  have e1 : ((p : Int) + L).toNat = p + L := by omega
  have e2 : (⟨g, o, none⟩ : Addr).add (p * 1) = ⟨g, o + p, none⟩ := by rw [Nat.mul_one]; unfold Addr.add; split <;> simp_all
  simp only [Result.andThen, sliced, Int.toNat_natCast, e1]
  rw [if_neg (by omega), Option.map_some, e2, Nat.add_sub_cancel_left]
theorem rd_part {w : World} {g o p L : Nat} {c : Nat} {xs : List Int} (hg : g < w.heap.size) (h : ∀ j, j < xs.length → w.cell? ⟨g, o + j, none⟩ = some (.int .i64 (xs.getD j 0))) (hl : p + L ≤ xs.length) : Rd w (.slice (some ⟨g, o + p, none⟩) L c) ((xs.drop p).take L) := by
  have e : ((xs.drop p).take L).length = L := by rw [List.length_take, List.length_drop]; omega
  refine ⟨some ⟨g, o + p, none⟩, c, by rw [e], .inr ⟨g, o + p, rfl, hg, fun j hj => ?_⟩⟩
  rw [e] at hj
  rw [Nat.add_assoc, h (p + j) (by omega)]
  congr 2
  rw [List.getD_eq_getElem?_getD, List.getD_eq_getElem?_getD, List.getElem?_take_of_lt hj, List.getElem?_drop]
theorem part_byte {xs : List Int} (p L : Nat) (h : xs.all isByte = true) : ((xs.drop p).take L).all isByte = true := by
  rw [List.all_eq_true] at h ⊢
  exact fun x hx => h x (List.mem_of_mem_drop (List.mem_of_mem_take hx))
theorem num1_bd {xs : List Int} (p : Nat) (h : xs.all isByte = true) : 0 ≤ numIn ((xs.drop p).take 1) ∧ numIn ((xs.drop p).take 1) ≤ 255 := by
  have hb := part_byte p 1 h
  match hx : (xs.drop p).take 1, hb with
  | [], _ => simp [numIn]
  | [x], hb =>
    have : 0 ≤ x ∧ x ≤ 255 := by simpa [isByte, inR, lo, hi] using hb
    simp [numIn]; omega
  | x :: y :: l, _ =>
    have := congrArg List.length hx
    rw [List.length_take] at this
    simp at this
    omega
theorem numberIn_s {xs : List Int} {v : Value} {w : World} {num : Int} (h : Rd w v xs) (hl : xs.length ≤ 2) (hx : xs.all isByte = true) (hn : numIn xs = num) : Calls Tryz.prog 153 #[v] w fun e w' => e = .returned (.int .i64 num) ∧ w' = w := by
  subst hn
  exact (numberIn_c xs v w h hl hx).mono fun e w' h => ⟨h.1, h.2.symm⟩
structure InRel (code : List Int) (next : Int) (i0 : IIns) (p0 : Nat) (f : IForm) (l : List Nat) (w : World) (gf gi : Nat) (vt v : Value) (k : Nat) (pos : Value) (wr : World) : Prop where
  le : k ≤ l.length
  pos : pos = .int .i64 ((rfold code next i0 p0 (l.take k)).2 : Nat)
  box : Row wr gi 70 (i4 (rfold code next i0 p0 (l.take k)).1)
  frm : Row wr gf 196 (f8 f)
  out : Row wr w.heap.size 70 z4
  tails : wr.ownsRow w.heap.size 203 1 vt l.length (l.map tailOf)
  rd : Rd wr v code
  bel : Below w.heap.size w wr
/-- What one part leaves: the box turned, all else as it was. -/
structure InMid (code : List Int) (next : Int) (i0 : IIns) (p0 : Nat) (f : IForm) (l : List Nat) (w : World) (gf gi : Nat) (vt v : Value) (k : Nat) (i' : IIns) (wx : World) : Prop where
  box : Row wx gi 70 (i4 i')
  frm : Row wx gf 196 (f8 f)
  out : Row wx w.heap.size 70 z4
  tails : wx.ownsRow w.heap.size 203 1 vt l.length (l.map tailOf)
  rd : Rd wx v code
  bel : Below w.heap.size w wx
theorem InRel.on {code : List Int} {next : Int} {i0 : IIns} {p0 : Nat} {f : IForm} {l : List Nat} {w : World} {gf gi : Nat} {vt v : Value} {k : Nat} {pos : Value} {wr w1 : World} (h : InRel code next i0 p0 f l w gf gi vt v k pos wr) (hb : Below wr.heap.size wr w1) : InRel code next i0 p0 f l w gf gi vt v k pos w1 :=
  ⟨h.le, h.pos, h.box.on hb, h.frm.on hb, h.out.on hb, own_on h.tails hb, h.rd.on hb, h.bel.trans (hb.mono h.bel.size)⟩
theorem rd_far {w : World} {v : Value} {xs : List Int} {g : Nat} (h : Rd w v xs) (hv : ∀ a n c, v = .slice (some a) n c → a.block ≠ g) (j : Nat) (u : Value) : Rd (w.setCell ⟨g, j, none⟩ u) v xs := by
  obtain ⟨a, cap, e, h⟩ := h
  refine ⟨a, cap, e, ?_⟩
  rcases h with h | ⟨g1, o, ea, hg, hc⟩
  · exact .inl h
  · refine .inr ⟨g1, o, ea, by simpa using hg, fun k hk => ?_⟩
    have hne : g1 ≠ g := by subst e ea; exact hv _ _ _ rfl
    rw [World.cell?_setCell_other w ⟨g, j, none⟩ ⟨g1, o + k, none⟩ u (fun e => hne (congrArg Addr.block e).symm)]
    exact hc k hk
theorem InRel.mid {code : List Int} {next : Int} {i0 : IIns} {p0 : Nat} {f : IForm} {l : List Nat} {w : World} {gf gi : Nat} {vt v : Value} {k : Nat} {pos : Value} {wr : World} (h : InRel code next i0 p0 f l w gf gi vt v k pos wr)
    (hgf : gf ≠ gi) (hg0 : w.heap.size ≠ gi) (hle : w.heap.size ≤ gi) (ht : ∀ g, vt.ownBlock = some g → g ≠ gi) (hv : ∀ a n c, v = .slice (some a) n c → a.block ≠ gi) (i' : IIns) :
    InMid code next i0 p0 f l w gf gi vt v k i' ((((wr.setCell ⟨gi, 0, none⟩ (.int .i64 i'.op)).setCell ⟨gi, 1, none⟩ (.int .i64 i'.a)).setCell ⟨gi, 2, none⟩ (.int .i64 i'.b)).setCell ⟨gi, 3, none⟩ (.int .i64 i'.n)) := by
  refine ⟨four_row h.box _ _ _ _, four_far h.frm hgf _ _ _ _, four_far h.out hg0 _ _ _ _, ?_, rd_far (rd_far (rd_far (rd_far h.rd hv _ _) hv _ _) hv _ _) hv _ _, four_bel h.bel hle _ _ _ _⟩
  have far : ∀ {w' : World} (p : Addr) (u : Value), p.block = gi → w'.ownsRow w.heap.size 203 1 vt l.length (l.map tailOf) → (w'.setCell p u).ownsRow w.heap.size 203 1 vt l.length (l.map tailOf) := by
    intro w' p u hp ho
    refine ⟨ho.1, ?_⟩
    rcases ho.2 with h0 | ⟨g, cap, cur, rfl, hg, hr, hrest⟩
    · exact .inl h0
    · exact .inr ⟨g, cap, cur, rfl, hg, (Below.heap_setCell w' p u g (by rw [hp]; exact ht g rfl)).trans hr, hrest⟩
  exact far _ _ rfl (far _ _ rfl (far _ _ rfl (far _ _ rfl h.tails)))
theorem longOf_take (l : List Nat) (k : Nat) (h : k < l.length) : longOf (l.take k) + letterLong l[k] ≤ longOf l := by
  rw [← longOf_succ l k h]
  have e : l = l.take (k + 1) ++ l.drop (k + 1) := (List.take_append_drop _ _).symm
  have h2 : longOf l = longOf (l.take (k + 1)) + (longOf (l.drop (k + 1)) - 1) := by
    conv => lhs; rw [e]
    simp only [longOf, List.map_append, List.sum_append]
    omega
  have := (longOf_bd (l.drop (k + 1))).1
  omega
theorem pos_bd (code : List Int) (next : Int) (i : IIns) (p : Nat) (l : List Nat) (k : Nat) (h : k < l.length) : ((rfold code next i p (l.take k)).2 : Int) + letterLong l[k] + 1 ≤ p + longOf l := by
  have h1 := rfold_pos code next (l.take k) i p
  have h2 := longOf_take l k h
  omega
theorem InMid.later {code : List Int} {next : Int} {i0 : IIns} {p0 : Nat} {f : IForm} {l : List Nat} {w : World} {gf gi : Nat} {vt v : Value} {k : Nat} {i' : IIns} {wx : World} (h : InMid code next i0 p0 f l w gf gi vt v k i' wx) (hk : k < l.length)
    (hi : i' = (rstep code next (rfold code next i0 p0 (l.take k)) l[k]).1) {pos : Value} (hp : pos = .int .i64 ((rstep code next (rfold code next i0 p0 (l.take k)) l[k]).2 : Nat)) : InRel code next i0 p0 f l w gf gi vt v (k + 1) pos wx := by
  subst hi hp
  exact ⟨by omega, by rw [rfold_succ _ _ _ _ _ _ hk], by rw [rfold_succ _ _ _ _ _ _ hk]; exact h.box, h.frm, h.out, h.tails, h.rd, h.bel⟩
theorem insIn_no {code : List Int} {at_ : Nat} (h : formAt (code.getD at_ 0) = none) : insIn code at_ = none := by unfold insIn; rw [h]
theorem insIn_out {code : List Int} {at_ : Nat} {f : IForm} (h : formAt (code.getD at_ 0) = some f) (hl : ¬ at_ + longOf (letters f.follows) ≤ code.length) : insIn code at_ = none := by
  unfold insIn
  rw [h]
  simp only
  rw [decide_eq_false hl]
  rfl
theorem insIn_in {code : List Int} {at_ : Nat} {f : IForm} (h : formAt (code.getD at_ 0) = some f) (hl : at_ + longOf (letters f.follows) ≤ code.length) : insIn code at_ = if takes f (insRd code at_ f) = true then some (insRd code at_ f) else none := by
  unfold insIn
  rw [h]
  simp only
  rw [decide_eq_true hl, Bool.true_and]
def InsPost (o : Option IIns) (w : World) (e : Ending) (w' : World) : Prop := e = .returned (insVal o) ∧ Below w.heap.size w w'
set_option maxRecDepth 100000 in
set_option maxHeartbeats 4000000 in
theorem insIn_c (code : List Int) (v : Value) (at_ : Nat) (w : World) (hr : Rd w v code) (hcap : ∀ a n c, v = .slice a n c → n ≤ c) (hb : code.all isByte = true) (hlen : code.length ≤ 2000) (hat : at_ < code.length) :
    Calls Tryz.prog 149 #[v, .int .i64 at_] w (InsPost (insIn code at_) w) := by
  have HRd := hid hr
  obtain ⟨a, cap, rfl, hrd⟩ := hr
  have hcp := hcap _ _ _ rfl
  rcases hrd with h | ⟨g, o, rfl, hg, hcs⟩
  · subst h; simp at hat
  have HCs := hid hcs
  have hbx := List.all_eq_true.1 hb (code.getD at_ 0) (by simp [hat])
  have HBy := hid hb
  have q1 := hcs at_ hat
  obtain ⟨x, hx⟩ : ∃ x, code.getD at_ 0 = x := ⟨_, rfl⟩
  rw [hx] at q1 hbx
  have HX := hid hx
  have hx01 : 0 ≤ x ∧ x ≤ 255 := by simpa [isByte, inR, lo, hi] using hbx
  obtain ⟨hx0, hx1⟩ := hx01
  clear hcap hcs hb hbx hx
  have at0 : 0 ≤ (at_ : Int) := by omega
  have at1 : (at_ : Int) < code.length := by omega
  have HB0 := hid ((Below.refl w.heap.size w).alloc (Nat.le_refl _) (.cells z4 70))
  have HO0 := hid (Row.new w 70 z4)
  go_enter Tryz.func149, Tryz.ntmps149
  go_wp2_with fail
  refine (formAt_c x (by omega) (by omega) _).mono ?_
  rintro e w1 ⟨rfl, hb1⟩
  have HB1 := hid (HB0.out.trans (hb1.mono (by simp [z4])))
  have HO1 := hid (HO0.out.on hb1)
  have HRd1 := hid (HRd.out.on HB1.out)
  have hz1 := hb1.size
  simp only [World.size_alloc] at hz1
  have hg1 : g < w1.heap.size := by omega
  have hw01 : w.heap.size < w1.heap.size := by omega
  clear hb1 q1
  unfold formAtVal
  cases hf : formAt x with
  | none =>
    have HNo := hid (insIn_no (code := code) (at_ := at_) (by rw [HX.out]; exact hf))
    clear hf
    simp only [Option.getD_none, Option.map_none, Option.isSome_none]
    unfold IForm.val IForm.none IIns.val insZero
    simp only
    have HO2 := hid ((HO1.out.alloc (.cells #[.int .i64 0, .int .i64 0, .int .i64 0, .int .i64 0, .int .i64 0, .int .i64 0, .string ⟨#[]⟩, .string ⟨#[]⟩] 196)).alloc (.cells z4 70))
    have hb2 := HB1.out.alloc HB1.out.size (.cells #[.int .i64 0, .int .i64 0, .int .i64 0, .int .i64 0, .int .i64 0, .int .i64 0, .string ⟨#[]⟩, .string ⟨#[]⟩] 196)
    have HB2 := hid (hb2.alloc hb2.size (.cells z4 70))
    clear hb2
    have o0 := HO1.out.cell 0
    have o1 := HO1.out.cell 1
    have o2 := HO1.out.cell 2
    have o3 := HO1.out.cell 3
    simp [z4] at o0 o1 o2 o3
    have hfo := HO1.out.free
    go_wp2_with fail
    clear o0 o1 o2 o3 hfo
    refine bodyPost_ret (v := .tuple #[.agg z4, .bool false]) ?_ rfl ?_
    · exact results_cell_tmp Tryz.results149 _ _ w.heap.size z4 _ rfl (((four_row HO1.out 0 0 0 0).alloc _).alloc _) Tryz.underlying70 size_four
    have hb3 := four_bel HB1.out (Nat.le_refl _) (.int .i64 0) (.int .i64 0) (.int .i64 0) (.int .i64 0)
    have hb4 := hb3.alloc hb3.size (.cells #[.int .i64 0, .int .i64 0, .int .i64 0, .int .i64 0, .int .i64 0, .int .i64 0, .string ⟨#[]⟩, .string ⟨#[]⟩] 196)
    exact ⟨by rw [HNo.out]; rfl, hb4.alloc hb4.size _⟩
  | some f =>
    have HF := hid (show formAt (code.getD at_ 0) = some f by rw [HX.out]; exact hf)
    have hfm := formAt_mem hf
    obtain ⟨hlt0, hs2⟩ := tab_letters f hfm
    have HL := hid hlt0
    have hlb := longOf_bd (letters f.follows)
    rw [letters_len] at hlb
    clear hf hfm hlt0
    simp only [Option.getD_some, Option.map_some, Option.isSome_some]
    obtain ⟨i0, hi0⟩ : ∃ i, begunIns f x = i := ⟨_, rfl⟩
    rw [hi0]
    have HI0 := hid hi0
    clear hi0
    obtain ⟨fop, first, added, fa, fb, fn, fol, txt⟩ := f
    obtain ⟨iop, ia, ib, inn⟩ := i0
    simp only at hs2 hlb
    obtain ⟨lb0, lb1⟩ := hlb
    obtain ⟨next, hnext⟩ : ∃ next, (at_ : Int) + longOf (letters fol) = next := ⟨_, rfl⟩
    have nx0 : 0 ≤ next := by omega
    have nx1 : next ≤ 3000 := by omega
    have HN := hid hnext
    have hnl : next = (at_ : Int) + longOf (letters fol) := hnext.symm
    have HNl := hid hnl
    clear hnext hnl
    unfold IForm.val IIns.val
    simp only
    have HFr0 := hid ((Row.new w1 196 (f8 ⟨fop, first, added, fa, fb, fn, fol, txt⟩)).alloc (.cells (i4 ⟨iop, ia, ib, inn⟩) 70))
    have HBx0 := hid (Row.new (w1.alloc (.cells (f8 ⟨fop, first, added, fa, fb, fn, fol, txt⟩) 196)) 70 (i4 ⟨iop, ia, ib, inn⟩))
    simp only [World.size_alloc] at HBx0
    have HO2 := hid ((HO1.out.alloc (.cells (f8 ⟨fop, first, added, fa, fb, fn, fol, txt⟩) 196)).alloc (.cells (i4 ⟨iop, ia, ib, inn⟩) 70))
    have hb2 := HB1.out.alloc HB1.out.size (.cells (f8 ⟨fop, first, added, fa, fb, fn, fol, txt⟩) 196)
    have HB2 := hid (hb2.alloc hb2.size (.cells (i4 ⟨iop, ia, ib, inn⟩) 70))
    clear hb2
    go_wp2_with fail
    refine (tails_c ⟨fop, first, added, fa, fb, fn, fol, txt⟩ HL.out hs2 _).mono ?_
    rintro e w2 ⟨vt, rfl, hown, hb3⟩
    obtain ⟨va, vcap, rfl⟩ := own_slice hown
    simp only at hown
    have HTl := hid hown
    have HFr := hid (HFr0.out.on hb3)
    have HBx := hid (HBx0.out.on hb3)
    have HO3 := hid (HO2.out.on hb3)
    have HB3 := hid (HB2.out.trans (hb3.mono HB2.out.size))
    have hz3 := hb3.size
    simp only [World.size_alloc] at hz3
    clear hown hb3
    go_wp2_with fail
    refine (longWith_c (letters fol) HL.out (by rw [letters_len]; exact hs2) _ (.slice va fol.size vcap) _ (by rw [letters_len]; exact HTl.out)).mono ?_
    rintro e w3 ⟨rfl, hb4⟩
    have HTl4 := hid (own_on HTl.out hb4)
    have HTlt := hid HTl.out.lt
    have HFr4 := hid (HFr.out.on hb4)
    have HBx4 := hid (HBx.out.on hb4)
    have HO4 := hid (HO3.out.on hb4)
    have HB4 := hid (HB3.out.trans (hb4.mono HB3.out.size))
    have hz4 := hb4.size
    clear hb4
    by_cases hnx : next ≤ code.length
    case neg =>
      have HNo := hid (insIn_out (code := code) (at_ := at_) HF.out (by show ¬ (at_ : Int) + longOf (letters fol) ≤ _; rw [HN.out]; exact hnx))
      have o0 := HO4.out.cell 0
      have o1 := HO4.out.cell 1
      have o2 := HO4.out.cell 2
      have o3 := HO4.out.cell 3
      simp [z4] at o0 o1 o2 o3
      have hfo := HO4.out.free
      have hw03 : w.heap.size < w3.heap.size := by omega
      have hd : decide ((code.length : Int) < (at_ : Int) + longOf (letters fol)) = true := by have := HN.out; simp; omega
      go_wp2_with fail
      clear o0 o1 o2 o3 hfo
      refine bodyPost_ret (v := .tuple #[.agg z4, .bool false]) ?_ rfl ?_
      · exact results_cell_tmp Tryz.results149 _ _ w.heap.size z4 _ rfl (four_row HO4.out 0 0 0 0) Tryz.underlying70 size_four
      exact ⟨by rw [HNo.out]; rfl, four_bel HB4.out (Nat.le_refl _) _ _ _ _⟩
    have hd : decide ((code.length : Int) < (at_ : Int) + longOf (letters fol)) = false := by have := HN.out; simp; omega
    go_wp2_with fail
    rw [HN.out]
    clear hd
    have HTb := hid (show ∀ b, (Value.slice va fol.size vcap).ownBlock = some b → b ≠ w1.heap.size + 1 from fun b hb => by have := (HTlt.out b hb).1; simp only [World.size_alloc] at this; omega)
    have HVb := hid (show ∀ a n c, (Value.slice (some ⟨g, o, none⟩) code.length cap) = .slice (some a) n c → a.block ≠ w1.heap.size + 1 from fun a n c h => by simp only [Value.slice.injEq, Option.some.injEq] at h; rw [← h.1]; show g ≠ _; omega)
    go_loopw [11, 42] (fun pos c wr => ∃ k : Nat, c = .int .i64 k ∧ InRel code next ⟨iop, ia, ib, inn⟩ (at_ + 1) ⟨fop, first, added, fa, fb, fn, fol, txt⟩ (letters fol) w w1.heap.size (w1.heap.size + 1) (.slice va fol.size vcap) (.slice (some ⟨g, o, none⟩) code.length cap) k pos wr) (fun _ c _ => fol.size - (intOf c).toNat)
    case atStart =>
      refine ⟨0, rfl, by omega, ?_, HBx4.out, HFr4.out, HO4.out, ?_, HRd.out.on HB4.out, HB4.out⟩
      · show _ = Value.int .i64 ((at_ + 1 : Nat) : Int)
        go_num
      · have := own_mono (base' := w.heap.size) HTl4.out (by simp only [World.size_alloc]; omega)
        rw [letters_len]
        exact this
    case round =>
    obtain ⟨k, rfl, hrel⟩ := hrel
    have hle := hrel.le
    rw [letters_len] at hle
    have HR := hid hrel
    have hzr : w1.heap.size + 1 < wr.heap.size := hrel.box.lt
    obtain ⟨p, hpp⟩ : ∃ p, (rfold code next ⟨iop, ia, ib, inn⟩ (at_ + 1) ((letters fol).take k)).2 = p := ⟨_, rfl⟩
    obtain rfl := hrel.pos
    rw [hpp]
    have HPp := hid hpp
    obtain ⟨⟨jop, ja, jb, jn⟩, hj⟩ : ∃ i, (rfold code next ⟨iop, ia, ib, inn⟩ (at_ + 1) ((letters fol).take k)).1 = i := ⟨_, rfl⟩
    have HJ := hid hj
    clear hpp hj
    by_cases hlt : k < fol.size
    · have hlt' : k < (letters fol).length := by rw [letters_len]; exact hlt
      have hpb := pos_bd code next ⟨iop, ia, ib, inn⟩ (at_ + 1) (letters fol) k hlt'
      rw [HPp.out] at hpb
      obtain ⟨gt, cap', hv, hg1t, hg2t⟩ := own_addr hrel.tails (by omega)
      have hva : va = some ⟨gt, 0, none⟩ := by simp at hv; exact hv.1
      subst hva
      have htl := hrel.tails
      rw [letters_len] at htl
      have hck := htl.cellAt k (by omega)
      have hget : ((letters fol).map tailOf)[k]? = some (tailOf (letters fol)[k]) := by simp [hlt']
      rw [hget] at hck
      have hc := HL.out (letters fol)[k] (List.getElem_mem hlt')
      clear hrel htl hv hget
      rcases letter_of hc with h | h | h | h | h | h
      · rw [h] at hck hpb
        have HH := hid h
        clear h
        simp [tailOf, rTail, nTail, cTail, jTail] at hck
        have hpb2 : p + 1 ≤ code.length := by have e : letterLong 114 = 1 := rfl; rw [e] at hpb; have := HNl.out; omega
        have hsl := slice_at g o code.length cap p 1 (by omega) (by omega) (p : Int) ((p : Int) + 1) rfl rfl
        obtain ⟨num, hnum⟩ : ∃ x, numIn ((code.drop p).take 1) = x := ⟨_, rfl⟩
        have HNum := hid hnum
        clear hnum
        obtain ⟨hn0, hn1⟩ := num1_bd p HBy.out
        rw [HNum.out] at hn0 hn1
        obtain ⟨⟨kop, ka, kb, kn⟩, hk'⟩ : ∃ i, letterWith 114 ⟨jop, ja, jb, jn⟩ num next = i := ⟨_, rfl⟩
        have HK := hid hk'
        clear hk' hpb
        go_upto_region 13 with (go_at_call 213; refine (rLong_c _).mono ?_; rintro e w5 ⟨rfl, hb5⟩)
        have HR5 := hid (HR.out.on hb5)
        have HCw := hid (show ∀ j, j < code.length → w5.cell? ⟨g, o + j, none⟩ = some (.int .i64 (code.getD j 0)) from fun j hj => (HR5.out.bel.cell (p := ⟨g, o + j, none⟩) hg).trans (HCs.out j hj))
        have HRp := hid ((rd_part (by have := hb5.size; omega) HCw.out hpb2 (c := cap - p)).on (Below.refl _ _).drew)
        have hz5 := hb5.size
        have q0 := HR5.out.box.cell 0
        have q1 := HR5.out.box.cell 1
        have q2 := HR5.out.box.cell 2
        have q3 := HR5.out.box.cell 3
        rw [HJ.out] at q0 q1 q2 q3
        simp [i4] at q0 q1 q2 q3
        have hgw5 : g < w5.heap.size := by omega
        have hna := ahead_r 341
        clear hb5 hck
        go_cut [] (fun wx => InMid code next ⟨iop, ia, ib, inn⟩ (at_ + 1) ⟨fop, first, added, fa, fb, fn, fol, txt⟩ (letters fol) w w1.heap.size (w1.heap.size + 1) (.slice (some ⟨gt, 0, none⟩) fol.size vcap) (.slice (some ⟨g, o, none⟩) code.length cap) k ⟨kop, ka, kb, kn⟩ wx)
        case first =>
          go_still_tail 11, (by kernel_rfl)
          still_call (numberIn_s HRp.out (by rw [List.length_take]; omega) (part_byte _ _ HBy.out) HNum.out)
          repeat still_step
          refine wpStill_nil ?_
          change wpList _ _ _ _ _ w5.drew
          have HR6 := hid (HR5.out.on (Below.refl _ _).drew)
          have hz6 : w.heap.size < w5.drew.heap.size := HR6.out.out.lt
          clear HRp HCw HR5 hz5 q0 q1 q2 q3 hsl hna hgw5
          generalize w5.drew = w6 at HR6 hz6 ⊢
          go_wp2_with fail
          refine (rWith_c ⟨jop, ja, jb, jn⟩ num next hn0 hn1 _).mono ?_
          rw [HK.out]
          rintro e w7 ⟨rfl, hb7⟩
          have HR7 := hid (HR6.out.on hb7)
          have r0 := HR7.out.box.cell 0
          have r1 := HR7.out.box.cell 1
          have r2 := HR7.out.box.cell 2
          have r3 := HR7.out.box.cell 3
          rw [HJ.out] at r0 r1 r2 r3
          simp [i4] at r0 r1 r2 r3
          have rf := HR7.out.box.free
          clear hb7
          unfold IIns.val
          simp only
          go_wp2_with fail
          go_meet
          exact HR7.out.mid (by omega) (by omega) (by omega) HTb.out HVb.out ⟨kop, ka, kb, kn⟩
        case rest =>
          have HM := hid hcut
          have HI1 := hid (show (⟨kop, ka, kb, kn⟩ : IIns) = (rstep code next (rfold code next ⟨iop, ia, ib, inn⟩ (at_ + 1) ((letters fol).take k)) (letters fol)[k]).1 by
            rw [HH.out]
            show _ = letterWith 114 (rfold code next ⟨iop, ia, ib, inn⟩ (at_ + 1) ((letters fol).take k)).1 (numIn ((code.drop (rfold code next ⟨iop, ia, ib, inn⟩ (at_ + 1) ((letters fol).take k)).2).take 1)) next
            rw [HJ.out, HPp.out, HNum.out, HK.out])
          have HP1 := hid (show p + 1 = (rstep code next (rfold code next ⟨iop, ia, ib, inn⟩ (at_ + 1) ((letters fol).take k)) (letters fol)[k]).2 by
            rw [HH.out]
            show _ = (rfold code next ⟨iop, ia, ib, inn⟩ (at_ + 1) ((letters fol).take k)).2 + 1
            rw [HPp.out])
          clear hcut q0 q1 q2 q3 hsl hna
          go_wp2_with fail
          go_roundw
          case rel => exact ⟨k + 1, by go_num, HM.out.later hlt' HI1.out (by rw [← HP1.out]; go_num)⟩
          case measure => simp [intOf]; omega
      · rw [h] at hck hpb
        have HH := hid h
        clear h
        simp [tailOf, rTail, nTail, cTail, jTail] at hck
        have hpb2 : p + 1 ≤ code.length := by have e : letterLong 98 = 1 := rfl; rw [e] at hpb; have := HNl.out; omega
        have hsl := slice_at g o code.length cap p 1 (by omega) (by omega) (p : Int) ((p : Int) + 1) rfl rfl
        obtain ⟨num, hnum⟩ : ∃ x, numIn ((code.drop p).take 1) = x := ⟨_, rfl⟩
        have HNum := hid hnum
        clear hnum
        obtain ⟨hn0, hn1⟩ := num1_bd p HBy.out
        rw [HNum.out] at hn0 hn1
        obtain ⟨⟨kop, ka, kb, kn⟩, hk'⟩ : ∃ i, letterWith 98 ⟨jop, ja, jb, jn⟩ num next = i := ⟨_, rfl⟩
        have HK := hid hk'
        clear hk' hpb
        go_upto_region 13 with (go_at_call 216; refine (nLong_c _ _ _).mono ?_; rintro e w5 ⟨rfl, hb5⟩)
        have HR5 := hid (HR.out.on hb5)
        have HCw := hid (show ∀ j, j < code.length → w5.cell? ⟨g, o + j, none⟩ = some (.int .i64 (code.getD j 0)) from fun j hj => (HR5.out.bel.cell (p := ⟨g, o + j, none⟩) hg).trans (HCs.out j hj))
        have HRp := hid ((rd_part (by have := hb5.size; omega) HCw.out hpb2 (c := cap - p)).on (Below.refl _ _).drew)
        have hz5 := hb5.size
        have q0 := HR5.out.box.cell 0
        have q1 := HR5.out.box.cell 1
        have q2 := HR5.out.box.cell 2
        have q3 := HR5.out.box.cell 3
        rw [HJ.out] at q0 q1 q2 q3
        simp [i4] at q0 q1 q2 q3
        have hgw5 : g < w5.heap.size := by omega
        have hna := fun w => ahead_n 341 1 false w
        clear hb5 hck
        go_cut [] (fun wx => InMid code next ⟨iop, ia, ib, inn⟩ (at_ + 1) ⟨fop, first, added, fa, fb, fn, fol, txt⟩ (letters fol) w w1.heap.size (w1.heap.size + 1) (.slice (some ⟨gt, 0, none⟩) fol.size vcap) (.slice (some ⟨g, o, none⟩) code.length cap) k ⟨kop, ka, kb, kn⟩ wx)
        case first =>
          go_still_tail 11, (by kernel_rfl)
          still_call (numberIn_s HRp.out (by rw [List.length_take]; omega) (part_byte _ _ HBy.out) HNum.out)
          repeat still_step
          refine wpStill_nil ?_
          change wpList _ _ _ _ _ w5.drew
          have HR6 := hid (HR5.out.on (Below.refl _ _).drew)
          have hz6 : w.heap.size < w5.drew.heap.size := HR6.out.out.lt
          clear HRp HCw HR5 hz5 q0 q1 q2 q3 hsl hna hgw5
          generalize w5.drew = w6 at HR6 hz6 ⊢
          go_wp2_with fail
          refine (nWith_c 98 (by simp) 1 ⟨jop, ja, jb, jn⟩ num next _).mono ?_
          rw [HK.out]
          rintro e w7 ⟨rfl, hb7⟩
          have HR7 := hid (HR6.out.on hb7)
          have r0 := HR7.out.box.cell 0
          have r1 := HR7.out.box.cell 1
          have r2 := HR7.out.box.cell 2
          have r3 := HR7.out.box.cell 3
          rw [HJ.out] at r0 r1 r2 r3
          simp [i4] at r0 r1 r2 r3
          have rf := HR7.out.box.free
          clear hb7
          unfold IIns.val
          simp only
          go_wp2_with fail
          go_meet
          exact HR7.out.mid (by omega) (by omega) (by omega) HTb.out HVb.out ⟨kop, ka, kb, kn⟩
        case rest =>
          have HM := hid hcut
          have HI1 := hid (show (⟨kop, ka, kb, kn⟩ : IIns) = (rstep code next (rfold code next ⟨iop, ia, ib, inn⟩ (at_ + 1) ((letters fol).take k)) (letters fol)[k]).1 by
            rw [HH.out]
            show _ = letterWith 98 (rfold code next ⟨iop, ia, ib, inn⟩ (at_ + 1) ((letters fol).take k)).1 (numIn ((code.drop (rfold code next ⟨iop, ia, ib, inn⟩ (at_ + 1) ((letters fol).take k)).2).take 1)) next
            rw [HJ.out, HPp.out, HNum.out, HK.out])
          have HP1 := hid (show p + 1 = (rstep code next (rfold code next ⟨iop, ia, ib, inn⟩ (at_ + 1) ((letters fol).take k)) (letters fol)[k]).2 by
            rw [HH.out]
            show _ = (rfold code next ⟨iop, ia, ib, inn⟩ (at_ + 1) ((letters fol).take k)).2 + 1
            rw [HPp.out])
          clear hcut q0 q1 q2 q3 hsl hna
          go_wp2_with fail
          go_roundw
          case rel => exact ⟨k + 1, by go_num, HM.out.later hlt' HI1.out (by rw [← HP1.out]; go_num)⟩
          case measure => simp [intOf]; omega
      · rw [h] at hck hpb
        have HH := hid h
        clear h
        simp [tailOf, rTail, nTail, cTail, jTail] at hck
        have hpb2 : p + 1 ≤ code.length := by have e : letterLong 115 = 1 := rfl; rw [e] at hpb; have := HNl.out; omega
        have hsl := slice_at g o code.length cap p 1 (by omega) (by omega) (p : Int) ((p : Int) + 1) rfl rfl
        obtain ⟨num, hnum⟩ : ∃ x, numIn ((code.drop p).take 1) = x := ⟨_, rfl⟩
        have HNum := hid hnum
        clear hnum
        obtain ⟨hn0, hn1⟩ := num1_bd p HBy.out
        rw [HNum.out] at hn0 hn1
        obtain ⟨⟨kop, ka, kb, kn⟩, hk'⟩ : ∃ i, letterWith 115 ⟨jop, ja, jb, jn⟩ num next = i := ⟨_, rfl⟩
        have HK := hid hk'
        clear hk' hpb
        go_upto_region 13 with (go_at_call 216; refine (nLong_c _ _ _).mono ?_; rintro e w5 ⟨rfl, hb5⟩)
        have HR5 := hid (HR.out.on hb5)
        have HCw := hid (show ∀ j, j < code.length → w5.cell? ⟨g, o + j, none⟩ = some (.int .i64 (code.getD j 0)) from fun j hj => (HR5.out.bel.cell (p := ⟨g, o + j, none⟩) hg).trans (HCs.out j hj))
        have HRp := hid ((rd_part (by have := hb5.size; omega) HCw.out hpb2 (c := cap - p)).on (Below.refl _ _).drew)
        have hz5 := hb5.size
        have q0 := HR5.out.box.cell 0
        have q1 := HR5.out.box.cell 1
        have q2 := HR5.out.box.cell 2
        have q3 := HR5.out.box.cell 3
        rw [HJ.out] at q0 q1 q2 q3
        simp [i4] at q0 q1 q2 q3
        have hgw5 : g < w5.heap.size := by omega
        have hna := fun w => ahead_n 341 1 true w
        clear hb5 hck
        go_cut [] (fun wx => InMid code next ⟨iop, ia, ib, inn⟩ (at_ + 1) ⟨fop, first, added, fa, fb, fn, fol, txt⟩ (letters fol) w w1.heap.size (w1.heap.size + 1) (.slice (some ⟨gt, 0, none⟩) fol.size vcap) (.slice (some ⟨g, o, none⟩) code.length cap) k ⟨kop, ka, kb, kn⟩ wx)
        case first =>
          go_still_tail 11, (by kernel_rfl)
          still_call (numberIn_s HRp.out (by rw [List.length_take]; omega) (part_byte _ _ HBy.out) HNum.out)
          repeat still_step
          refine wpStill_nil ?_
          change wpList _ _ _ _ _ w5.drew
          have HR6 := hid (HR5.out.on (Below.refl _ _).drew)
          have hz6 : w.heap.size < w5.drew.heap.size := HR6.out.out.lt
          clear HRp HCw HR5 hz5 q0 q1 q2 q3 hsl hna hgw5
          generalize w5.drew = w6 at HR6 hz6 ⊢
          go_wp2_with fail
          refine (sWith_c 1 ⟨jop, ja, jb, jn⟩ num next hn0 hn1 _).mono ?_
          rw [HK.out]
          rintro e w7 ⟨rfl, hb7⟩
          have HR7 := hid (HR6.out.on hb7)
          have r0 := HR7.out.box.cell 0
          have r1 := HR7.out.box.cell 1
          have r2 := HR7.out.box.cell 2
          have r3 := HR7.out.box.cell 3
          rw [HJ.out] at r0 r1 r2 r3
          simp [i4] at r0 r1 r2 r3
          have rf := HR7.out.box.free
          clear hb7
          unfold IIns.val
          simp only
          go_wp2_with fail
          go_meet
          exact HR7.out.mid (by omega) (by omega) (by omega) HTb.out HVb.out ⟨kop, ka, kb, kn⟩
        case rest =>
          have HM := hid hcut
          have HI1 := hid (show (⟨kop, ka, kb, kn⟩ : IIns) = (rstep code next (rfold code next ⟨iop, ia, ib, inn⟩ (at_ + 1) ((letters fol).take k)) (letters fol)[k]).1 by
            rw [HH.out]
            show _ = letterWith 115 (rfold code next ⟨iop, ia, ib, inn⟩ (at_ + 1) ((letters fol).take k)).1 (numIn ((code.drop (rfold code next ⟨iop, ia, ib, inn⟩ (at_ + 1) ((letters fol).take k)).2).take 1)) next
            rw [HJ.out, HPp.out, HNum.out, HK.out])
          have HP1 := hid (show p + 1 = (rstep code next (rfold code next ⟨iop, ia, ib, inn⟩ (at_ + 1) ((letters fol).take k)) (letters fol)[k]).2 by
            rw [HH.out]
            show _ = (rfold code next ⟨iop, ia, ib, inn⟩ (at_ + 1) ((letters fol).take k)).2 + 1
            rw [HPp.out])
          clear hcut q0 q1 q2 q3 hsl hna
          go_wp2_with fail
          go_roundw
          case rel => exact ⟨k + 1, by go_num, HM.out.later hlt' HI1.out (by rw [← HP1.out]; go_num)⟩
          case measure => simp [intOf]; omega
      · rw [h] at hck hpb
        have HH := hid h
        clear h
        simp [tailOf, rTail, nTail, cTail, jTail] at hck
        have hpb2 : p + 2 ≤ code.length := by have e : letterLong 119 = 2 := rfl; rw [e] at hpb; have := HNl.out; omega
        have hsl := slice_at g o code.length cap p 2 (by omega) (by omega) (p : Int) ((p : Int) + 2) rfl rfl
        obtain ⟨num, hnum⟩ : ∃ x, numIn ((code.drop p).take 2) = x := ⟨_, rfl⟩
        have HNum := hid hnum
        clear hnum
        obtain ⟨⟨kop, ka, kb, kn⟩, hk'⟩ : ∃ i, letterWith 119 ⟨jop, ja, jb, jn⟩ num next = i := ⟨_, rfl⟩
        have HK := hid hk'
        clear hk' hpb
        go_upto_region 13 with (go_at_call 216; refine (nLong_c _ _ _).mono ?_; rintro e w5 ⟨rfl, hb5⟩)
        have HR5 := hid (HR.out.on hb5)
        have HCw := hid (show ∀ j, j < code.length → w5.cell? ⟨g, o + j, none⟩ = some (.int .i64 (code.getD j 0)) from fun j hj => (HR5.out.bel.cell (p := ⟨g, o + j, none⟩) hg).trans (HCs.out j hj))
        have HRp := hid ((rd_part (by have := hb5.size; omega) HCw.out hpb2 (c := cap - p)).on (Below.refl _ _).drew)
        have hz5 := hb5.size
        have q0 := HR5.out.box.cell 0
        have q1 := HR5.out.box.cell 1
        have q2 := HR5.out.box.cell 2
        have q3 := HR5.out.box.cell 3
        rw [HJ.out] at q0 q1 q2 q3
        simp [i4] at q0 q1 q2 q3
        have hgw5 : g < w5.heap.size := by omega
        have hna := fun w => ahead_n 341 2 false w
        clear hb5 hck
        go_cut [] (fun wx => InMid code next ⟨iop, ia, ib, inn⟩ (at_ + 1) ⟨fop, first, added, fa, fb, fn, fol, txt⟩ (letters fol) w w1.heap.size (w1.heap.size + 1) (.slice (some ⟨gt, 0, none⟩) fol.size vcap) (.slice (some ⟨g, o, none⟩) code.length cap) k ⟨kop, ka, kb, kn⟩ wx)
        case first =>
          go_still_tail 11, (by kernel_rfl)
          still_call (numberIn_s HRp.out (by rw [List.length_take]; omega) (part_byte _ _ HBy.out) HNum.out)
          repeat still_step
          refine wpStill_nil ?_
          change wpList _ _ _ _ _ w5.drew
          have HR6 := hid (HR5.out.on (Below.refl _ _).drew)
          have hz6 : w.heap.size < w5.drew.heap.size := HR6.out.out.lt
          clear HRp HCw HR5 hz5 q0 q1 q2 q3 hsl hna hgw5
          generalize w5.drew = w6 at HR6 hz6 ⊢
          go_wp2_with fail
          refine (nWith_c 119 (by simp) 2 ⟨jop, ja, jb, jn⟩ num next _).mono ?_
          rw [HK.out]
          rintro e w7 ⟨rfl, hb7⟩
          have HR7 := hid (HR6.out.on hb7)
          have r0 := HR7.out.box.cell 0
          have r1 := HR7.out.box.cell 1
          have r2 := HR7.out.box.cell 2
          have r3 := HR7.out.box.cell 3
          rw [HJ.out] at r0 r1 r2 r3
          simp [i4] at r0 r1 r2 r3
          have rf := HR7.out.box.free
          clear hb7
          unfold IIns.val
          simp only
          go_wp2_with fail
          go_meet
          exact HR7.out.mid (by omega) (by omega) (by omega) HTb.out HVb.out ⟨kop, ka, kb, kn⟩
        case rest =>
          have HM := hid hcut
          have HI1 := hid (show (⟨kop, ka, kb, kn⟩ : IIns) = (rstep code next (rfold code next ⟨iop, ia, ib, inn⟩ (at_ + 1) ((letters fol).take k)) (letters fol)[k]).1 by
            rw [HH.out]
            show _ = letterWith 119 (rfold code next ⟨iop, ia, ib, inn⟩ (at_ + 1) ((letters fol).take k)).1 (numIn ((code.drop (rfold code next ⟨iop, ia, ib, inn⟩ (at_ + 1) ((letters fol).take k)).2).take 2)) next
            rw [HJ.out, HPp.out, HNum.out, HK.out])
          have HP1 := hid (show p + 2 = (rstep code next (rfold code next ⟨iop, ia, ib, inn⟩ (at_ + 1) ((letters fol).take k)) (letters fol)[k]).2 by
            rw [HH.out]
            show _ = (rfold code next ⟨iop, ia, ib, inn⟩ (at_ + 1) ((letters fol).take k)).2 + 2
            rw [HPp.out])
          clear hcut q0 q1 q2 q3 hsl hna
          go_wp2_with fail
          go_roundw
          case rel => exact ⟨k + 1, by go_num, HM.out.later hlt' HI1.out (by rw [← HP1.out]; go_num)⟩
          case measure => simp [intOf]; omega
      · rw [h] at hck hpb
        have HH := hid h
        clear h
        simp [tailOf, rTail, nTail, cTail, jTail] at hck
        have hpb2 : p + 1 ≤ code.length := by have e : letterLong 116 = 1 := rfl; rw [e] at hpb; have := HNl.out; omega
        have hsl := slice_at g o code.length cap p 1 (by omega) (by omega) (p : Int) ((p : Int) + 1) rfl rfl
        obtain ⟨num, hnum⟩ : ∃ x, numIn ((code.drop p).take 1) = x := ⟨_, rfl⟩
        have HNum := hid hnum
        clear hnum
        obtain ⟨hn0, hn1⟩ := num1_bd p HBy.out
        rw [HNum.out] at hn0 hn1
        obtain ⟨⟨kop, ka, kb, kn⟩, hk'⟩ : ∃ i, letterWith 116 ⟨jop, ja, jb, jn⟩ num next = i := ⟨_, rfl⟩
        have HK := hid hk'
        clear hk' hpb
        go_upto_region 13 with (go_at_call 220; refine (cLong_c _).mono ?_; rintro e w5 ⟨rfl, hb5⟩)
        have HR5 := hid (HR.out.on hb5)
        have HCw := hid (show ∀ j, j < code.length → w5.cell? ⟨g, o + j, none⟩ = some (.int .i64 (code.getD j 0)) from fun j hj => (HR5.out.bel.cell (p := ⟨g, o + j, none⟩) hg).trans (HCs.out j hj))
        have HRp := hid ((rd_part (by have := hb5.size; omega) HCw.out hpb2 (c := cap - p)).on (Below.refl _ _).drew)
        have hz5 := hb5.size
        have q0 := HR5.out.box.cell 0
        have q1 := HR5.out.box.cell 1
        have q2 := HR5.out.box.cell 2
        have q3 := HR5.out.box.cell 3
        rw [HJ.out] at q0 q1 q2 q3
        simp [i4] at q0 q1 q2 q3
        have hgw5 : g < w5.heap.size := by omega
        have hna := ahead_t 341
        clear hb5 hck
        go_cut [] (fun wx => InMid code next ⟨iop, ia, ib, inn⟩ (at_ + 1) ⟨fop, first, added, fa, fb, fn, fol, txt⟩ (letters fol) w w1.heap.size (w1.heap.size + 1) (.slice (some ⟨gt, 0, none⟩) fol.size vcap) (.slice (some ⟨g, o, none⟩) code.length cap) k ⟨kop, ka, kb, kn⟩ wx)
        case first =>
          go_still_tail 11, (by kernel_rfl)
          still_call (numberIn_s HRp.out (by rw [List.length_take]; omega) (part_byte _ _ HBy.out) HNum.out)
          repeat still_step
          refine wpStill_nil ?_
          change wpList _ _ _ _ _ w5.drew
          have HR6 := hid (HR5.out.on (Below.refl _ _).drew)
          have hz6 : w.heap.size < w5.drew.heap.size := HR6.out.out.lt
          clear HRp HCw HR5 hz5 q0 q1 q2 q3 hsl hna hgw5
          generalize w5.drew = w6 at HR6 hz6 ⊢
          go_wp2_with fail
          refine (cWith_c ⟨jop, ja, jb, jn⟩ num next _).mono ?_
          rw [HK.out]
          rintro e w7 ⟨rfl, hb7⟩
          have HR7 := hid (HR6.out.on hb7)
          have r0 := HR7.out.box.cell 0
          have r1 := HR7.out.box.cell 1
          have r2 := HR7.out.box.cell 2
          have r3 := HR7.out.box.cell 3
          rw [HJ.out] at r0 r1 r2 r3
          simp [i4] at r0 r1 r2 r3
          have rf := HR7.out.box.free
          clear hb7
          unfold IIns.val
          simp only
          go_wp2_with fail
          go_meet
          exact HR7.out.mid (by omega) (by omega) (by omega) HTb.out HVb.out ⟨kop, ka, kb, kn⟩
        case rest =>
          have HM := hid hcut
          have HI1 := hid (show (⟨kop, ka, kb, kn⟩ : IIns) = (rstep code next (rfold code next ⟨iop, ia, ib, inn⟩ (at_ + 1) ((letters fol).take k)) (letters fol)[k]).1 by
            rw [HH.out]
            show _ = letterWith 116 (rfold code next ⟨iop, ia, ib, inn⟩ (at_ + 1) ((letters fol).take k)).1 (numIn ((code.drop (rfold code next ⟨iop, ia, ib, inn⟩ (at_ + 1) ((letters fol).take k)).2).take 1)) next
            rw [HJ.out, HPp.out, HNum.out, HK.out])
          have HP1 := hid (show p + 1 = (rstep code next (rfold code next ⟨iop, ia, ib, inn⟩ (at_ + 1) ((letters fol).take k)) (letters fol)[k]).2 by
            rw [HH.out]
            show _ = (rfold code next ⟨iop, ia, ib, inn⟩ (at_ + 1) ((letters fol).take k)).2 + 1
            rw [HPp.out])
          clear hcut q0 q1 q2 q3 hsl hna
          go_wp2_with fail
          go_roundw
          case rel => exact ⟨k + 1, by go_num, HM.out.later hlt' HI1.out (by rw [← HP1.out]; go_num)⟩
          case measure => simp [intOf]; omega
      · rw [h] at hck hpb
        have HH := hid h
        clear h
        simp [tailOf, rTail, nTail, cTail, jTail] at hck
        have hpb2 : p + 1 ≤ code.length := by have e : letterLong 110 = 1 := rfl; rw [e] at hpb; have := HNl.out; omega
        have hsl := slice_at g o code.length cap p 1 (by omega) (by omega) (p : Int) ((p : Int) + 1) rfl rfl
        obtain ⟨num, hnum⟩ : ∃ x, numIn ((code.drop p).take 1) = x := ⟨_, rfl⟩
        have HNum := hid hnum
        clear hnum
        obtain ⟨hn0, hn1⟩ := num1_bd p HBy.out
        rw [HNum.out] at hn0 hn1
        obtain ⟨⟨kop, ka, kb, kn⟩, hk'⟩ : ∃ i, letterWith 110 ⟨jop, ja, jb, jn⟩ num next = i := ⟨_, rfl⟩
        have HK := hid hk'
        clear hk' hpb
        go_upto_region 13 with (go_at_call 223; refine (jLong_c _).mono ?_; rintro e w5 ⟨rfl, hb5⟩)
        have HR5 := hid (HR.out.on hb5)
        have HCw := hid (show ∀ j, j < code.length → w5.cell? ⟨g, o + j, none⟩ = some (.int .i64 (code.getD j 0)) from fun j hj => (HR5.out.bel.cell (p := ⟨g, o + j, none⟩) hg).trans (HCs.out j hj))
        have HRp := hid ((rd_part (by have := hb5.size; omega) HCw.out hpb2 (c := cap - p)).on (Below.refl _ _).drew)
        have hz5 := hb5.size
        have q0 := HR5.out.box.cell 0
        have q1 := HR5.out.box.cell 1
        have q2 := HR5.out.box.cell 2
        have q3 := HR5.out.box.cell 3
        rw [HJ.out] at q0 q1 q2 q3
        simp [i4] at q0 q1 q2 q3
        have hgw5 : g < w5.heap.size := by omega
        have hna := ahead_j 341
        clear hb5 hck
        go_cut [] (fun wx => InMid code next ⟨iop, ia, ib, inn⟩ (at_ + 1) ⟨fop, first, added, fa, fb, fn, fol, txt⟩ (letters fol) w w1.heap.size (w1.heap.size + 1) (.slice (some ⟨gt, 0, none⟩) fol.size vcap) (.slice (some ⟨g, o, none⟩) code.length cap) k ⟨kop, ka, kb, kn⟩ wx)
        case first =>
          go_still_tail 11, (by kernel_rfl)
          still_call (numberIn_s HRp.out (by rw [List.length_take]; omega) (part_byte _ _ HBy.out) HNum.out)
          repeat still_step
          refine wpStill_nil ?_
          change wpList _ _ _ _ _ w5.drew
          have HR6 := hid (HR5.out.on (Below.refl _ _).drew)
          have hz6 : w.heap.size < w5.drew.heap.size := HR6.out.out.lt
          clear HRp HCw HR5 hz5 q0 q1 q2 q3 hsl hna hgw5
          generalize w5.drew = w6 at HR6 hz6 ⊢
          go_wp2_with fail
          refine (jWith_c ⟨jop, ja, jb, jn⟩ num next hn0 hn1 nx0 (by omega) _).mono ?_
          rw [HK.out]
          rintro e w7 ⟨rfl, hb7⟩
          have HR7 := hid (HR6.out.on hb7)
          have r0 := HR7.out.box.cell 0
          have r1 := HR7.out.box.cell 1
          have r2 := HR7.out.box.cell 2
          have r3 := HR7.out.box.cell 3
          rw [HJ.out] at r0 r1 r2 r3
          simp [i4] at r0 r1 r2 r3
          have rf := HR7.out.box.free
          clear hb7
          unfold IIns.val
          simp only
          go_wp2_with fail
          go_meet
          exact HR7.out.mid (by omega) (by omega) (by omega) HTb.out HVb.out ⟨kop, ka, kb, kn⟩
        case rest =>
          have HM := hid hcut
          have HI1 := hid (show (⟨kop, ka, kb, kn⟩ : IIns) = (rstep code next (rfold code next ⟨iop, ia, ib, inn⟩ (at_ + 1) ((letters fol).take k)) (letters fol)[k]).1 by
            rw [HH.out]
            show _ = letterWith 110 (rfold code next ⟨iop, ia, ib, inn⟩ (at_ + 1) ((letters fol).take k)).1 (numIn ((code.drop (rfold code next ⟨iop, ia, ib, inn⟩ (at_ + 1) ((letters fol).take k)).2).take 1)) next
            rw [HJ.out, HPp.out, HNum.out, HK.out])
          have HP1 := hid (show p + 1 = (rstep code next (rfold code next ⟨iop, ia, ib, inn⟩ (at_ + 1) ((letters fol).take k)) (letters fol)[k]).2 by
            rw [HH.out]
            show _ = (rfold code next ⟨iop, ia, ib, inn⟩ (at_ + 1) ((letters fol).take k)).2 + 1
            rw [HPp.out])
          clear hcut q0 q1 q2 q3 hsl hna
          go_wp2_with fail
          go_roundw
          case rel => exact ⟨k + 1, by go_num, HM.out.later hlt' HI1.out (by rw [← HP1.out]; go_num)⟩
          case measure => simp [intOf]; omega
    · obtain rfl : k = fol.size := by omega
      have he : (letters fol).take fol.size = letters fol := List.take_of_length_le (by rw [letters_len]; exact Nat.le_refl _)
      have HRd2 := hid (show insRd code at_ ⟨fop, first, added, fa, fb, fn, fol, txt⟩ = ⟨jop, ja, jb, jn⟩ by
        have := HJ.out
        rw [he] at this
        unfold insRd
        rw [HX.out, HI0.out]
        show (rfold code ((at_ : Int) + longOf (letters fol)) _ _ (letters fol)).1 = _
        rw [HN.out, this])
      clear hrel he
      have q0 := HR.out.box.cell 0
      have q1 := HR.out.box.cell 1
      have q2 := HR.out.box.cell 2
      have q3 := HR.out.box.cell 3
      rw [HJ.out] at q0 q1 q2 q3
      simp [i4] at q0 q1 q2 q3
      have p0 := HR.out.frm.cell 0
      have p1 := HR.out.frm.cell 1
      have p2 := HR.out.frm.cell 2
      have p3 := HR.out.frm.cell 3
      have p4 := HR.out.frm.cell 4
      have p5 := HR.out.frm.cell 5
      have p6 := HR.out.frm.cell 6
      have p7 := HR.out.frm.cell 7
      simp [f8] at p0 p1 p2 p3 p4 p5 p6 p7
      have HSo := hid (show insIn code at_ = if takes ⟨fop, first, added, fa, fb, fn, fol, txt⟩ ⟨jop, ja, jb, jn⟩ = true then some ⟨jop, ja, jb, jn⟩ else none by
        rw [insIn_in HF.out (by show (at_ : Int) + longOf (letters fol) ≤ _; rw [HN.out]; exact hnx), HRd2.out])
      go_wp2_with fail
      refine (takes_c ⟨fop, first, added, fa, fb, fn, fol, txt⟩ ⟨jop, ja, jb, jn⟩ _).mono ?_
      rintro e w8 ⟨rfl, hb8⟩
      have HR8 := hid (HR.out.on hb8)
      have hz8 := hb8.size
      have hw08 : w.heap.size < w8.heap.size := by omega
      clear hb8 q0 q1 q2 q3 p0 p1 p2 p3 p4 p5 p6 p7
      have o0 := HR8.out.out.cell 0
      have o1 := HR8.out.out.cell 1
      have o2 := HR8.out.out.cell 2
      have o3 := HR8.out.out.cell 3
      simp [z4] at o0 o1 o2 o3
      have hfo := HR8.out.out.free
      have q0 := HR8.out.box.cell 0
      have q1 := HR8.out.box.cell 1
      have q2 := HR8.out.box.cell 2
      have q3 := HR8.out.box.cell 3
      rw [HJ.out] at q0 q1 q2 q3
      simp [i4] at q0 q1 q2 q3
      cases ht : takes ⟨fop, first, added, fa, fb, fn, fol, txt⟩ ⟨jop, ja, jb, jn⟩
      · have hso := HSo.out
        rw [ht, if_neg (by simp)] at hso
        have HNo := hid hso
        clear hso
        go_wp2_with fail
        clear o0 o1 o2 o3 hfo q0 q1 q2 q3
        refine bodyPost_ret (v := .tuple #[.agg z4, .bool false]) ?_ rfl ?_
        · exact results_cell_tmp Tryz.results149 _ _ w.heap.size z4 _ rfl (four_row HR8.out.out 0 0 0 0) Tryz.underlying70 size_four
        exact ⟨by rw [HNo.out]; rfl, four_bel HR8.out.bel (Nat.le_refl _) _ _ _ _⟩
      · have hso := HSo.out
        rw [ht, if_pos rfl] at hso
        have HYes := hid hso
        clear hso
        go_wp2_with fail
        clear o0 o1 o2 o3 hfo q0 q1 q2 q3
        refine bodyPost_ret (v := .tuple #[.agg (i4 ⟨jop, ja, jb, jn⟩), .bool true]) ?_ rfl ?_
        · exact results_cell_tmp Tryz.results149 _ _ w.heap.size (i4 ⟨jop, ja, jb, jn⟩) _ rfl (four_row HR8.out.out jop ja jb jn) Tryz.underlying70 size_four
        exact ⟨by rw [HYes.out]; rfl, four_bel HR8.out.bel (Nat.le_refl _) _ _ _ _⟩
end Go.Proofs.YtihhpgklpichgaaGreat.C2
