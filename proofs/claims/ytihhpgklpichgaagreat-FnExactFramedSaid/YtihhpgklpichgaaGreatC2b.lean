/- formOf: which row of the table takes an instruction. -/
import Derived.Test.YtihhpgklpichgaaGreatC2a
import Derived.Test.YtihhpgklpichgaaGreatMem
import Derived.Test.YtihhpgklpichgaaGreatFormTab
set_option linter.unusedSimpArgs false
set_option linter.unusedVariables false
namespace Go.Proofs.YtihhpgklpichgaaGreat.C2
open Go.RowKit Pl Ft Mm

theorem find_no {α : Type} (p : α → Bool) (d : α) : ∀ (l : List α), (∀ j, j < l.length → p (l.getD j d) = false) → l.find? p = none
  | [], _ => rfl
  | x :: l, h => by
    have h0 : p x = false := by simpa using h 0 (by simp)
    rw [List.find?_cons, h0]
    exact find_no p d l fun j hj => by simpa using h (j + 1) (by simp; omega)
theorem find_at {α : Type} (p : α → Bool) (d : α) : ∀ (l : List α) (k : Nat), k < l.length → (∀ j, j < k → p (l.getD j d) = false) → p (l.getD k d) = true → l.find? p = some (l.getD k d)
  | [], k, hk, _, _ => by simp at hk
  | x :: l, 0, _, _, h => by
    have h0 : p x = true := by simpa using h
    rw [List.find?_cons, h0]
    rfl
  | x :: l, k + 1, hk, hn, h => by
    have h0 : p x = false := by simpa using hn 0 (by omega)
    rw [List.find?_cons, h0]
    have := find_at p d l k (by simp at hk; omega) (fun j hj => by simpa using hn (j + 1) (by omega)) (by simpa using h)
    simpa using this
/-- What formOf answers. -/
def formVal (i : IIns) : Value := .tuple #[((formOf i).getD .none).val, .bool (formOf i).isSome]
structure FormRel (i : IIns) (w : World) (k : Nat) (wr : World) : Prop where
  le : k ≤ 33
  no : ∀ j, j < k → takes (tab.getD j .none) i = false
  box : Row wr w.heap.size 70 #[.int .i64 i.op, .int .i64 i.a, .int .i64 i.b, .int .i64 i.n]
  out : Row wr (w.heap.size + 1) 196 #[.int .i64 0, .int .i64 0, .int .i64 0, .int .i64 0, .int .i64 0, .int .i64 0, .string ⟨#[]⟩, .string ⟨#[]⟩]
  bel : Below w.heap.size w wr
theorem FormRel.later {i : IIns} {w wr w1 : World} {k : Nat} {o : Obj} (hk : k < 33) (hno : ∀ j, j < k → takes (tab.getD j .none) i = false) (ht : takes (tab.getD k .none) i = false)
    (hbox : Row wr w.heap.size 70 #[.int .i64 i.op, .int .i64 i.a, .int .i64 i.b, .int .i64 i.n])
    (hout : Row wr (w.heap.size + 1) 196 #[.int .i64 0, .int .i64 0, .int .i64 0, .int .i64 0, .int .i64 0, .int .i64 0, .string ⟨#[]⟩, .string ⟨#[]⟩])
    (hbel : Below w.heap.size w wr) (hb : Below (wr.alloc o).heap.size (wr.alloc o) w1) : FormRel i w (k + 1) w1 := by
  refine ⟨by omega, fun j hj => ?_, (hbox.alloc o).on hb, (hout.alloc o).on hb, (hbel.alloc hbel.size o).trans (hb.mono (by have := hbel.size; simp; omega))⟩
  by_cases h : j < k
  · exact hno j h
  · obtain rfl : j = k := by omega
    exact ht
theorem tab_len : tab.length = 33 := by decide +kernel
set_option maxHeartbeats 1000000 in
theorem formOf_c (i : IIns) (w : World) :
    Calls Tryz.prog 178 #[i.val] w fun e w' => e = .returned (formVal i) ∧ Below w.heap.size w w' := by
  unfold IIns.val
  go_enter Tryz.func178, Tryz.ntmps178
  go_wp2_with (go_at_call 188; refine (forms_c _).mono ?_; rintro e w1 ⟨rfl, hb⟩; obtain ⟨hc, hf⟩ := bcell hb)
  go_loopw [7] (fun v wr => ∃ k : Nat, v = .int .i64 k ∧ FormRel i w k wr) (fun v _ => 33 - (intOf v).toNat)
  case atStart =>
    refine ⟨0, rfl, by omega, fun j hj => by omega, ?_, ?_, ?_⟩
    · exact (((Row.new w _ _).alloc _).on hb)
    · have := (Row.new (w.alloc (.cells #[.int .i64 i.op, .int .i64 i.a, .int .i64 i.b, .int .i64 i.n] 70)) 196 #[.int .i64 0, .int .i64 0, .int .i64 0, .int .i64 0, .int .i64 0, .int .i64 0, .string ⟨#[]⟩, .string ⟨#[]⟩])
      simp only [World.size_alloc] at this
      exact this.on hb
    · exact (((Below.refl _ _).alloc (Nat.le_refl _) _).alloc (by simp) _).trans (hb.mono (by simp; omega))
  case round =>
    obtain ⟨k, rfl, hk, hno, hbox, hout, hbel⟩ := hrel
    have hz := hout.lt
    have hz0 : w.heap.size < wr.heap.size := by omega
    have HBo := hid hbox
    have HOu := hid hout
    have HBe := hid hbel
    have HNo := hid hno
    clear hc hf hb hno hbel
    have b0 : wr.cell? ⟨w.heap.size, 0, none⟩ = some (.int .i64 i.op) := hbox.cell 0
    have b1 : wr.cell? ⟨w.heap.size, 1, none⟩ = some (.int .i64 i.a) := hbox.cell 1
    have b2 : wr.cell? ⟨w.heap.size, 2, none⟩ = some (.int .i64 i.b) := hbox.cell 2
    have b3 : wr.cell? ⟨w.heap.size, 3, none⟩ = some (.int .i64 i.n) := hbox.cell 3
    by_cases hlt : k < 33
    · clear hbox hout
      have hix := tab_index k hlt
      obtain ⟨f, hf⟩ : ∃ f, tab.getD k .none = f := ⟨_, rfl⟩
      rw [hf] at hix
      have HF := hid hf
      clear hf
      cases ht : takes f i
      · obtain ⟨op, first, added, fa, fb, fn, fol, txt⟩ := f
        have HT := hid ht
        clear ht
        unfold IForm.val at hix
        go_wp2_with fail
        refine (takes_c ⟨op, first, added, fa, fb, fn, fol, txt⟩ i _).mono ?_
        rw [HT.out]
        rintro e w1 ⟨rfl, hb⟩
        go_wp2_with fail
        go_roundw
        case rel => exact ⟨k + 1, by go_num, .later hlt HNo.out (by rw [HF.out]; exact HT.out) HBo.out HOu.out HBe.out hb⟩
        case measure => simp [intOf]; omega
      · obtain ⟨op, first, added, fa, fb, fn, fol, txt⟩ := f
        have HT := hid ht
        clear ht
        unfold IForm.val at hix
        have hfind : formOf i = some ⟨op, first, added, fa, fb, fn, fol, txt⟩ := by
          have := find_at (takes · i) .none tab k (by rw [tab_len]; exact hlt) HNo.out (by rw [HF.out]; exact HT.out)
          rw [HF.out] at this
          exact this
        have HFd := hid hfind
        clear hfind
        go_wp2_with fail
        refine (takes_c ⟨op, first, added, fa, fb, fn, fol, txt⟩ i _).mono ?_
        rw [HT.out]
        rintro e w1 ⟨rfl, hb⟩
        have ho := HOu.out
        obtain ⟨hc, hf⟩ := bcell hb
        have HB1 := hid ((HBe.out.alloc HBe.out.size _).trans (hb.mono (by have := HBe.out.size; simp; omega)))
        have hz1 : w.heap.size + 1 < w1.heap.size := ((HOu.out.alloc _).on hb).lt
        have hz2 := hb.size
        simp only [World.size_alloc] at hz2
        clear hb
        have fr := ho.free
        have o0 := ho.cell 0
        have o1 := ho.cell 1
        have o2 := ho.cell 2
        have o3 := ho.cell 3
        have o4 := ho.cell 4
        have o5 := ho.cell 5
        have o6 := ho.cell 6
        have o7 := ho.cell 7
        clear ho
        go_wp2_with fail
        refine bodyPost_ret (v := .tuple #[.agg #[.int .i64 op, .int .i64 first, .int .i64 added, .int .i64 fa, .int .i64 fb, .int .i64 fn, .string fol, .string txt], .bool true]) ?_ rfl ?_
        · simp [results, Tryz.results178, go_sem, o0, o1, o2, o3, o4, o5, o6, o7, hc, hz, hz0]
        · refine ⟨by unfold formVal; rw [HFd.out]; rfl, ?_⟩
          exact ((((((((HB1.out.setCell (by simp) _).setCell (by simp) _).setCell (by simp) _).setCell (by simp) _).setCell (by simp) _).setCell (by simp) _).setCell (by simp) _).setCell (by simp) _)
    · obtain rfl : k = 33 := by omega
      have hfind : formOf i = Option.none := find_no (takes · i) .none tab (fun j hj => HNo.out j (by rw [tab_len] at hj; exact hj))
      have HFd := hid hfind
      clear hfind
      have fr := hout.free
      have o0 := hout.cell 0
      have o1 := hout.cell 1
      have o2 := hout.cell 2
      have o3 := hout.cell 3
      have o4 := hout.cell 4
      have o5 := hout.cell 5
      have o6 := hout.cell 6
      have o7 := hout.cell 7
      clear hout hbox
      go_wp2_with fail
      refine bodyPost_ret (v := .tuple #[.agg #[.int .i64 0, .int .i64 0, .int .i64 0, .int .i64 0, .int .i64 0, .int .i64 0, .string ⟨#[]⟩, .string ⟨#[]⟩], .bool false]) ?_ rfl ?_
      · simp [results, Tryz.results178, go_sem, o0, o1, o2, o3, o4, o5, o6, o7]
      · refine ⟨by unfold formVal; rw [HFd.out]; rfl, ?_⟩
        exact ((((((((HBe.out.setCell (by simp) _).setCell (by simp) _).setCell (by simp) _).setCell (by simp) _).setCell (by simp) _).setCell (by simp) _).setCell (by simp) _).setCell (by simp) _)
end Go.Proofs.YtihhpgklpichgaaGreat.C2
