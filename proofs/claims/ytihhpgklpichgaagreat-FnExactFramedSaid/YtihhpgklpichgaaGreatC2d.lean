/- The letters of what follows a first byte: the program's map of them, and its tails. -/
import Derived.Test.YtihhpgklpichgaaGreatC2b
import Derived.Test.YtihhpgklpichgaaGreatRun
import Derived.Carry
set_option linter.unusedSimpArgs false
set_option linter.unusedVariables false
namespace Go.Proofs.YtihhpgklpichgaaGreat.C2
open Go.RowKit Pl Ft Mm

def rTail : Value := .iface 224 (.agg #[])
def nTail (bytes : Int) (signed : Bool) : Value := .iface 226 (.agg #[.int .i64 bytes, .bool signed])
def cTail : Value := .iface 227 (.agg #[])
def jTail : Value := .iface 228 (.agg #[])
def tailEnts : Array MapEntry := #[⟨.int .u8 114, rTail, 0⟩, ⟨.int .u8 98, nTail 1 false, 1⟩, ⟨.int .u8 115, nTail 1 true, 2⟩, ⟨.int .u8 119, nTail 2 false, 3⟩, ⟨.int .u8 116, cTail, 4⟩, ⟨.int .u8 110, jTail, 5⟩]
theorem check_u8 (n : Int) (hw : (Lit.int .u8 n).wf = true) (w : World) (em : Bool) : (Instr.checkKey em 10000 5 (.int .u8 n)).run Tryz.prog w = .ok () w := by
  exact (Go.Maps.int_keyed Tryz.underlying5).check w em (Go.Maps.keyOf_int_mk Tryz.underlying5 hw)
theorem tailsMap_c (w : World) : Calls Tryz.prog 190 #[] w fun e w' => e = .returned (.map (some w.heap.size)) ∧ w' = w.alloc (.map tailEnts 6) := by
  have hmm := @run_makeMap Tryz.prog
  have h0 : (Instr.mapUpdate 220 (.map (some w.heap.size)) (.int .u8 114) (.iface 224 (.agg #[]))).run Tryz.prog (w.alloc (.map #[] 0)) = .ok () (w.alloc (.map #[⟨.int .u8 114, (.iface 224 (.agg #[])), 0⟩] 1)) := Rn.run_insert_new w #[] 0 Tryz.underlying220 Tryz.underlying5 _ _ (fun w em => check_u8 _ rfl w em) rfl
  have h1 : (Instr.mapUpdate 220 (.map (some w.heap.size)) (.int .u8 98) (.iface 226 (.agg #[.int .i64 1, .bool false]))).run Tryz.prog (w.alloc (.map #[⟨.int .u8 114, (.iface 224 (.agg #[])), 0⟩] 1)) = .ok () (w.alloc (.map #[⟨.int .u8 114, (.iface 224 (.agg #[])), 0⟩, ⟨.int .u8 98, (.iface 226 (.agg #[.int .i64 1, .bool false])), 1⟩] 2)) := Rn.run_insert_new w #[⟨.int .u8 114, (.iface 224 (.agg #[])), 0⟩] 1 Tryz.underlying220 Tryz.underlying5 _ _ (fun w em => check_u8 _ rfl w em) rfl
  have h2 : (Instr.mapUpdate 220 (.map (some w.heap.size)) (.int .u8 115) (.iface 226 (.agg #[.int .i64 1, .bool true]))).run Tryz.prog (w.alloc (.map #[⟨.int .u8 114, (.iface 224 (.agg #[])), 0⟩, ⟨.int .u8 98, (.iface 226 (.agg #[.int .i64 1, .bool false])), 1⟩] 2)) = .ok () (w.alloc (.map #[⟨.int .u8 114, (.iface 224 (.agg #[])), 0⟩, ⟨.int .u8 98, (.iface 226 (.agg #[.int .i64 1, .bool false])), 1⟩, ⟨.int .u8 115, (.iface 226 (.agg #[.int .i64 1, .bool true])), 2⟩] 3)) := Rn.run_insert_new w #[⟨.int .u8 114, (.iface 224 (.agg #[])), 0⟩, ⟨.int .u8 98, (.iface 226 (.agg #[.int .i64 1, .bool false])), 1⟩] 2 Tryz.underlying220 Tryz.underlying5 _ _ (fun w em => check_u8 _ rfl w em) rfl
  have h3 : (Instr.mapUpdate 220 (.map (some w.heap.size)) (.int .u8 119) (.iface 226 (.agg #[.int .i64 2, .bool false]))).run Tryz.prog (w.alloc (.map #[⟨.int .u8 114, (.iface 224 (.agg #[])), 0⟩, ⟨.int .u8 98, (.iface 226 (.agg #[.int .i64 1, .bool false])), 1⟩, ⟨.int .u8 115, (.iface 226 (.agg #[.int .i64 1, .bool true])), 2⟩] 3)) = .ok () (w.alloc (.map #[⟨.int .u8 114, (.iface 224 (.agg #[])), 0⟩, ⟨.int .u8 98, (.iface 226 (.agg #[.int .i64 1, .bool false])), 1⟩, ⟨.int .u8 115, (.iface 226 (.agg #[.int .i64 1, .bool true])), 2⟩, ⟨.int .u8 119, (.iface 226 (.agg #[.int .i64 2, .bool false])), 3⟩] 4)) := Rn.run_insert_new w #[⟨.int .u8 114, (.iface 224 (.agg #[])), 0⟩, ⟨.int .u8 98, (.iface 226 (.agg #[.int .i64 1, .bool false])), 1⟩, ⟨.int .u8 115, (.iface 226 (.agg #[.int .i64 1, .bool true])), 2⟩] 3 Tryz.underlying220 Tryz.underlying5 _ _ (fun w em => check_u8 _ rfl w em) rfl
  have h4 : (Instr.mapUpdate 220 (.map (some w.heap.size)) (.int .u8 116) (.iface 227 (.agg #[]))).run Tryz.prog (w.alloc (.map #[⟨.int .u8 114, (.iface 224 (.agg #[])), 0⟩, ⟨.int .u8 98, (.iface 226 (.agg #[.int .i64 1, .bool false])), 1⟩, ⟨.int .u8 115, (.iface 226 (.agg #[.int .i64 1, .bool true])), 2⟩, ⟨.int .u8 119, (.iface 226 (.agg #[.int .i64 2, .bool false])), 3⟩] 4)) = .ok () (w.alloc (.map #[⟨.int .u8 114, (.iface 224 (.agg #[])), 0⟩, ⟨.int .u8 98, (.iface 226 (.agg #[.int .i64 1, .bool false])), 1⟩, ⟨.int .u8 115, (.iface 226 (.agg #[.int .i64 1, .bool true])), 2⟩, ⟨.int .u8 119, (.iface 226 (.agg #[.int .i64 2, .bool false])), 3⟩, ⟨.int .u8 116, (.iface 227 (.agg #[])), 4⟩] 5)) := Rn.run_insert_new w #[⟨.int .u8 114, (.iface 224 (.agg #[])), 0⟩, ⟨.int .u8 98, (.iface 226 (.agg #[.int .i64 1, .bool false])), 1⟩, ⟨.int .u8 115, (.iface 226 (.agg #[.int .i64 1, .bool true])), 2⟩, ⟨.int .u8 119, (.iface 226 (.agg #[.int .i64 2, .bool false])), 3⟩] 4 Tryz.underlying220 Tryz.underlying5 _ _ (fun w em => check_u8 _ rfl w em) rfl
  have h5 : (Instr.mapUpdate 220 (.map (some w.heap.size)) (.int .u8 110) (.iface 228 (.agg #[]))).run Tryz.prog (w.alloc (.map #[⟨.int .u8 114, (.iface 224 (.agg #[])), 0⟩, ⟨.int .u8 98, (.iface 226 (.agg #[.int .i64 1, .bool false])), 1⟩, ⟨.int .u8 115, (.iface 226 (.agg #[.int .i64 1, .bool true])), 2⟩, ⟨.int .u8 119, (.iface 226 (.agg #[.int .i64 2, .bool false])), 3⟩, ⟨.int .u8 116, (.iface 227 (.agg #[])), 4⟩] 5)) = .ok () (w.alloc (.map #[⟨.int .u8 114, (.iface 224 (.agg #[])), 0⟩, ⟨.int .u8 98, (.iface 226 (.agg #[.int .i64 1, .bool false])), 1⟩, ⟨.int .u8 115, (.iface 226 (.agg #[.int .i64 1, .bool true])), 2⟩, ⟨.int .u8 119, (.iface 226 (.agg #[.int .i64 2, .bool false])), 3⟩, ⟨.int .u8 116, (.iface 227 (.agg #[])), 4⟩, ⟨.int .u8 110, (.iface 228 (.agg #[])), 5⟩] 6)) := Rn.run_insert_new w #[⟨.int .u8 114, (.iface 224 (.agg #[])), 0⟩, ⟨.int .u8 98, (.iface 226 (.agg #[.int .i64 1, .bool false])), 1⟩, ⟨.int .u8 115, (.iface 226 (.agg #[.int .i64 1, .bool true])), 2⟩, ⟨.int .u8 119, (.iface 226 (.agg #[.int .i64 2, .bool false])), 3⟩, ⟨.int .u8 116, (.iface 227 (.agg #[])), 4⟩] 5 Tryz.underlying220 Tryz.underlying5 _ _ (fun w em => check_u8 _ rfl w em) rfl
  go_enter Tryz.func190, Tryz.ntmps190
  go_wp2
  go_ret
  exact ⟨rfl, rfl⟩
/-- The tail of a letter. -/
def tailOf (c : Nat) : Value := if c = 114 then rTail else if c = 98 then nTail 1 false else if c = 115 then nTail 1 true else if c = 119 then nTail 2 false else if c = 116 then cTail else jTail
theorem letter_of {c : Nat} (h : isLetter c = true) : c = 114 ∨ c = 98 ∨ c = 115 ∨ c = 119 ∨ c = 116 ∨ c = 110 := by
  simpa [isLetter, or_assoc] using h
theorem tail_look {c : Nat} (h : isLetter c = true) (w : World) (m : Nat) (hm : w.heap[m]? = some (.map tailEnts 6)) :
    (Instr.lookup 220 (.map (some m)) (.int .u8 c) false).run Tryz.prog w = .ok (tailOf c) w := by
  rcases letter_of h with rfl | rfl | rfl | rfl | rfl | rfl
  · have hk := check_u8 114 rfl w false
    simp [Instr.lookup, run_underlying Tryz.underlying220, run_underlying Tryz.underlying5, Go.MapKept.run_getObj_map hm, hk, Instr.findKey, Result.andThen, tailEnts, Instr.findNow, Instr.sameNow, tailOf]
  · have hk := check_u8 98 rfl w false
    simp [Instr.lookup, run_underlying Tryz.underlying220, run_underlying Tryz.underlying5, Go.MapKept.run_getObj_map hm, hk, Instr.findKey, Result.andThen, tailEnts, Instr.findNow, Instr.sameNow, tailOf]
  · have hk := check_u8 115 rfl w false
    simp [Instr.lookup, run_underlying Tryz.underlying220, run_underlying Tryz.underlying5, Go.MapKept.run_getObj_map hm, hk, Instr.findKey, Result.andThen, tailEnts, Instr.findNow, Instr.sameNow, tailOf]
  · have hk := check_u8 119 rfl w false
    simp [Instr.lookup, run_underlying Tryz.underlying220, run_underlying Tryz.underlying5, Go.MapKept.run_getObj_map hm, hk, Instr.findKey, Result.andThen, tailEnts, Instr.findNow, Instr.sameNow, tailOf]
  · have hk := check_u8 116 rfl w false
    simp [Instr.lookup, run_underlying Tryz.underlying220, run_underlying Tryz.underlying5, Go.MapKept.run_getObj_map hm, hk, Instr.findKey, Result.andThen, tailEnts, Instr.findNow, Instr.sameNow, tailOf]
  · have hk := check_u8 110 rfl w false
    simp [Instr.lookup, run_underlying Tryz.underlying220, run_underlying Tryz.underlying5, Go.MapKept.run_getObj_map hm, hk, Instr.findKey, Result.andThen, tailEnts, Instr.findNow, Instr.sameNow, tailOf]
theorem info_tail : (Tryz.prog.info? 203).map (fun i => (i.zero, i.size, i.bytes)) = some (some .nilIface, 1, 16) := by kernel_rfl
theorem take_letters (s : ByteArray) (k : Nat) (h : k < s.size) : (letters s).take (k + 1) = (letters s).take k ++ [s[k].toNat] := by
  unfold letters
  rw [← List.map_take, ← List.map_take, List.take_succ_eq_append_getElem (by simpa using h), List.map_append]
  rfl
theorem tail_one (c : Nat) : (tailOf c).oneCell' = true := by
  unfold tailOf
  repeat' split
  all_goals rfl
theorem tail_form (c : Nat) : ∃ (t : TypeId) (v : Value), tailOf c = .iface t v := by
  unfold tailOf
  repeat' split
  all_goals exact ⟨_, _, rfl⟩
structure TailRel (fol : ByteArray) (w : World) (v : Value) (k : Nat) (wr : World) : Prop where
  le : k ≤ fol.size
  own : wr.ownsRow (w.heap.size + 2) 203 1 v k (((letters fol).take k).map tailOf)
  map : wr.heap[w.heap.size + 1]? = some (.map tailEnts 6)
  bel : Below w.heap.size w wr
set_option maxHeartbeats 1000000 in
theorem tails_c (f : IForm) (hl : ∀ c ∈ letters f.follows, isLetter c = true) (hs : f.follows.size ≤ 2) (w : World) :
    Calls Tryz.prog 175 #[f.val] w fun e w' => ∃ v, e = .returned v ∧ w'.ownsRow w.heap.size 203 1 v f.follows.size ((letters f.follows).map tailOf) ∧ Below w.heap.size w w' := by
  obtain ⟨op, first, added, fa, fb, fn, fol, txt⟩ := f
  unfold IForm.val
  simp only at hl hs ⊢
  have HL := hid hl
  clear hl
  obtain ⟨i0, hi, hz0, hz1, hz2⟩ := info_parts info_tail
  have H0 := hid hz0
  have H1 := hid hz1
  have H2 := hid hz2
  have HI := hid hi
  clear hz0 hz1 hz2 hi
  go_enter Tryz.func175, Tryz.ntmps175
  go_wp2_with (first | (go_at_call 190; refine (tailsMap_c _).mono ?_; rintro e w1 ⟨rfl, rfl⟩) | (at_make; refine wpList_make_own _ rfl _ _ 199 rfl (w.heap.size + 2) 203 i0 .nilIface 1 Tryz.underlying199 HI.out H0.out H1.out .i64 .i64 _ fol.size rfl rfl rfl ?m1 ?m2 ?m3 ?_))
  case m1 => rw [H2.out]; omega
  case m2 => unfold maxLen; omega
  case m3 => simp
  intro w0 hown0 hgrow0
  have HO := hid hown0
  have HB := hid ((((Below.refl _ _).alloc (Nat.le_refl _) _).alloc (by simp) _).grown hgrow0 (by simp; omega) (fun _ h => by cases h))
  have hmap : w0.heap[w.heap.size + 1]? = some (.map tailEnts 6) := by
    rw [hgrow0.block (w.heap.size + 1) (by simp) (by simp)]
    have := heap_alloc_last (w.alloc (.cells #[.int .i64 op, .int .i64 first, .int .i64 added, .int .i64 fa, .int .i64 fb, .int .i64 fn, .string fol, .string txt] 196)) (.map tailEnts 6)
    simpa using this
  have HM := hid hmap
  have hrow : Row w0 w.heap.size 196 #[.int .i64 op, .int .i64 first, .int .i64 added, .int .i64 fa, .int .i64 fb, .int .i64 fn, .string fol, .string txt] := by
    unfold Row
    rw [hgrow0.block w.heap.size (by simp; omega) (by simp)]
    exact ((Row.new w _ _).alloc _)
  have HR := hid hrow
  have hf6 := hrow.cell 6
  simp at hf6
  clear hown0 hgrow0 hmap hrow
  go_wp2
  go_loopw [4, 14] (fun v c wr => ∃ k : Nat, c = .int .i64 k ∧ TailRel fol w v k wr ∧ Row wr w.heap.size 196 #[.int .i64 op, .int .i64 first, .int .i64 added, .int .i64 fa, .int .i64 fb, .int .i64 fn, .string fol, .string txt]) (fun _ c _ => fol.size - (intOf c).toNat)
  case atStart => exact ⟨0, rfl, ⟨by omega, HO.out, HM.out, HB.out⟩, HR.out⟩
  case round =>
    obtain ⟨k, rfl, hrel, hrow⟩ := hrel
    have HRel := hid hrel
    have HRow := hid hrow
    have hf6 := hrow.cell 6
    have hk := hrel.le
    have hz := (Array.getElem?_eq_some_iff.1 hrel.map).1
    simp at hf6
    clear hrel hrow
    by_cases hlt : k < fol.size
    · have hc : isLetter fol[k].toNat = true := HL.out _ (by unfold letters; exact List.mem_map.2 ⟨fol[k], by simp [ByteArray.getElem_eq_getElem_data], rfl⟩)
      have hlook := tail_look hc wr (w.heap.size + 1) HRel.out.map
      obtain ⟨tt, tv, ht⟩ := tail_form fol[k].toNat
      rw [ht] at hlook
      have HT := hid ht
      clear ht hc
      go_wp2_with (at_builtin; refine wpList_append_own _ rfl _ _ 199 rfl (w.heap.size + 2) 203 i0 .nilIface 1 16 Tryz.underlying199 HI.out H0.out H1.out H2.out rfl (by decide) _ k _ rfl (HRel.out.own.alloc _) ⟨wr.heap.size, 0, none⟩ 1 1 [.iface tt tv] rfl rfl ?c1 ?c2 ?c3 ?c4 ?c5 ?_)
      case c1 => exact new_cells wr _ _ _ rfl
      case c2 => intro u hu; simp at hu; subst hu; rfl
      case c3 => simp only [maxLen]; omega
      case c4 => omega
      case c5 => simp; omega
      intro v' w1 hown' hgrow _
      have hne : ∀ {g : Nat}, g < w.heap.size + 2 → some g ≠ u4.ownBlock := fun hg => own_ne HRel.out.own hg
      have hfin : TailRel fol w v' (k + 1) w1 := by
        refine ⟨by omega, ?_, ?_, ?_⟩
        · rw [take_letters fol k hlt, List.map_append, List.map_singleton, HT.out, List.map_take]
          exact hown'
        · rw [hgrow.block (w.heap.size + 1) (by simp; omega) (hne (by omega)), Below.heap_alloc _ _ _ hz]
          exact HRel.out.map
        · exact (HRel.out.bel.alloc HRel.out.bel.size _).grown hgrow (by have := HRel.out.bel.size; simp; omega) (fun g hg => by have := (HRel.out.own.lt g hg).1; omega)
      have hrow' : Row w1 w.heap.size 196 #[.int .i64 op, .int .i64 first, .int .i64 added, .int .i64 fa, .int .i64 fb, .int .i64 fn, .string fol, .string txt] := by
        unfold Row
        rw [hgrow.block w.heap.size (by simp; omega) (hne (by omega)), Below.heap_alloc _ _ _ (by omega)]
        exact HRow.out
      have HF := hid hfin
      have HW := hid hrow'
      clear hown' hgrow hfin hrow' hne
      go_wp2
      go_roundw
      case rel => exact ⟨k + 1, by go_num, HF.out, HW.out⟩
      case measure => simp [intOf]; omega
    · obtain rfl : k = fol.size := by omega
      have he : (letters fol).take fol.size = letters fol := List.take_of_length_le (by rw [letters, List.length_map, Array.length_toList]; exact Nat.le_refl _)
      have HE := hid he
      clear he
      go_wp2
      go_ret
      refine ⟨_, rfl, ?_, HRel.out.bel⟩
      have := own_mono (base' := w.heap.size) HRel.out.own (by omega)
      rw [HE.out] at this
      exact this
end Go.Proofs.YtihhpgklpichgaaGreat.C2
