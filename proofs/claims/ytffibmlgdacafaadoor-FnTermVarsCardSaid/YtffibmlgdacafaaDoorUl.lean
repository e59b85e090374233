/- What memory tells: cellIn, memory of the program, memAt of the model. -/
import Derived.Test.YtffibmlgdacafaaDoorUj2
set_option linter.unusedSimpArgs false
set_option linter.unusedVariables false
namespace Go.Proofs.YtffibmlgdacafaaDoor.Um
open Go.RowKit Pl Ft Mm In C2 Im

def memVal (o : Option Int) : Value := .tuple #[.int .i64 (o.getD 0), .bool o.isSome]
theorem elem_int : Tryd.prog.underlying 43 = some (.slice (Tryd.prog.elem 43)) := by kernel_rfl
theorem size_elem (w : World) : (sizeOf (Tryd.prog.elem 43)).run Tryd.prog w = .ok 1 w := by kernel_rfl
theorem slice_at (g o n cap p L : Nat) (h : p < cap) (hl : p + L ≤ cap) (lo hi : Int) (hlo : lo = p) (hhi : hi = p + L) (w : World) :
    (Instr.sliceAt 43 (.slice (some ⟨g, o, none⟩) n cap) (some (.int .i64 lo)) (some (.int .i64 hi)) none).run Tryd.prog w = .ok (.slice (some ⟨g, o + p, none⟩) L (cap - p)) w := by
  subst hlo hhi
  rw [run_sliceAt_slice w _ _ _ _ _ elem_int, run_slice_lh w _ _ _ _ elem_int _ _ _ _ (by omega) (by omega) (by omega), size_elem]
  have e1 : ((p : Int) + L).toNat = p + L := by omega
  have e2 : (⟨g, o, none⟩ : Addr).add (p * 1) = ⟨g, o + p, none⟩ := by rw [Nat.mul_one]; unfold Addr.add; split <;> simp_all
  simp only [Result.andThen, sliced, Int.toNat_natCast, e1]
  rw [if_neg (by omega), Option.map_some, e2, Nat.add_sub_cancel_left]
theorem rd_part {w : World} {g o p L : Nat} {c : Nat} {xs : List Int} (hg : g < w.heap.size) (h : ∀ j, j < xs.length → w.cell? ⟨g, o + j, none⟩ = some (.int .i64 (xs.getD j 0))) (hl : p + L ≤ xs.length) : Rd w (.slice (some ⟨g, o + p, none⟩) L c) ((xs.drop p).take L) := by
  have e : ((xs.drop p).take L).length = L := by rw [List.length_take, List.length_drop]; omega
  refine ⟨some ⟨g, o + p, none⟩, c, by rw [e], .inr ⟨g, o + p, rfl, hg, fun j hj => ?_⟩⟩
  rw [e] at hj
  rw [Nat.add_assoc, h (p + j) (by omega)]
  congr 2
  rw [List.getD_eq_getElem?_getD, List.getD_eq_getElem?_getD, List.getElem?_take_of_lt hj, List.getElem?_drop]
theorem part_byte {xs : List Int} (p L : Nat) (h : xs.all isByte = true) : ((xs.drop p).take L).all isByte = true := by
  rw [List.all_eq_true] at h ⊢
  exact fun x hx => h x (List.mem_of_mem_drop (List.mem_of_mem_take hx))
theorem memIn_no {mem : List Int} {a : Int} {wide : Nat} (h : ¬ a + wide ≤ mem.length) : memIn mem a wide = none := by rw [memIn, if_neg h]
theorem memIn_yes {mem : List Int} {p wide : Nat} (h : p + wide ≤ mem.length) : memIn mem p wide = some (numIn ((mem.drop p).take wide)) := by
  rw [memIn, if_pos (by omega), Int.toNat_natCast]
theorem byte_at {mem : List Int} (h : mem.all isByte = true) {p : Nat} (hp : p < mem.length) : 0 ≤ mem.getD p 0 ∧ mem.getD p 0 ≤ 255 := by
  have : isByte (mem.getD p 0) = true := by
    rw [List.all_eq_true] at h
    exact h _ (by simp [hp])
  simpa [isByte, inR, lo, hi] using this
theorem part_one (mem : List Int) {p : Nat} (h : p + 1 ≤ mem.length) : (mem.drop p).take 1 = [mem.getD p 0] := by
  have e : mem.drop p = mem[p] :: mem.drop (p + 1) := List.drop_eq_getElem_cons (by omega)
  have e3 : mem.getD p 0 = mem[p] := by simp [show p < mem.length by omega]
  rw [e, e3]; rfl
theorem part_two (mem : List Int) {p : Nat} (h : p + 2 ≤ mem.length) : (mem.drop p).take 2 = [mem.getD p 0, mem.getD (p + 1) 0] := by
  have e : mem.drop p = mem[p] :: mem.drop (p + 1) := List.drop_eq_getElem_cons (by omega)
  have e2 : mem.drop (p + 1) = mem[p + 1] :: mem.drop (p + 1 + 1) := List.drop_eq_getElem_cons (by omega)
  have e3 : mem.getD p 0 = mem[p] := by simp [show p < mem.length by omega]
  have e4 : mem.getD (p + 1) 0 = mem[p + 1] := by simp [show p + 1 < mem.length by omega]
  rw [e, e2, e3, e4]; rfl
theorem memIn_word {mem : List Int} (h : mem.all isByte = true) {a : Int} {wide : Nat} (hw : wide = 1 ∨ wide = 2) (h0 : 0 ≤ a) {x : Int} (hx : memIn mem a wide = some x) : 0 ≤ x ∧ x ≤ 65535 := by
  obtain ⟨p, rfl⟩ := Int.eq_ofNat_of_zero_le h0
  by_cases hp : p + wide ≤ mem.length
  · rw [memIn_yes hp] at hx
    cases hx
    have b0 := byte_at h (p := p) (by omega)
    rcases hw with rfl | rfl
    · rw [part_one mem hp]
      simp only [numIn]; omega
    · rw [part_two mem hp]
      have b1 := byte_at h (p := p + 1) (by omega)
      simp only [numIn]; omega
  · rw [memIn_no (by omega)] at hx; cases hx
def CellPost (mem : List Int) (p wide : Nat) (w : World) (e : Ending) (w' : World) : Prop :=
  (p + wide ≤ mem.length ∧ (∃ a c, e = .returned (.tuple #[.slice a wide c, .bool true]) ∧ Rd w (.slice a wide c) ((mem.drop p).take wide)) ∨ ¬ p + wide ≤ mem.length ∧ e = .returned (.tuple #[.slice none 0 0, .bool false])) ∧ w' = w
set_option maxHeartbeats 1000000 in
theorem cellIn_c (mem : List Int) (v : Value) (p : Nat) (wide : Nat) (w : World) (hr : Rd w v mem) (hcap : CapOk v) (hw : wide = 1 ∨ wide = 2) (h1 : p ≤ 65535) (hl : mem.length ≤ 64) :
    Calls Tryd.prog 139 #[v, .int .i64 p, .int .i64 wide] w (CellPost mem p wide w) := by
  obtain ⟨s, cap, rfl, ha⟩ := hr
  have hc := hcap.of
  have HA := hid ha
  clear ha hcap
  by_cases hp : p + wide ≤ mem.length
  · rcases HA.out with h | ⟨g, o, rfl, hg, hcs⟩
    · subst h; simp at hp; omega
    have hs := slice_at g o mem.length cap p wide (by omega) (by omega) (p : Int) ((p : Int) + wide) rfl rfl
    have HRd := hid (rd_part (c := cap - p) hg hcs hp)
    clear hcs
    go_enter Tryd.func139, Tryd.ntmps139
    go_wp2_with fail
    go_ret2
    exact ⟨.inl ⟨hp, _, _, rfl, HRd.out⟩, rfl⟩
  · go_enter Tryd.func139, Tryd.ntmps139
    go_wp2_with fail
    go_ret2
    exact ⟨.inr ⟨hp, rfl⟩, rfl⟩
set_option maxHeartbeats 1000000 in
theorem memory_c (m0 : Nat) (mem : List Int) (v : Value) (p : Nat) (wide : Nat) (w : World) (hr : Rd w v mem) (hcap : CapOk v) (hw : wide = 1 ∨ wide = 2) (h1 : p ≤ 65535) (hl : mem.length ≤ 64) (hb : mem.all isByte = true) :
    Calls Tryd.prog 108 #[.agg #[.map (some m0), v], .int .i64 p, .int .i64 wide] w fun e w' => e = .returned (memVal (memIn mem p wide)) ∧ Below w.heap.size w w' := by
  have HRd := hid hr
  have HCap := hid hcap
  obtain ⟨s, cap, rfl, _⟩ := hr
  have HBy := hid hb
  clear hcap hb
  have HB0 := hid ((Below.refl w.heap.size w).alloc (Nat.le_refl _) (.cells #[.map (some m0), .slice s mem.length cap] 89))
  go_enter Tryd.func108, Tryd.ntmps108
  go_wp2_with fail
  refine (cellIn_c mem _ p wide _ (HRd.out.on HB0.out) HCap.out hw h1 hl).mono ?_
  rintro e w1 ⟨h, rfl⟩
  rcases h with ⟨hp, a, c, rfl, hu⟩ | ⟨hp, rfl⟩
  · have HU := hid hu
    have HYes := hid (memIn_yes hp)
    clear hu
    have hx2 : ((mem.drop p).take wide).length ≤ 2 := by rw [List.length_take]; omega
    have HXb := hid (part_byte p wide HBy.out)
    obtain ⟨xs, hxs⟩ : ∃ xs, (mem.drop p).take wide = xs := ⟨_, rfl⟩
    rw [hxs] at HU hx2 HXb HYes
    have HX2 := hid hx2
    clear hxs hx2
    go_wp2_with fail
    refine (numberIn_c xs _ _ HU.out HX2.out HXb.out).mono ?_
    rintro e w2 ⟨rfl, rfl⟩
    obtain ⟨z, hz⟩ : ∃ z, numIn xs = z := ⟨_, rfl⟩
    rw [hz] at HYes ⊢
    clear hz
    go_wp2_with fail
    go_ret2
    exact ⟨by rw [HYes.out]; rfl, HB0.out⟩
  · have HNo := hid (memIn_no (mem := mem) (a := (p : Int)) (wide := wide) (by omega))
    go_wp2_with fail
    refine (numberIn_c [] _ _ (Rd.nil _ _) (by simp) rfl).mono ?_
    rintro e w2 ⟨rfl, rfl⟩
    go_wp2_with fail
    go_ret2
    exact ⟨by rw [HNo.out]; rfl, HB0.out⟩
end Go.Proofs.YtffibmlgdacafaaDoor.Um
