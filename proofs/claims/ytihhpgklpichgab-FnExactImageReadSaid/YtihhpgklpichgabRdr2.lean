/- The program's reader of bytes: number, text, name. -/
import Derived.Test.YtihhpgklpichgabRdr
import Derived.Lib.BufferRead
set_option linter.unusedSimpArgs false
set_option linter.unusedVariables false
namespace Go.Proofs.Ytihhpgklpichgab.Im
open Go.RowKit Pl Ft Mm In C2

theorem cut_byte {l : List Int} (p n : Nat) (h : l.all isByte = true) : (cut l p n).all isByte = true := by
  rw [List.all_eq_true] at h ⊢
  exact fun x hx => h x (List.mem_of_mem_drop (List.mem_of_mem_take hx))
theorem cut_short (l : List Int) (p n : Nat) : (cut l p n).length ≤ n := List.length_take_le _ _
def NumPost (rb : Nat) (v : Value) (l : List Int) (p n : Nat) (w : World) (e : Ending) (w' : World) : Prop :=
  e = .returned (.int .i64 (numAt l p n)) ∧ RS w' rb v l (aft l p n) ∧ Only (· = rb) w w'
theorem number_c (rb : Nat) (v : Value) (l : List Int) (p n : Nat) (w : World) (h : RS w rb v l p) (hn : n ≤ 2) (hb : l.all isByte = true) :
    Calls Try.prog 128 #[.pointer (some ⟨rb, 0, none⟩), .int .i64 n] w (NumPost rb v l p n w) := by
  have H := hid h
  have HB := hid hb
  clear h hb
  go_enter Try.func128, Try.ntmps128
  go_wp2_with fail
  refine (take_c rb v l p n _ H.out (by omega)).mono ?_
  rintro e w1 ⟨v', rfl, hown, hrs, ho⟩
  have HR := hid hrs
  have HO := hid ho
  have HX := hid hown
  clear hown hrs ho
  go_wp2_with fail
  refine (numberIn_c (cut l p n) v' _ (.of_own HX.out) (Nat.le_trans (cut_short l p n) hn) (cut_byte p n HB.out)).mono ?_
  rintro e w2 ⟨rfl, rfl⟩
  go_wp2_with fail
  go_ret
  exact ⟨rfl, HR.out, HO.out⟩
theorem info_u8 : (Try.prog.info? 5).map (fun i => (i.zero, i.size, i.bytes)) = some (some (.int .u8 0), 1, 1) := by kernel_rfl
def u8s (xs : List Int) : List Value := xs.map (Value.int .u8)
theorem u8s_len (xs : List Int) : (u8s xs).length = xs.length := by simp [u8s]
theorem u8s_one (l : List Int) : ∀ u ∈ u8s l, u.oneCell' = true := by
  intro u hu
  obtain ⟨n, _, rfl⟩ := List.mem_map.1 hu
  rfl
theorem app_u8 {ops : Array Oper} {rest : List Oper} {o : Oper} {a : Act} {Q : Exit → Act → World → Prop} (w : World) (hgd : o.guard = none) (s x : Operand)
    (ho : o.op = .call { callee := .builtin .append, args := #[s, x], argTypes := #[31, 31] })
    (B : Nat) (xs ys : List Int) (v : Value) (hs : a.eval s = v) (hown : w.ownsRow B 5 1 v xs.length (u8s xs))
    (A : Option Addr) (m c : Nat) (hx : a.eval x = .slice A m c) (hm : m = ys.length) (hsrc : SrcAt w A m 1 (u8s ys))
    (hl : xs.length + ys.length ≤ 1000000000) (hB : B ≤ w.heap.size)
    (h : ∀ v' w', w'.ownsRow B 5 1 v' (xs ++ ys).length (u8s (xs ++ ys)) → Below B w w' → Only (fun g => v.ownBlock = some g) w w' → (v'.ownBlock = v.ownBlock ∨ v'.ownBlock = some w.heap.size) → wpList Try.prog ops Q rest (a.put o.dst v') w') : wpList Try.prog ops Q (o :: rest) a w := by
  obtain ⟨i0, hi, hz0, hz1, hz2⟩ := info_parts info_u8
  subst hm
  refine wpList_app w hgd s x 31 ho B 5 i0 (.int .u8 0) 1 1 Try.underlying31 hi hz0 hz1 hz2 rfl (by decide) v xs.length (u8s xs) hs hown A ys.length c (u8s ys) hx hsrc (u8s_one ys) (by simp only [maxLen]; omega) (by omega) hB
    (fun v' w' h1 h2 h3 => h v' w' ?_ ((Below.refl B w).grown h2 hB (fun g hg => (hown.lt g hg).1)) ⟨h2.os, h2.tape, h2.output, h2.size, fun k hk hne => h2.block k hk (fun e => hne e.symm)⟩ h3)
  rw [List.length_append]
  have e : u8s (xs ++ ys) = u8s xs ++ u8s ys := by simp [u8s]
  rw [e]
  exact h1
theorem SrcAt.u8 (w : World) (x : Int) (H : Nat) (hH : w.heap.size = H) : SrcAt (w.alloc (.cells #[.int .u8 x] 5)) (some ⟨H, 0, none⟩) 1 1 (u8s [x]) := by
  subst hH
  exact ⟨rfl, .inr ⟨_, rfl, new_cells w #[.int .u8 x] _ _ rfl⟩⟩
/-- A row of bytes as a string. -/
theorem conv_own {w : World} {B : Nat} {v : Value} {xs : List Int} (h : w.ownsRow B 5 1 v xs.length (u8s xs)) (hb : xs.all isByte = true) :
    (convert 31 9 v).run Try.prog w = .ok (.string (textOf xs)) w := by
  by_cases h0 : xs = []
  · subst h0
    rcases h.2 with ⟨rfl, _⟩ | ⟨g, cap, cur, rfl, _⟩
    · exact Go.Lib.run_convert_nil_bytes w _ _ _ 0 Try.underlying31 Try.underlying5 Try.underlying9
    · exact run_convert_bytes_back w _ _ _ ⟨g, 0, none⟩ cap [] Try.underlying31 Try.underlying5 Try.underlying9 (fun j hj => by simp at hj)
  · obtain ⟨g, cap, rfl, _, _⟩ := own_addr h (List.length_pos_iff.2 h0)
    have hl : (xs.map byteOf).length = xs.length := List.length_map ..
    have := run_convert_bytes_back (P := Try.prog) w 31 9 5 ⟨g, 0, none⟩ cap (xs.map byteOf) Try.underlying31 Try.underlying5 Try.underlying9 (fun j hj => by
      have hj' : j < xs.length := by rw [hl] at hj; exact hj
      have hc := h.cells (g := g) rfl j (.int .u8 xs[j]) (by simp [u8s, hj'])
      rw [hc]
      have hx := isByte_iff.1 (List.all_eq_true.1 hb xs[j] (List.getElem_mem _))
      simp only [List.getElem_map, byteOf]
      have e : ((UInt8.ofNat xs[j].toNat).toNat : Int) = xs[j] := by simp; omega
      rw [e])
    rw [hl] at this
    exact this
def TextPost (rb : Nat) (v : Value) (l : List Int) (p n : Nat) (w : World) (e : Ending) (w' : World) : Prop :=
  e = .returned (.string (textOf (cut l p n))) ∧ RS w' rb v l (aft l p n) ∧ Only (· = rb) w w'
theorem take_snoc (xs : List Int) (k : Nat) (h : k < xs.length) : xs.take (k + 1) = xs.take k ++ [xs.getD k 0] := by
  rw [List.take_succ_eq_append_getElem h]
  simp [h]
set_option maxHeartbeats 1000000 in
theorem text_c (rb : Nat) (v : Value) (l : List Int) (p n : Nat) (w : World) (h : RS w rb v l p) (hn : n ≤ 1048576) (hb : l.all isByte = true) :
    Calls Try.prog 137 #[.pointer (some ⟨rb, 0, none⟩), .int .i64 n] w (TextPost rb v l p n w) := by
  have H := hid h
  have hby := cut_byte p n hb
  have hsh := cut_short l p n
  obtain ⟨xs, hxs⟩ : ∃ xs, cut l p n = xs := ⟨_, rfl⟩
  rw [hxs] at hby hsh
  have HXs := hid hxs
  have HB := hid hby
  clear h hb hby hxs
  go_enter Try.func137, Try.ntmps137
  go_wp2_with fail
  refine (take_c rb v l p n _ H.out hn).mono ?_
  rintro e w1 ⟨v', rfl, hown, hrs, ho⟩
  rw [HXs.out] at hown
  obtain ⟨va, vcap, rfl⟩ := own_slice hown
  have HR := hid hrs
  have HO := hid ho
  have HX := hid (Rd.of_own hown)
  clear hown hrs ho
  go_wp2_with fail
  go_loopw [5, 12] (fun u c wr => ∃ k : Nat, c = .int .i64 k ∧ k ≤ xs.length ∧ wr.ownsRow w1.heap.size 5 1 u (xs.take k).length (u8s (xs.take k)) ∧ Below w1.heap.size w1 wr) (fun _ c _ => xs.length - (intOf c).toNat)
  case atStart => exact ⟨0, rfl, by omega, World.ownsRow_nil _ _ _ _, Below.refl _ _⟩
  case round =>
    obtain ⟨k, rfl, hk, hown, hbel⟩ := hrel
    have HOw := hid hown
    have HBe := hid hbel
    have hz := hbel.size
    by_cases hlt : k < xs.length
    · rcases (HX.out.on hbel) with ⟨a', c', e', hh⟩
      simp only [Value.slice.injEq] at e'
      obtain ⟨rfl, _, rfl⟩ := e'
      rcases hh with hh | ⟨g, o, rfl, hg, hc⟩
      · rw [hh] at hlt; simp at hlt
      have q0 := hc k hlt
      have hx := isByte_iff.1 (List.all_eq_true.1 HB.out (xs.getD k 0) (by simp [hlt]))
      have HSn := hid (take_snoc xs k hlt)
      have htl : (xs.take k).length = k := by rw [List.length_take]; omega
      have HTl := hid htl
      obtain ⟨x, hxe⟩ : ∃ x, xs.getD k 0 = x := ⟨_, rfl⟩
      rw [hxe] at q0 hx HSn
      obtain ⟨hx0, hx1⟩ := hx
      clear hc hown hbel hxe htl
      go_wp2_with (at_builtin; refine app_u8 _ rfl _ _ rfl w1.heap.size (xs.take k) [x] _ rfl (HOw.out.alloc _) _ _ _ rfl rfl (SrcAt.u8 _ x _ (by simp)) (by have := HTl.out; simp only [List.length_cons, List.length_nil]; omega) (by simp; omega) ?_)
      intro v2 w2 hown2 hb2 _ _
      rw [← HSn.out] at hown2
      have HOw2 := hid hown2
      have HBe2 := hid ((HBe.out.alloc (by omega) (.cells #[.int .u8 x] 5)).trans hb2)
      clear hown2 hb2 q0
      go_wp2_with fail
      go_roundw
      case rel => exact ⟨k + 1, by go_num, by omega, by rw [List.length_take, Nat.min_eq_left hlt]; exact HOw2.out, HBe2.out⟩
      case measure => simp [intOf]; omega
    · obtain rfl : k = xs.length := by omega
      rw [List.take_length] at hown
      have hcv := conv_own hown HB.out
      clear hown hbel
      go_wp2_with fail
      go_ret
      exact ⟨show Ending.returned (Value.string (textOf xs)) = _ by rw [HXs.out], HR.out.on HBe.out, HO.out.trans (.of_below HBe.out)⟩
theorem size_nm : (Try.prog.info? 98).map (·.size) = some 2 := by kernel_rfl
def NamePost (rb : Nat) (v : Value) (l : List Int) (p : Nat) (w : World) (e : Ending) (w' : World) : Prop :=
  e = .returned (.agg #[.string (nameP l p).text, .int .i64 (nameP l p).at_]) ∧ RS w' rb v l (namePEnd l p) ∧ Only (· = rb) w w'
theorem num1_toNat (l : List Int) (p : Nat) (hb : l.all isByte = true) : numAt l p 1 = (nameLen l p : Int) ∧ nameLen l p ≤ 255 := by
  unfold nameLen numAt
  have hby := cut_byte p 1 hb
  have hsh := cut_short l p 1
  match hx : cut l p 1, hby, hsh with
  | [], _, _ => simp [numIn]
  | [x], hby, _ =>
    have : 0 ≤ x ∧ x ≤ 255 := by simpa [isByte, inR, lo, hi] using hby
    simp [numIn]
    omega
  | x :: y :: r, _, hsh => simp at hsh
set_option maxHeartbeats 1000000 in
theorem name_c (rb : Nat) (v : Value) (l : List Int) (p : Nat) (w : World) (h : RS w rb v l p) (hb : l.all isByte = true) :
    Calls Try.prog 129 #[.pointer (some ⟨rb, 0, none⟩)] w (NamePost rb v l p w) := by
  have HB := hid hb
  have hrb := h.box.lt
  have hal := ((Below.refl w.heap.size w).alloc (Nat.le_refl _) (.cells #[.string ⟨#[]⟩, .int .i64 0] 98))
  have hal2 := hal.alloc hal.size (.cells #[.string ⟨#[]⟩, .int .i64 0] 98)
  have HRw := hid h
  have HR0 := hid (h.on hal2)
  have HN0 := hid (show Only (· = rb) w ((w.alloc (.cells #[.string ⟨#[]⟩, .int .i64 0] 98)).alloc (.cells #[.string ⟨#[]⟩, .int .i64 0] 98)) from .of_below hal2)
  have HA0 := hid ((Row.new w 98 #[.string ⟨#[]⟩, .int .i64 0]).alloc (.cells #[.string ⟨#[]⟩, .int .i64 0] 98))
  have hbn := Row.new (w.alloc (.cells #[.string ⟨#[]⟩, .int .i64 0] 98)) 98 #[.string ⟨#[]⟩, .int .i64 0]
  rw [World.size_alloc] at hbn
  have HB0 := hid hbn
  have hnl := num1_toNat l p hb
  obtain ⟨hn1, hn2⟩ := hnl
  have HN1 := hid hn1
  clear h hb hal hal2 hbn hn1
  go_enter Try.func129, Try.ntmps129
  go_wp2_with fail
  refine (number_c rb v l p 1 _ HR0.out (by omega) HB.out).mono ?_
  rintro e w1 ⟨rfl, hr1, ho1⟩
  rw [HN1.out]
  have hne0 : w.heap.size ≠ rb := by omega
  have hne1 : w.heap.size + 1 ≠ rb := by omega
  have HR1 := hid hr1
  have HO1 := hid (HN0.out.trans ho1)
  have HA1 := hid (row_only HA0.out hne0 ho1)
  have HB1 := hid (row_only HB0.out hne1 ho1)
  clear hr1 ho1
  go_wp2_with fail
  refine (text_c rb v l (aft l p 1) (nameLen l p) _ HR1.out (by omega) HB.out).mono ?_
  rintro e w2 ⟨rfl, hr2, ho2⟩
  have HR2 := hid hr2
  have HO2 := hid (HO1.out.trans ho2)
  have HA2 := hid (row_only HA1.out hne0 ho2)
  have HB2 := hid (row_only HB1.out hne1 ho2)
  clear hr2 ho2
  obtain ⟨t, ht⟩ : ∃ t, textOf (cut l (aft l p 1) (nameLen l p)) = t := ⟨_, rfl⟩
  have HT := hid ht
  rw [ht]
  clear ht
  have b0 := HB2.out.cell 0
  have b1 := HB2.out.cell 1
  simp at b0 b1
  have hfb := HB2.out.free
  go_wp2_with fail
  have HR3 := hid (HRw.out.fresh HR2.out (g := w.heap.size + 1) (by omega) 0 (.string t))
  have HO3 := hid (HO2.out.fresh (g := w.heap.size + 1) (by omega) 0 (.string t))
  have HA3 := hid (HA2.out.far (p := ⟨w.heap.size + 1, 0, none⟩) (by simp) (.string t))
  have HB3 := hid (HB2.out.set 0 (.string t))
  generalize w2.setCell ⟨w.heap.size + 1, 0, none⟩ (.string t) = w3 at HR3 HO3 HA3 HB3 ⊢
  clear b0 b1 hfb
  refine (number_c rb v l _ 2 _ HR3.out (by omega) HB.out).mono ?_
  rintro e w4 ⟨rfl, hr4, ho4⟩
  have HR4 := hid hr4
  have HO4 := hid (HO3.out.trans ho4)
  have HA4 := hid (row_only HA3.out hne0 ho4)
  have HB4 := hid (row_only HB3.out hne1 ho4)
  clear hr4 ho4
  obtain ⟨x, hx⟩ : ∃ x, numAt l (aft l (aft l p 1) (nameLen l p)) 2 = x := ⟨_, rfl⟩
  have HX := hid hx
  rw [hx]
  clear hx
  have b0 := HB4.out.cell 0
  have b1 := HB4.out.cell 1
  have a0 := HA4.out.cell 0
  have a1 := HA4.out.cell 1
  simp at b0 b1 a0 a1
  have hfb := HB4.out.free
  have hfa := HA4.out.free
  go_wp2_with fail
  clear b0 b1 a0 a1 hfb hfa
  have HRw2 := hid (((HRw.out.fresh (HRw.out.fresh (HRw.out.fresh HR4.out (g := w.heap.size + 1) (by omega) 1 (.int .i64 x)) (g := w.heap.size) (by omega) 0 (.string t)) (g := w.heap.size) (by omega) 1 (.int .i64 x))))
  have HOw2 := hid (((HO4.out.fresh (g := w.heap.size + 1) (by omega) 1 (.int .i64 x)).fresh (g := w.heap.size) (by omega) 0 (.string t)).fresh (g := w.heap.size) (by omega) 1 (.int .i64 x))
  have HAw2 := hid (((HA4.out.far (p := ⟨w.heap.size + 1, 1, none⟩) (by simp) (.int .i64 x)).set 0 (.string t)).set 1 (.int .i64 x))
  refine bodyPost_ret (v := .agg #[.string t, .int .i64 x])
    (results_cell_row Try.results129 _ _ w.heap.size 98 #[.string t, .int .i64 x] (0, 0) _ rfl HAw2.out Try.underlying98 rfl size_nm) rfl ?_
  refine ⟨?_, HRw2.out, HOw2.out⟩
  rw [← HT.out, ← HX.out]
  rfl
end Go.Proofs.Ytihhpgklpichgab.Im
