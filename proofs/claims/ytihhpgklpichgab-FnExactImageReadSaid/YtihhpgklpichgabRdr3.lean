/- The program's reader of bytes: image. -/
import Derived.Test.YtihhpgklpichgabRdr2
import Derived.Test.YtihhpgklpichgabMark
import Derived.Deep.RegionLaw
import Derived.RegionTactic
import Derived.BigRegion
set_option linter.unusedSimpArgs false
set_option linter.unusedVariables false
namespace Go.Proofs.Ytihhpgklpichgab.Im
open Go.RowKit Pl Ft Mm In C2

theorem rd_new {p : Nat → Prop} {w0 w w' : World} {v : Value} {xs : List Int} (h0 : Rd w0 v xs) (h : Rd w v xs) (ho : Only p w w') (hp : ∀ k, p k → w0.heap.size ≤ k) : Rd w' v xs := by
  obtain ⟨a0, cap0, e0, h0⟩ := h0
  obtain ⟨a, cap, e, h⟩ := h
  rw [e0] at e
  simp only [Value.slice.injEq, true_and] at e
  obtain ⟨rfl, rfl⟩ := e
  refine ⟨a0, cap0, e0, ?_⟩
  rcases h with h | ⟨g1, o1, ea, hg1, hc⟩
  · exact .inl h
  · rcases h0 with h0 | ⟨g2, o2, ea2, hg2, _⟩
    · exact .inl h0
    · rw [ea] at ea2
      simp only [Option.some.injEq, Addr.mk.injEq] at ea2
      refine .inr ⟨g1, o1, ea, Nat.lt_of_lt_of_le hg1 ho.size, fun j hj => ?_⟩
      rw [World.cell?_of_block (w := w) (ho.block g1 hg1 (fun hp1 => by have := hp _ hp1; omega))]
      exact hc j hj
theorem RS.new {p : Nat → Prop} {w0 w w' : World} {rb : Nat} {v : Value} {l : List Int} {p0 q : Nat} (h0 : RS w0 rb v l p0) (h : RS w rb v l q) (ho : Only p w w') (hp : ∀ k, p k → w0.heap.size ≤ k) : RS w' rb v l q :=
  ⟨row_only h.box (fun hpr => by have := hp _ hpr; have := h0.box.lt; omega) ho, rd_new h0.rd h.rd ho hp, h.cap, h.far, h.le, h.long⟩
theorem Only.new {p q : Nat → Prop} {w0 w w' : World} (h : Only p w0 w) (ho : Only q w w') (hq : ∀ k, q k → w0.heap.size ≤ k) : Only p w0 w' :=
  ⟨ho.os.trans h.os, ho.tape.trans h.tape, ho.output.trans h.output, Nat.le_trans h.size ho.size, fun k hk hn => (ho.block k (Nat.lt_of_lt_of_le hk h.size) (fun hqk => by have := hq k hqk; omega)).trans (h.block k hk hn)⟩
theorem nm_one (l : List Nm) : ∀ u ∈ nmCells l, u.oneCell' = true := by
  intro u hu
  obtain ⟨n, _, hu⟩ := List.mem_flatMap.1 hu
  simp only [Nm.cells, List.mem_cons, List.not_mem_nil, or_false] at hu
  rcases hu with rfl | rfl <;> rfl
/-- A row of names with one more behind it. -/
theorem stp_names {ops : Array Oper} {o : Oper} {a : Act} {K : Act → World → Prop} {Q : Exit → Act → World → Prop} {E : Prop} (w : World) (hgd : o.guard = none) (s x : Operand)
    (ho : o.op = .call { callee := .builtin .append, args := #[s, x], argTypes := #[46, 46] })
    (B : Nat) (xs : List Nm) (n : Nm) (v : Value) (hs : a.eval s = v) (hown : w.ownsRow B 98 2 v xs.length (nmCells xs))
    (A : Option Addr) (m c : Nat) (hx : a.eval x = .slice A m c) (hm : m = 1) (hsrc : SrcAt w A 1 2 n.cells)
    (hl : xs.length ≤ 1000000000) (hB : B ≤ w.heap.size)
    (h : ∀ v' w', w'.ownsRow B 98 2 v' (xs ++ [n]).length (nmCells (xs ++ [n])) → Only (fun g => v.ownBlock = some g) w w' → K (a.put o.dst v') w') : if Region.wanted o (yielded ops a.tmps) = true then Oper.wp Try.prog o a w K Q else E := by
  obtain ⟨i0, hi, hz0, hz1, hz2⟩ := info_parts info_name
  subst hm
  refine step_app w hgd s x 46 ho B 98 i0 (.agg #[.string ⟨#[]⟩, .int .i64 0]) 2 24 Try.underlying46 hi hz0 hz1 hz2 rfl (by decide) v xs.length (nmCells xs) hs hown A 1 c n.cells hx hsrc ?_ (by simp only [maxLen]; omega) (by omega) hB
    (fun v' w' h1 h2 h3 => h v' w' ?_ ⟨h2.os, h2.tape, h2.output, h2.size, fun k hk hne => h2.block k hk (fun e => hne e.symm)⟩)
  · intro u hu
    exact nm_one [n] u (by simpa [nmCells] using hu)
  · rw [List.length_append]
    have e : nmCells (xs ++ [n]) = nmCells xs ++ n.cells := by simp [nmCells]
    rw [e]
    exact h1
theorem SrcAt.nm (w : World) (t : ByteArray) (x : Int) (H : Nat) (hH : w.heap.size = H) : SrcAt (w.alloc (.cells #[.string t, .int .i64 x] 98)) (some ⟨H, 0, none⟩) 1 2 (Nm.cells ⟨t, x⟩) := by
  subst hH
  exact ⟨rfl, .inr ⟨_, rfl, new_cells w #[.string t, .int .i64 x] _ _ rfl⟩⟩
theorem namesP_succ (l : List Int) (p k : Nat) : namesP l p (k + 1) = namesP l p k ++ [nameP l (namesPEnd l p k)] := by
  unfold namesP
  rw [List.range_succ, List.map_append]
  rfl
theorem namesP_len (l : List Int) (p k : Nat) : (namesP l p k).length = k := by simp [namesP]
theorem num2_toNat (l : List Int) (p : Nat) (hb : l.all isByte = true) : numAt l p 2 = (((numAt l p 2).toNat : Nat) : Int) ∧ (numAt l p 2).toNat ≤ 65535 := by
  unfold numAt
  have hby := cut_byte p 2 hb
  have hsh := cut_short l p 2
  match hx : cut l p 2, hby, hsh with
  | [], _, _ => simp [numIn]
  | [x], hby, _ =>
    have : 0 ≤ x ∧ x ≤ 255 := by simpa [isByte, inR, lo, hi] using hby
    simp [numIn]
    omega
  | [x, y], hby, _ =>
    have : (0 ≤ x ∧ x ≤ 255) ∧ (0 ≤ y ∧ y ≤ 255) := by simpa [isByte, inR, lo, hi] using hby
    simp [numIn]
    omega
  | x :: y :: z :: r, _, hsh => simp at hsh
def iz : Array Value := #[.slice none 0 0, .int .i64 0, .int .i64 0, .slice none 0 0, .slice none 0 0]
/-- The rounds over the names. -/
structure IRel (w : World) (rb mb : Nat) (v : Value) (l : List Int) (vn : Value) (k : Nat) (wr : World) : Prop where
  box : Row wr mb 48 #[.slice none 0 0, .int .i64 (numAt l (p4 l) 2), .int .i64 (numAt l (p6 l) 1), .slice none 0 0, vn]
  own : wr.ownsRow w.heap.size 98 2 vn (namesP l (p9 l) k).length (nmCells (namesP l (p9 l) k))
  res : Row wr w.heap.size 48 iz
  rs : RS wr rb v l (namesPEnd l (p9 l) k)
  only : Only (· = rb) w wr
theorem name_ne_img : 98 ≠ 48 := by decide
def ImagePost (rb : Nat) (v : Value) (l : List Int) (w : World) (e : Ending) (w' : World) : Prop :=
  ∃ vc vd vn, e = .returned (imgVal vc vd vn (imageP l)) ∧ IOwn w' w.heap.size vc vd vn (imageP l) ∧ Rd w' v l ∧ Only (· = rb) w w'
set_option maxRecDepth 100000 in
set_option maxHeartbeats 4000000 in
theorem image_c (rb : Nat) (v : Value) (l : List Int) (w : World) (h : RS w rb v l 0) (hb : l.all isByte = true) :
    Calls Try.prog 93 #[.pointer (some ⟨rb, 0, none⟩)] w (ImagePost rb v l w) := by
  have HB := hid hb
  have HRw := hid h
  have hrb := h.box.lt
  have hal := ((Below.refl w.heap.size w).alloc (Nat.le_refl _) (.cells #[.slice none 0 0, .int .i64 0, .int .i64 0, .slice none 0 0, .slice none 0 0] 48))
  have HR0 := hid (h.on hal)
  have HN0 := hid (show Only (· = rb) w (w.alloc (.cells #[.slice none 0 0, .int .i64 0, .int .i64 0, .slice none 0 0, .slice none 0 0] 48)) from .of_below hal)
  have HA0 := hid (show Row _ _ _ iz from Row.new w 48 #[.slice none 0 0, .int .i64 0, .int .i64 0, .slice none 0 0, .slice none 0 0])
  have HCl := hid (show numAt l (p2 l) 2 = (codeLenP l : Int) from (num2_toNat l (p2 l) hb).1)
  have hcl : codeLenP l ≤ 65535 := (num2_toNat l (p2 l) hb).2
  have HDl := hid (show numAt l (p7 l) 1 = (dataLenP l : Int) from (num1_toNat l (p7 l) hb).1)
  have hdl : dataLenP l ≤ 255 := (num1_toNat l (p7 l) hb).2
  have HCo := hid (show numAt l (p8 l) 1 = (countP l : Int) from (num1_toNat l (p8 l) hb).1)
  have hco : countP l ≤ 255 := (num1_toNat l (p8 l) hb).2
  have hne0 : w.heap.size ≠ rb := by omega
  clear h hb hal
  go_enter Try.func93, Try.ntmps93
  go_wp2_with fail
  refine (take_c rb v l 0 2 _ HR0.out (by omega)).mono ?_
  rintro e w1 ⟨v1, rfl, _, hr1, ho1⟩
  have HR1 := hid (show RS w1 rb v l (p2 l) from hr1)
  have HO1 := hid (HN0.out.trans ho1)
  have HA1 := hid (row_only HA0.out hne0 ho1)
  clear hr1 ho1
  go_wp2_with fail
  refine (number_c rb v l _ 2 _ HR1.out (by omega) HB.out).mono ?_
  rintro e w2 ⟨rfl, hr2, ho2⟩
  have HR2 := hid (show RS w2 rb v l (p4 l) from hr2)
  have HO2 := hid (HO1.out.trans ho2)
  have HA2 := hid (row_only HA1.out hne0 ho2)
  clear hr2 ho2
  rw [HCl.out]
  go_wp2_with fail
  obtain ⟨mb, hmb⟩ : ∃ mb, w2.heap.size = mb := ⟨_, rfl⟩
  have hal3 := ((Below.refl w2.heap.size w2).alloc (Nat.le_refl _) (.cells #[.slice none 0 0, .int .i64 0, .int .i64 0, .slice none 0 0, .slice none 0 0] 48))
  have hm0 : w.heap.size < mb := by have := HA2.out.lt; omega
  have hne1 : mb ≠ rb := by omega
  have hbx := Row.new w2 48 #[.slice none 0 0, .int .i64 0, .int .i64 0, .slice none 0 0, .slice none 0 0]
  rw [hmb] at hbx
  have HX3 := hid hbx
  have HR3 := hid (HR2.out.on hal3)
  have HO3 := hid (HO2.out.trans (.of_below hal3))
  have HA3 := hid (HA2.out.on hal3)
  rw [hmb]
  clear hal3 hbx
  generalize w2.alloc (.cells #[.slice none 0 0, .int .i64 0, .int .i64 0, .slice none 0 0, .slice none 0 0] 48) = w3 at HX3 HR3 HO3 HA3 ⊢
  clear hmb
  refine (number_c rb v l _ 2 _ HR3.out (by omega) HB.out).mono ?_
  rintro e w4 ⟨rfl, hr4, ho4⟩
  have HR4 := hid (show RS w4 rb v l (p6 l) from hr4)
  have HO4 := hid (HO3.out.trans ho4)
  have HA4 := hid (row_only HA3.out hne0 ho4)
  have HX4 := hid (row_only HX3.out hne1 ho4)
  clear hr4 ho4
  obtain ⟨en, hen⟩ : ∃ x, numAt l (p4 l) 2 = x := ⟨_, rfl⟩
  have HEn := hid hen
  rw [hen]
  clear hen
  have x1 := HX4.out.cell 1
  simp at x1
  have hfx := HX4.out.free
  go_wp2_with fail
  have HR5 := hid (HRw.out.fresh HR4.out (g := mb) (by omega) 1 (.int .i64 en))
  have HO5 := hid (HO4.out.fresh (g := mb) (by omega) 1 (.int .i64 en))
  have HA5 := hid (HA4.out.far (p := ⟨mb, 1, none⟩) (by simp; omega) (.int .i64 en))
  have HX5 := hid (show Row _ mb 48 #[.slice none 0 0, .int .i64 en, .int .i64 0, .slice none 0 0, .slice none 0 0] from HX4.out.set 1 (.int .i64 en))
  generalize w4.setCell ⟨mb, 1, none⟩ (.int .i64 en) = w5 at HR5 HO5 HA5 HX5 ⊢
  clear x1 hfx
  refine (number_c rb v l _ 1 _ HR5.out (by omega) HB.out).mono ?_
  rintro e w6 ⟨rfl, hr6, ho6⟩
  have HR6 := hid (show RS w6 rb v l (p7 l) from hr6)
  have HO6 := hid (HO5.out.trans ho6)
  have HA6 := hid (row_only HA5.out hne0 ho6)
  have HX6 := hid (row_only HX5.out hne1 ho6)
  clear hr6 ho6
  obtain ⟨ro, hro⟩ : ∃ x, numAt l (p6 l) 1 = x := ⟨_, rfl⟩
  have HRo := hid hro
  rw [hro]
  clear hro
  have x2 := HX6.out.cell 2
  simp at x2
  have hfx := HX6.out.free
  go_wp2_with fail
  have HR7 := hid (HRw.out.fresh HR6.out (g := mb) (by omega) 2 (.int .i64 ro))
  have HO7 := hid (HO6.out.fresh (g := mb) (by omega) 2 (.int .i64 ro))
  have HA7 := hid (HA6.out.far (p := ⟨mb, 2, none⟩) (by simp; omega) (.int .i64 ro))
  have HX7 := hid (show Row _ mb 48 #[.slice none 0 0, .int .i64 en, .int .i64 ro, .slice none 0 0, .slice none 0 0] from HX6.out.set 2 (.int .i64 ro))
  generalize w6.setCell ⟨mb, 2, none⟩ (.int .i64 ro) = w7 at HR7 HO7 HA7 HX7 ⊢
  clear x2 hfx
  refine (number_c rb v l _ 1 _ HR7.out (by omega) HB.out).mono ?_
  rintro e w8 ⟨rfl, hr8, ho8⟩
  have HR8 := hid (show RS w8 rb v l (p8 l) from hr8)
  have HO8 := hid (HO7.out.trans ho8)
  have HA8 := hid (row_only HA7.out hne0 ho8)
  have HX8 := hid (row_only HX7.out hne1 ho8)
  clear hr8 ho8
  rw [HDl.out]
  go_wp2_with fail
  refine (number_c rb v l _ 1 _ HR8.out (by omega) HB.out).mono ?_
  rintro e w9 ⟨rfl, hr9, ho9⟩
  have HR9 := hid (show RS w9 rb v l (p9 l) from hr9)
  have HO9 := hid (HO8.out.trans ho9)
  have HA9 := hid (row_only HA8.out hne0 ho9)
  have HX9 := hid (row_only HX8.out hne1 ho9)
  clear hr9 ho9
  rw [HCo.out]
  go_wp2_with fail
  go_loopw [20] (fun c wr => ∃ (k : Nat) (vn : Value), c = .int .i64 k ∧ k ≤ countP l ∧ IRel w rb mb v l vn k wr) (fun c _ => countP l - (intOf c).toNat)
  case atStart => exact ⟨0, _, rfl, by omega, ⟨by rw [HEn.out, HRo.out]; exact HX9.out, World.ownsRow_nil _ _ _ _, HA9.out, HR9.out, HO9.out⟩⟩
  case round =>
    obtain ⟨k, vn, rfl, hk, hrel⟩ := hrel
    by_cases hlt : k < countP l
    · obtain ⟨⟨t, x⟩, hnm⟩ : ∃ n, nameP l (namesPEnd l (p9 l) k) = n := ⟨_, rfl⟩
      have HNc := hid (fun (w' : World) (hr : RS w' rb v l (namesPEnd l (p9 l) k)) => name_c rb v l (namesPEnd l (p9 l) k) w' hr HB.out)
      unfold NamePost at HNc
      rw [hnm] at HNc
      have HSn := hid (show namesP l (p9 l) (k + 1) = namesP l (p9 l) k ++ [⟨t, x⟩] by rw [namesP_succ, hnm])
      have hnl := namesP_len l (p9 l) k
      obtain ⟨N, hN⟩ : ∃ N, namesP l (p9 l) k = N := ⟨_, rfl⟩
      have hrel' : Row wr mb 48 #[.slice none 0 0, .int .i64 en, .int .i64 ro, .slice none 0 0, vn] := by have := hrel.box; rwa [HEn.out, HRo.out] at this
      have HXr := hid hrel'.drew
      have hown := hrel.own
      rw [hN] at hown HSn hnl
      have HOwn := hid (show wr.drew.ownsRow w.heap.size 98 2 vn N.length (nmCells N) from hown)
      have HAr := hid hrel.res.drew
      have HRr := hid (hrel.rs.on (Below.refl _ _).drew)
      have HOr := hid (hrel.only.trans (.of_below (Below.refl _ _).drew))
      have hzr := hrel.only.size
      have x4 := hrel'.cell 4
      simp at x4
      have hfx := hrel'.free
      clear hrel hrel' hown hnm hN
      go_upto_region 9 with fail
      go_region_law (first
        | (refine stp_names _ rfl _ _ rfl w.heap.size N ⟨t, x⟩ vn (by rfl) (HWa.out.alloc _) _ _ _ rfl rfl (SrcAt.nm _ t x _ (by simp)) (by omega) (by simp; omega) ?_; intro v2 w2 hown2 ho2; obtain ⟨s2, c2, rfl⟩ := own_slice hown2; have HW2 := hid hown2; have HO2' := hid ho2; have HX2 := hid (row_only (HXa.out.alloc (.cells #[.string t, .int .i64 x] 98)) (no_own (HXa.out.alloc (.cells #[.string t, .int .i64 x] 98)) (HWa.out.alloc _) name_ne_img) ho2); have y4 := HX2.out.cell 4; simp at y4; have hfy := HX2.out.free; clear hown2 ho2)
        | (go_simp; go_at_call 129; go_loud (refine (HNc.out _ HRr.out).mono ?_; rintro e wa ⟨rfl, hra, hoa⟩; have HRa := hid hra; have HOa := hid hoa; have HXa := hid (row_only HXr.out hne1 hoa); have HWa := hid (own_only HOwn.out (fun g hg h => no_own HRr.out.box HOwn.out (by decide) (by rw [hg, h])) hoa); have z4 := HXa.out.cell 4; simp at z4; have hfz := HXa.out.free; have hmz := HXa.out.lt; have hza := hoa.size; simp only [World.drew] at hza; clear hra hoa)))
      all_goals
        go_wp2_with fail
        go_roundw
        case rel =>
          have e : (N ++ [(⟨t, x⟩ : Nm)]).length = k + 1 := by rw [List.length_append, hnl]; rfl
          have hw2 := HW2.out
          rw [e] at hw2
          have hge : ∀ g, vn.ownBlock = some g → w.heap.size ≤ g := fun g hg => (HOwn.out.lt g hg).1
          have hal := (Below.refl wa.heap.size wa).alloc (Nat.le_refl _) (.cells #[.string t, .int .i64 x] 98)
          have hra := HRw.out.new (HRa.out.on hal) HO2'.out hge
          have haa := (row_only HAr.out hne0 HOa.out).on hal
          have ha2 := row_only haa (no_own haa (HWa.out.alloc _) name_ne_img) HO2'.out
          refine ⟨k + 1, .slice s2 (k + 1) c2, by go_num, by omega, ⟨?_, ?_, ha2.far (p := ⟨mb, 4, none⟩) (by simp; omega) _, HRw.out.fresh hra (g := mb) (by omega) 4 _, (((HOr.out.trans HOa.out).trans (.of_below hal)).new HO2'.out hge).fresh (g := mb) (by omega) 4 _⟩⟩
          · rw [HEn.out, HRo.out]
            exact HX2.out.set 4 _
          · rw [HSn.out, e]
            exact own_far hw2 (p := ⟨mb, 4, none⟩) (fun g hg h => no_own HX2.out hw2 name_ne_img (by rw [hg, h])) _
        case measure => simp [intOf]; omega
    · obtain rfl : k = countP l := by omega
      have hxr : Row wr mb 48 #[.slice none 0 0, .int .i64 en, .int .i64 ro, .slice none 0 0, vn] := by have := hrel.box; rwa [HEn.out, HRo.out] at this
      have HXr := hid hxr
      obtain ⟨sn, cn, rfl⟩ := own_slice hrel.own
      have HOwn := hid hrel.own
      have HAr := hid hrel.res
      have HRr := hid (show RS wr rb v l (pCode l) from hrel.rs)
      have HOr := hid hrel.only
      have hzr := hrel.only.size
      have hmr := hxr.lt
      clear hrel hxr
      go_wp2_with fail
      refine (take_c rb v l _ (codeLenP l) _ HRr.out (by omega)).mono ?_
      rintro e wa ⟨vc, rfl, hownc, hra, hoa⟩
      obtain ⟨sc, cc, rfl⟩ := own_slice hownc
      have hcb : ∀ g, (Value.slice sc (cut l (pCode l) (codeLenP l)).length cc).ownBlock = some g → wr.heap.size ≤ g ∧ g < wa.heap.size := fun g hg => hownc.lt g hg
      have HCb := hid hcb
      have HXa := hid (row_only HXr.out hne1 hoa)
      have HNa := hid (own_only HOwn.out (fun g hg h => no_own HRr.out.box HOwn.out (by decide) (by rw [hg, h])) hoa)
      have HAa := hid (row_only HAr.out hne0 hoa)
      have HRa := hid hra
      have HOa := hid (HOr.out.trans hoa)
      have HCa := hid hownc
      have hza := hoa.size
      clear hownc hra hoa hcb
      have x0 := HXa.out.cell 0
      simp at x0
      have hfx := HXa.out.free
      go_wp2_with fail
      obtain ⟨C, hC⟩ : ∃ C, cut l (pCode l) (codeLenP l) = C := ⟨_, rfl⟩
      have HC := hid hC
      rw [hC] at HCa HCb ⊢
      clear hC
      have HXb := hid (show Row _ mb 48 #[.slice sc C.length cc, .int .i64 en, .int .i64 ro, .slice none 0 0, .slice sn (namesP l (p9 l) (countP l)).length cn] from HXa.out.set 0 (.slice sc C.length cc))
      have HNb := hid (own_far HNa.out (p := ⟨mb, 0, none⟩) (fun g hg h => no_own HXa.out HNa.out name_ne_img (by rw [hg, h])) (.slice sc C.length cc))
      have HCc := hid (own_far HCa.out (p := ⟨mb, 0, none⟩) (fun g hg h => by have := (HCb.out g hg).1; simp at h; omega) (.slice sc C.length cc))
      have HAb := hid (HAa.out.far (p := ⟨mb, 0, none⟩) (by simp; omega) (.slice sc C.length cc))
      have HRb := hid (HRw.out.fresh HRa.out (g := mb) (by omega) 0 (.slice sc C.length cc))
      have HOb := hid (HOa.out.fresh (g := mb) (by omega) 0 (.slice sc C.length cc))
      have hzb : (wa.setCell ⟨mb, 0, none⟩ (.slice sc C.length cc)).heap.size = wa.heap.size := by simp
      generalize wa.setCell ⟨mb, 0, none⟩ (.slice sc C.length cc) = wb at HXb HNb HCc HAb HRb HOb hzb ⊢
      clear x0 hfx
      refine (take_c rb v l _ (dataLenP l) _ HRb.out (by omega)).mono ?_
      rintro e wd ⟨vd, rfl, hownd, hrd, hod⟩
      obtain ⟨sd, cd, rfl⟩ := own_slice hownd
      have hdb : ∀ g, (Value.slice sd (cut l (aft l (pCode l) (codeLenP l)) (dataLenP l)).length cd).ownBlock = some g → wb.heap.size ≤ g ∧ g < wd.heap.size := fun g hg => hownd.lt g hg
      have HDb := hid hdb
      have HXd := hid (row_only HXb.out hne1 hod)
      have HNd := hid (own_only HNb.out (fun g hg h => no_own HRb.out.box HNb.out (by decide) (by rw [hg, h])) hod)
      have HCd := hid (own_only HCc.out (fun g hg h => by have := (HCb.out g hg).1; omega) hod)
      have HAd := hid (row_only HAb.out hne0 hod)
      have HRd := hid hrd
      have HOd := hid (HOb.out.trans hod)
      have HDd := hid hownd
      have hzd := hod.size
      clear hownd hrd hod hdb
      have x0 := HXd.out.cell 0
      have x1 := HXd.out.cell 1
      have x2 := HXd.out.cell 2
      have x3 := HXd.out.cell 3
      have x4 := HXd.out.cell 4
      have y0 := HAd.out.cell 0
      have y1 := HAd.out.cell 1
      have y2 := HAd.out.cell 2
      have y3 := HAd.out.cell 3
      have y4 := HAd.out.cell 4
      simp [iz] at x0 x1 x2 x3 x4 y0 y1 y2 y3 y4
      have hfx := HXd.out.free
      have hfy := HAd.out.free
      obtain ⟨D, hD⟩ : ∃ D, cut l (aft l (pCode l) (codeLenP l)) (dataLenP l) = D := ⟨_, rfl⟩
      have HD := hid hD
      rw [hD] at HDd HDb ⊢
      clear hD
      obtain ⟨N, hN⟩ : ∃ N, namesP l (p9 l) (countP l) = N := ⟨_, rfl⟩
      have HNn := hid hN
      rw [hN] at HNd x4
      clear hN
      go_wp2_with fail
      clear x0 x1 x2 x3 x4 y0 y1 y2 y3 y4 hfx hfy
      have hneR : w.heap.size ≠ mb := by omega
      have ha5 := HAd.out.far (p := ⟨mb, 3, none⟩) (by simp; omega) (.slice sd D.length cd)
      have HA6 := hid (five_row ha5 (.slice sc C.length cc) en ro (.slice sd D.length cd) (.slice sn N.length cn))
      have hn5 := own_far HNd.out (p := ⟨mb, 3, none⟩) (fun g hg h => no_own HXd.out HNd.out name_ne_img (by rw [hg, h])) (.slice sd D.length cd)
      have hc5 := own_far HCd.out (p := ⟨mb, 3, none⟩) (fun g hg h => by have := (HCb.out g hg).1; simp at h; omega) (.slice sd D.length cd)
      have hd5 := own_far HDd.out (p := ⟨mb, 3, none⟩) (fun g hg h => by have := (HDb.out g hg).1; simp at h; omega) (.slice sd D.length cd)
      refine bodyPost_ret (v := .agg #[.slice sc C.length cc, .int .i64 en, .int .i64 ro, .slice sd D.length cd, .slice sn N.length cn])
        (results_cell_row Try.results93 _ _ w.heap.size 48 #[.slice sc C.length cc, .int .i64 en, .int .i64 ro, .slice sd D.length cd, .slice sn N.length cn] (0, 0) _ rfl HA6.out Try.underlying48 rfl size_img) rfl ?_
      have hI : imageP l = ⟨C, en, ro, D, N⟩ := by unfold imageP; rw [HC.out, HEn.out, HRo.out, HD.out, HNn.out]
      rw [ImagePost, hI]
      refine ⟨_, _, _, rfl, ⟨?_, ?_, ?_, fun g h1 h2 => ?_⟩, ?_, ?_⟩
      · exact own_mono (own_far5 hc5 (fun g hg => by have := (HCb.out g hg).1; omega) _ _ _ _ _) (by omega)
      · exact own_mono (own_far5 hd5 (fun g hg => by have := (HDb.out g hg).1; omega) _ _ _ _ _) (by omega)
      · exact own_far5 hn5 (fun g hg h => no_own ha5 hn5 name_ne_img (by rw [hg, h])) _ _ _ _ _
      · have := (HCb.out g h1).2
        have := (HDb.out g h2).1
        omega
      · exact ((HRw.out.fresh (HRw.out.fresh (HRw.out.fresh (HRw.out.fresh (HRw.out.fresh (HRw.out.fresh HRd.out (g := mb) (by omega) 3 _) (g := w.heap.size) (by omega) 0 _) (g := w.heap.size) (by omega) 1 _) (g := w.heap.size) (by omega) 2 _) (g := w.heap.size) (by omega) 3 _) (g := w.heap.size) (by omega) 4 _)).rd
      · exact (((((HOd.out.fresh (g := mb) (by omega) 3 _).fresh (g := w.heap.size) (by omega) 0 _).fresh (g := w.heap.size) (by omega) 1 _).fresh (g := w.heap.size) (by omega) 2 _).fresh (g := w.heap.size) (by omega) 3 _).fresh (g := w.heap.size) (by omega) 4 _
end Go.Proofs.Ytihhpgklpichgab.Im
