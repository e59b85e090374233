/- joined, vars, TermVars of the model. -/
import Derived.Test.YtffibmlgdacafaaDoorUx
set_option linter.unusedSimpArgs false
set_option linter.unusedVariables false
namespace Go.Proofs.YtffibmlgdacafaaDoor.Um
open Go.RowKit Pl Ft Mm In C2 Im

theorem strs_len (l : List ByteArray) : (strs l).length = l.length := by simp [strs]
theorem SRd.of_own {w : World} {base : Nat} {e : TypeId} {v : Value} {xs : List ByteArray} (h : w.ownsRow base e 1 v xs.length (strs xs)) : SRd w v xs := by
  obtain ⟨a, cap, rfl⟩ := own_slice h
  refine ⟨a, cap, rfl, ?_⟩
  by_cases h0 : xs = []
  · exact .inl h0
  · have hp : 0 < xs.length := List.length_pos_iff.2 h0
    obtain ⟨g, cap', hv, _, hg⟩ := own_addr h hp
    have ha : a = some ⟨g, 0, none⟩ := by simp at hv; exact hv.1
    subst ha
    refine .inr ⟨g, 0, rfl, hg, fun j hj => ?_⟩
    have := h.cells (g := g) rfl j (.string (xs.getD j ⟨#[]⟩)) (by simp [strs, hj])
    rw [add_none, Nat.zero_add] at this
    rw [Nat.zero_add]
    exact this
theorem SRd.src {w : World} {a : Option Addr} {c : Nat} {xs : List ByteArray} (h : SRd w (.slice a xs.length c) xs) : SrcAt w a xs.length 1 (strs xs) := by
  refine ⟨by simp [strs], ?_⟩
  obtain ⟨a', c', e, h⟩ := h
  simp only [Value.slice.injEq] at e
  obtain ⟨rfl, _, rfl⟩ := e
  rcases h with h | ⟨g, o, rfl, hg, hc⟩
  · left; rw [h]; rfl
  · right
    refine ⟨_, rfl, fun j u hu => ?_⟩
    have hj : j < xs.length := by
      have := (List.getElem?_eq_some_iff.1 hu).1
      simpa [strs] using this
    rw [add_none, hc j hj]
    simp only [strs, List.getElem?_map, List.getElem?_eq_getElem hj, Option.map_some, Option.some.injEq] at hu
    rw [← hu]
    simp [hj]
theorem own_strs (w : World) (ys : List ByteArray) (cs : Array Value) (h : cs.toList = strs ys) (hl : ys.length ≤ 1000) (n : Nat) (hn : n = ys.length) : (w.alloc (.cells cs 9)).ownsRow w.heap.size 9 1 (.slice (some ⟨w.heap.size, 0, none⟩) n n) ys.length (strs ys) := by
  subst hn
  rw [← h]
  have hs : cs.size = ys.length * 1 := by
    have := congrArg List.length h
    simp [strs] at this
    omega
  exact World.ownsRow_lit (base := w.heap.size) (e := 9) (size := 1) w cs ys.length (Nat.le_refl _) (by simp only [maxLen]; omega) hs
theorem strs_take (l : List ByteArray) (k : Nat) (h : k < l.length) : l.take (k + 1) = l.take k ++ [l.getD k ⟨#[]⟩] := by
  rw [List.take_succ_eq_append_getElem h]; simp [h]
theorem join_len (b : List ByteArray) : ∀ a : List ByteArray, (joinT a b).length ≤ a.length + b.length := by
  induction b with
  | nil => intro a; simp [joinT]
  | cons y b ih =>
    intro a
    have h1 := ih (addT a y)
    have h2 : (addT a y).length ≤ a.length + 1 := by unfold addT; split <;> simp
    have h3 : joinT a (y :: b) = joinT (addT a y) b := rfl
    rw [h3, List.length_cons]
    omega
set_option maxRecDepth 100000 in
set_option maxHeartbeats 4000000 in
theorem joined_c (a b : List ByteArray) (va vb : Value) (w : World) (ha : SRd w va a) (hb : SRd w vb b) (hla : a.length ≤ 500000) (hlb : b.length ≤ 500000) :
    Calls Tryd.prog 111 #[va, vb] w (SPost (joinT a b) w) := by
  have HA := hid ha
  have HB := hid hb
  obtain ⟨sa, ca, rfl, _⟩ := ha
  obtain ⟨sb, cb, rfl, hbc⟩ := hb
  have HBc := hid hbc
  clear hbc
  have HO0 := hid (own_strs w [] #[] rfl (by simp) 0 rfl)
  have HB0 := hid ((Below.refl w.heap.size w).alloc (Nat.le_refl _) (.cells #[] 9))
  go_enter Tryd.func111, Tryd.ntmps111
  go_wp2_with (at_builtin; refine app_strs _ rfl _ _ rfl w.heap.size [] a _ rfl HO0.out _ _ _ rfl rfl (HA.out.on HB0.out).src (by simp; omega) (by simp) ?_)
  intro v1 w1 hg1
  have HG1 := hid hg1
  clear hg1
  have HB1 := hid (HB0.out.trans HG1.out.bel)
  go_wp2_with fail
  go_loopw [5, 6] (fun vo c wr => ∃ k : Nat, c = .int .i64 k ∧ k ≤ b.length ∧ wr.ownsRow w.heap.size 9 1 vo (joinT a (b.take k)).length (strs (joinT a (b.take k))) ∧ Below w.heap.size w wr) (fun _ c _ => b.length - (intOf c).toNat)
  case atStart => exact ⟨0, rfl, by omega, by simpa [joinT] using HG1.out.own, HB1.out⟩
  case round =>
    obtain ⟨k, rfl, hk, hown, hbel⟩ := hrel
    have HOw := hid hown
    have HBe := hid hbel
    have hz := hbel.size
    have HLn := hid (join_len (b.take k) a)
    by_cases hlt : k < b.length
    · rcases HBc.out with h | ⟨g, o, rfl, hg, hc⟩
      · subst h; simp at hlt
      have q0 := (hbel.cell (p := ⟨g, o + k, none⟩) hg).trans (hc k hlt)
      have HTk := hid (show joinT a (b.take (k + 1)) = addT (joinT a (b.take k)) (b.getD k ⟨#[]⟩) by rw [strs_take b k hlt, joinT, List.foldl_append]; rfl)
      have HLk := hid (show (b.take k).length ≤ 500000 by rw [List.length_take]; omega)
      obtain ⟨s, hs⟩ : ∃ s, b.getD k ⟨#[]⟩ = s := ⟨_, rfl⟩
      rw [hs] at q0 HTk
      obtain ⟨L, hL⟩ : ∃ l, joinT a (b.take k) = l := ⟨_, rfl⟩
      rw [hL] at HOw HTk HLn hown
      obtain ⟨so, co, hv⟩ := own_slice hown
      subst hv
      clear hc hs hL hown hbel
      have hLb : L.length ≤ 1048576 := by have := HLn.out; have := HLk.out; omega
      have HLb := hid hLb
      clear hLb
      go_wp2_with fail
      refine (inTexts_c L _ s _ (SRd.of_own HOw.out) HLb.out).mono ?_
      rintro e w2 ⟨rfl, rfl⟩
      cases hh : hasText L s
      · have HH := hid (show addT L s = L ++ [s] by rw [addT, hh]; rfl)
        clear hh
        go_wp2_with (at_builtin; refine app_strs _ rfl _ _ rfl w.heap.size L [s] _ rfl (own_on HOw.out ((Below.refl _ _).alloc (Nat.le_refl _) _)) _ _ _ rfl rfl (src_strs _ [s] #[.string s] _ 1 rfl rfl rfl) (by have := HLb.out; simp only [List.length_cons, List.length_nil]; omega) (by have := HBe.out.size; simp; omega) ?_)
        intro v5 w5 hg5
        have HG5 := hid hg5
        clear hg5
        go_wp2_with fail
        go_roundw
        case rel =>
          have hb5 := (HBe.out.alloc HBe.out.size (.cells #[.string s] 9)).trans HG5.out.bel
          exact ⟨k + 1, by go_num, by omega, by rw [HTk.out, HH.out]; exact HG5.out.own, hb5⟩
        case measure => simp [intOf]; omega
      · have HH := hid (show addT L s = L by rw [addT, hh]; rfl)
        clear hh
        go_wp2_with fail
        go_roundw
        case rel => exact ⟨k + 1, by go_num, by omega, by rw [HTk.out, HH.out]; exact HOw.out, HBe.out⟩
        case measure => simp [intOf]; omega
    · obtain rfl : k = b.length := by omega
      rw [List.take_length] at HOw hown
      obtain ⟨so, co, hv⟩ := own_slice hown
      subst hv
      clear hown hbel
      go_wp2_with fail
      go_ret
      exact ⟨_, rfl, HOw.out, HBe.out⟩
theorem vars_len : ∀ (h : Nat) (t : Tm), (varsT h t).length ≤ t.size
  | 0, t => by unfold varsT; simp
  | h + 1, t => by
    have key : ∀ (ks : List Tm) (a : List ByteArray), (ks.foldl (fun out k => joinT out (varsT h k)) a).length ≤ a.length + sizes ks := by
      intro ks
      induction ks with
      | nil => intro a; simp
      | cons k ks ih =>
        intro a
        have h1 := vars_len h k
        have h2 := ih (joinT a (varsT h k))
        have h3 := join_len (varsT h k) a
        rw [List.foldl_cons, sizes_cons]
        omega
    unfold varsT
    split
    · have := size_pos t; simp; omega
    · have := key t.kids []
      rw [size_eq]
      simp at this
      omega
set_option maxRecDepth 100000 in
set_option maxHeartbeats 4000000 in
theorem sVars_c (h : Nat) : ∀ (n : Nat) (t : Tm) (kv : Value) (w : World), KRd w n kv t.kids → t.wide ≤ 1048576 → shape h t = true → t.size ≤ 500000 → Calls Tryd.prog 66 #[tmVal t kv] w (SPost (varsT h t) w) := by
  induction h with
  | zero => intro n t kv w _ _ hs; simp [shape] at hs
  | succ h ih =>
    intro n t kv w hr hw hs hsz
    obtain ⟨_, hks⟩ := shape_at hs
    have HI := hid ih
    have HR := hid hr
    have HWd := hid hw
    have HSh := hid hks
    have HW := hid (wide_eq t)
    have HSz := hid (size_eq t)
    have HSb := hid hsz
    clear ih hks hs hsz hw
    obtain ⟨a, cap, rfl⟩ := hr.slice
    clear hr
    have HVt := hid (show varsT (h + 1) t = if t.kind = 1 then [t.text] else t.kids.foldl (fun out k => joinT out (varsT h k)) [] from rfl)
    obtain ⟨x0, x1, x2, lk, hp⟩ := Pt.of t
    rw [hp.val]
    have hlk := hp.l
    rw [hp.k, hp.s] at HVt
    clear hp
    obtain ⟨ks, hks⟩ : ∃ l, t.kids = l := ⟨_, rfl⟩
    rw [hks] at HR HVt HSh HW HSz hlk ⊢
    clear hks
    subst hlk
    have hkl : ks.length ≤ 1048576 := by have := HW.out; have := HWd.out; omega
    have HB0 := hid ((Below.refl w.heap.size w).alloc (Nat.le_refl _) (.cells #[.int .i64 x0, .int .i64 x1, .string x2, .slice a ks.length cap] 28))
    have HX0 := hid (Row.new w 28 #[.int .i64 x0, .int .i64 x1, .string x2, .slice a ks.length cap])
    by_cases h1 : x0 = 1
    · have HV1 := hid (show varsT (h + 1) t = [x2] by rw [HVt.out, if_pos h1])
      subst h1
      have HO := hid (own_strs (w.alloc (.cells #[.int .i64 1, .int .i64 x1, .string x2, .slice a ks.length cap] 28)) [x2] #[.string x2] rfl (by simp) 1 rfl)
      simp only [World.size_alloc] at HO
      go_enter Tryd.func66, Tryd.ntmps66
      go_wp2_with fail
      go_ret
      exact ⟨_, rfl, by rw [HV1.out]; exact own_mono HO.out (Nat.le_succ _), HB0.out.alloc HB0.out.size _⟩
    have h1b : (x0 == 1) = false := by simpa using h1
    have HV1 := hid (show varsT (h + 1) t = ks.foldl (fun out k => joinT out (varsT h k)) [] by rw [HVt.out, if_neg h1])
    have HO0 := hid (own_mono (own_strs (w.alloc (.cells #[.int .i64 x0, .int .i64 x1, .string x2, .slice a ks.length cap] 28)) [] #[] rfl (by simp) 0 rfl) (show w.heap.size ≤ _ by simp))
    have HB1 := hid (HB0.out.alloc HB0.out.size (.cells #[] 9))
    have HX1 := hid (HX0.out.alloc (.cells #[] 9))
    simp only [World.size_alloc] at HO0
    go_enter Tryd.func66, Tryd.ntmps66
    go_wp2_with fail
    go_loopw [3, 4] (fun vo c wr => ∃ k : Nat, c = .int .i64 k ∧ k ≤ ks.length ∧ wr.ownsRow w.heap.size 9 1 vo ((ks.take k).foldl (fun out k => joinT out (varsT h k)) []).length (strs ((ks.take k).foldl (fun out k => joinT out (varsT h k)) [])) ∧ ((ks.take k).foldl (fun out k => joinT out (varsT h k)) []).length ≤ sizes (ks.take k) ∧ Row wr w.heap.size 28 #[.int .i64 x0, .int .i64 x1, .string x2, .slice a ks.length cap] ∧ Below w.heap.size w wr) (fun _ c _ => ks.length - (intOf c).toNat)
    case atStart => exact ⟨0, rfl, by omega, HO0.out, by simp, HX1.out, HB1.out⟩
    case round =>
      obtain ⟨k, rfl, hk, hown, hlen, hrx, hbel⟩ := hrel
      have HOw := hid hown
      have HLen := hid hlen
      have HRx := hid hrx
      have HBe := hid hbel
      have hz := hbel.size
      have hlx := hrx.lt
      have d3 := hrx.cell 3
      simp at d3
      clear hrx hlen
      by_cases hlt : k < ks.length
      · obtain ⟨m, b, o, cap', rfl, hv, hg, hc⟩ := HR.out.cells (by omega)
        simp only [Value.slice.injEq, true_and] at hv
        obtain ⟨rfl, rfl⟩ := hv
        obtain ⟨u, c0, c1, c2, c3, hru⟩ := hc k hlt
        have q0 := (HBe.out.cell (p := ⟨b, o + k * 4, none⟩) hg).trans c0
        have q1 := (HBe.out.cell (p := ⟨b, o + k * 4 + 1, none⟩) hg).trans c1
        have q2 := (HBe.out.cell (p := ⟨b, o + k * 4 + 2, none⟩) hg).trans c2
        have q3 := (HBe.out.cell (p := ⟨b, o + k * 4 + 3, none⟩) hg).trans c3
        have hwk := wides_at ks k hlt
        have HWk := hid (show (ks.getD k tz).wide ≤ 1048576 by have := HW.out; have := HWd.out; omega)
        have HSk := hid (HSh.out k hlt)
        have HSn := hid (sizes_snoc ks k hlt)
        have HSl := hid (sizes_take_le ks (k + 1))
        have HFs := hid (show (ks.take (k + 1)).foldl (fun out k => joinT out (varsT h k)) [] = joinT ((ks.take k).foldl (fun out k => joinT out (varsT h k)) []) (varsT h (ks.getD k tz)) by rw [take_snoc ks k hlt, List.foldl_append]; rfl)
        clear hwk
        obtain ⟨t2, ht⟩ : ∃ t, ks.getD k tz = t := ⟨_, rfl⟩
        rw [ht] at q0 q1 q2 hru HWk HSk HSn HFs
        have HRu := hid (hru.on HBe.out)
        clear hc c0 c1 c2 c3 hru ht
        obtain ⟨y0, y1, y2, ly, hq⟩ := Pt.of t2
        rw [hq.k] at q0
        rw [hq.n] at q1
        rw [hq.s] at q2
        have HQ := hid hq
        clear hq hbel
        obtain ⟨L, hL⟩ : ∃ l, (ks.take k).foldl (fun out k => joinT out (varsT h k)) [] = l := ⟨_, rfl⟩
        rw [hL] at HOw HLen HFs hown
        obtain ⟨so, co, hv⟩ := own_slice hown
        subst hv
        clear hL hown
        have HVl := hid (vars_len h t2)
        have HSb2 := hid (show t2.size ≤ 500000 by have := HSn.out; have := HSl.out; have := HSz.out; have := HSb.out; omega)
        go_wp2_with fail
        rw [← HQ.out.val]
        refine (HI.out m t2 u _ HRu.out HWk.out HSk.out HSb2.out).mono ?_
        rw [HQ.out.val]
        rintro e w3 ⟨v3, rfl, hown3, hb3⟩
        have HO3 := hid hown3
        have HB3 := hid (HBe.out.trans (hb3.mono hz))
        have HRx3 := hid (HRx.out.on hb3)
        have HOw3 := hid (own_on HOw.out hb3)
        obtain ⟨M, hM⟩ : ∃ l, varsT h t2 = l := ⟨_, rfl⟩
        rw [hM] at HO3 HVl HFs hown3
        obtain ⟨s3, c3, hv⟩ := own_slice hown3
        subst hv
        clear hown3 hb3 hM q0 q1 q2 q3 d3
        go_wp2_with fail
        refine (joined_c L M _ _ _ (SRd.of_own HOw3.out) (SRd.of_own HO3.out) (by have := HLen.out; have := HSn.out; have := HSl.out; have := HSz.out; have := HSb.out; omega) (by have := HVl.out; have := HSb2.out; omega)).mono ?_
        rintro e w4 ⟨v4, rfl, hown4, hb4⟩
        have HO4 := hid (own_mono hown4 HB3.out.size)
        have HB4 := hid (HB3.out.trans (hb4.mono HB3.out.size))
        have HRx4 := hid (HRx3.out.on hb4)
        have HJl := hid (join_len M L)
        clear hown4 hb4
        go_wp2_with fail
        go_roundw
        case rel => exact ⟨k + 1, by go_num, by omega, by rw [HFs.out]; exact HO4.out, by rw [HFs.out]; have := HJl.out; have := HLen.out; have := HVl.out; have := HSn.out; omega, HRx4.out, HB4.out⟩
        case measure => simp [intOf]; omega
      · obtain rfl : k = ks.length := by omega
        rw [List.take_length] at HOw hown
        obtain ⟨so, co, hv⟩ := own_slice hown
        subst hv
        clear hown hbel
        go_wp2_with fail
        go_ret
        exact ⟨_, rfl, by rw [HV1.out]; exact HOw.out, HBe.out⟩
set_option maxHeartbeats 2000000 in
theorem sTermVars_c (n : Nat) (t : Tm) (kv : Value) (w : World) (hr : KRd w n kv t.kids) (hw : t.wide ≤ 1048576) :
    Calls Tryd.prog 28 #[tmVal t kv] w (SPost (if termOk t then varsT 14 t else []) w) := by
  have HR := hid hr
  have HWd := hid hw
  obtain ⟨a, cap, rfl⟩ := hr.slice
  clear hr hw
  obtain ⟨x0, x1, x2, lk, hp⟩ := Pt.of t
  rw [hp.val]
  have HP := hid hp
  rw [hp.l] at HR ⊢
  clear hp
  have HB0 := hid ((Below.refl w.heap.size w).alloc (Nat.le_refl _) (.cells #[.int .i64 x0, .int .i64 x1, .string x2, .slice a lk cap] 28))
  have HX0 := hid (Row.new w 28 #[.int .i64 x0, .int .i64 x1, .string x2, .slice a lk cap])
  cases hok : termOk t
  · have HOk := hid hok
    clear hok
    go_enter Tryd.func28, Tryd.ntmps28
    go_wp2_with fail
    refine (validTerm_v HP.out (HR.out.on HB0.out) HWd.out HOk.out).mono ?_
    rintro e w1 ⟨rfl, hb1⟩
    have HB1 := hid (HB0.out.trans (hb1.mono HB0.out.size))
    clear hb1
    go_wp2_with fail
    go_ret
    exact ⟨_, rfl, ⟨by simp [strs], .inl ⟨rfl, rfl⟩⟩, HB1.out⟩
  have HOk := hid hok
  obtain ⟨hsh, hsz⟩ := termOk_bd hok
  have HSh := hid hsh
  have HSz := hid hsz
  clear hok hsh hsz
  go_enter Tryd.func28, Tryd.ntmps28
  go_wp2_with fail
  refine (validTerm_v HP.out (HR.out.on HB0.out) HWd.out HOk.out).mono ?_
  rintro e w1 ⟨rfl, hb1⟩
  have HB1 := hid (HB0.out.trans (hb1.mono HB0.out.size))
  have HX1 := hid (HX0.out.on hb1)
  clear hb1
  have d0 := HX1.out.cell 0
  have d1 := HX1.out.cell 1
  have d2 := HX1.out.cell 2
  have d3 := HX1.out.cell 3
  simp at d0 d1 d2 d3
  go_wp2_with fail
  rw [← HP.out.val]
  refine (sVars_c 14 n t _ _ (HR.out.on HB1.out) HWd.out HSh.out (by have := HSz.out; omega)).mono ?_
  rw [HP.out.val]
  rintro e w2 ⟨v, rfl, hown, hb2⟩
  have HO2 := hid (own_mono hown (by have := HB1.out.size; omega : w.heap.size ≤ w1.heap.size))
  have HB2 := hid (HB1.out.trans (hb2.mono HB1.out.size))
  obtain ⟨s1, c1, rfl⟩ := own_slice hown
  obtain ⟨l, hl⟩ : ∃ l, varsT 14 t = l := ⟨_, rfl⟩
  have HEl := hid hl
  rw [hl] at HO2 ⊢
  clear hown hb2 hl
  go_wp2_with fail
  go_ret
  exact ⟨.slice s1 l.length c1, rfl, by rw [HEl.out]; exact HO2.out, HB2.out⟩
end Go.Proofs.YtffibmlgdacafaaDoor.Um
