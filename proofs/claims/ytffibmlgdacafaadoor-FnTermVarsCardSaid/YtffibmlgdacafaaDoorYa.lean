/- Terms that were drawn, plainly: what is left of variables that were put away, the value of what was put, and that of a condition. No call is spoken of here. -/
import Derived.Test.YtffibmlgdacafaaDoorVs
import Derived.Test.YtffibmlgdacafaaDoorUq
import Derived.Test.YtffibmlgdacafaaDoorUw
import Derived.Test.YtffibmlgdacafaaDoorVi
set_option linter.unusedSimpArgs false
set_option linter.unusedVariables false
namespace Go.Proofs.YtffibmlgdacafaaDoor.Um
open Go.RowKit Pl Ft Mm In C2 Im C1

theorem mem_fold_join {f : Tm → List ByteArray} (x : ByteArray) : ∀ (ks : List Tm) (a : List ByteArray), x ∈ ks.foldl (fun out k => joinT out (f k)) a ↔ x ∈ a ∨ ∃ k ∈ ks, x ∈ f k
  | [], a => by simp
  | k :: ks, a => by
    rw [List.foldl_cons, mem_fold_join x ks, mem_join]
    constructor
    · rintro ((h | h) | ⟨j, hj, h⟩)
      · exact .inl h
      · exact .inr ⟨k, by simp, h⟩
      · exact .inr ⟨j, by simp [hj], h⟩
    · rintro (h | ⟨j, hj, h⟩)
      · exact .inl (.inl h)
      · rcases List.mem_cons.1 hj with rfl | hj
        · exact .inl (.inr h)
        · exact .inr ⟨j, hj, h⟩
theorem getD_mem {l : List Tm} {t : Tm} (h : t ∈ l) : ∃ j, j < l.length ∧ l.getD j tz = t := by
  obtain ⟨j, hj, rfl⟩ := List.mem_iff_getElem.1 h
  exact ⟨j, hj, by simp [hj]⟩
theorem var_form {t : Tm} (hf : t.form = true) (hk : t.kind = 1) : freeName t.text = true ∧ t.kids = [] := by
  unfold Tm.form formOf at hf
  rw [if_neg (by omega), if_pos hk] at hf
  simp only [Bool.and_eq_true, beq_iff_eq] at hf
  exact ⟨hf.2.1, List.eq_nil_of_length_eq_zero hf.2.2⟩
theorem vars_free : ∀ (h : Nat) (t : Tm), shape h t = true → ∀ s ∈ varsT h t, freeName s = true
  | 0, _, hs, _, _ => by simp [shape] at hs
  | h + 1, t, hs, s, hm => by
    obtain ⟨hf, hks⟩ := shape_at hs
    unfold varsT at hm
    split at hm
    · rename_i hk
      obtain rfl : s = t.text := by simpa using hm
      exact (var_form hf hk).1
    · rw [mem_fold_join] at hm
      rcases hm with hm | ⟨k, hk, hm⟩
      · cases hm
      · obtain ⟨j, hj, rfl⟩ := getD_mem hk
        exact vars_free h _ (hks j hj) s hm
theorem put_shape (s : ByteArray) {n : Int} (hn : 0 ≤ n ∧ n ≤ 65535) : ∀ (h : Nat) (t : Tm), shape h t = true → shape h (putT s (nT n) h t) = true
  | 0, _, hs => by simp [shape] at hs
  | h + 1, t, hs => by
    obtain ⟨hf, hks⟩ := shape_at hs
    unfold putT
    split
    · exact nT_shape h hn
    · refine shape_yes ?_ (fun j hj => ?_)
      · unfold Tm.form
        simp only [Tm.kind, Tm.num, Tm.text, Tm.kids, List.length_map]
        exact hf
      · have hj2 : j < t.kids.length := by simpa [Tm.kids] using hj
        show shape h ((t.kids.map (putT s (nT n) h)).getD j tz) = true
        rw [getD_map _ _ _ hj2]
        exact put_shape s hn h _ (hks j hj2)
theorem sizes_same (f : Tm → Tm) : ∀ (l : List Tm), (∀ j, j < l.length → (f (l.getD j tz)).size = (l.getD j tz).size) → sizes (l.map f) = sizes l
  | [], _ => rfl
  | t :: l, h => by
    have h0 := h 0 (by simp)
    have h1 := sizes_same f l (fun j hj => by have := h (j + 1) (by simpa using hj); simpa using this)
    simp only [List.getD_cons_zero] at h0
    rw [List.map_cons, sizes_cons, sizes_cons, h0, h1]
theorem put_size (s : ByteArray) (n : Int) : ∀ (h : Nat) (t : Tm), shape h t = true → (putT s (nT n) h t).size = t.size
  | 0, _, hs => by simp [shape] at hs
  | h + 1, t, hs => by
    obtain ⟨hf, hks⟩ := shape_at hs
    unfold putT
    split
    · rename_i hk
      rw [nT_size, size_eq, (var_form hf hk.1).2]
      rfl
    · rw [size_eq, size_eq t]
      show 1 + sizes (t.kids.map _) = _
      rw [sizes_same _ _ (fun j hj => put_size s n h _ (hks j hj))]
theorem put_gone (s : ByteArray) (n : Int) : ∀ (h : Nat) (t : Tm), s ∉ varsT h (putT s (nT n) h t)
  | 0, _ => by simp [varsT]
  | h + 1, t => by
    unfold putT
    split
    · have : varsT (h + 1) (nT n) = [] := by unfold varsT; rw [if_neg (by simp [nT, Tm.kind])]; rfl
      rw [this]
      simp
    · rename_i hne
      unfold varsT
      show s ∉ (if t.kind = 1 then [t.text] else (t.kids.map (putT s (nT n) h)).foldl (fun out k => joinT out (varsT h k)) [])
      split
      · rename_i hk
        intro hm
        exact hne ⟨hk, (by simpa using hm : s = t.text).symm⟩
      · rw [mem_fold_join]
        rintro (hm | ⟨k, hk, hm⟩)
        · cases hm
        · obtain ⟨t', _, rfl⟩ := List.mem_map.1 hk
          exact put_gone s n h t' hm
/-- What is met first may be put away, and is there no more. -/
theorem vars_put {t : Tm} {s : ByteArray} (ht : termOk t = true) (hm : s ∈ varsT 14 t) : putOk t s (nT 1) = true ∧ termOk (putR t s (nT 1)) = true ∧ s ∉ varsT 14 (putR t s (nT 1)) := by
  obtain ⟨hs, hz⟩ := termOk_bd ht
  have h1 : termOk (nT 1) = true := by
    unfold termOk
    rw [nT_shape 13 (by omega), nT_size]
    rfl
  have h2 : termOk (putT s (nT 1) 14 t) = true := by
    unfold termOk
    rw [put_shape s (by omega) 14 t hs, put_size s 1 14 t hs]
    simpa using hz
  have hok : putOk t s (nT 1) = true := by
    unfold putOk
    rw [ht, vars_free 14 t hs s hm, h1, h2]
    rfl
  refine ⟨hok, ?_, ?_⟩
  · unfold putR; rw [hok]; exact h2
  · unfold putR; rw [hok]; exact put_gone s 1 14 t
theorem allV_congr {f g : Tm → Option Int} : ∀ (l : List Tm), (∀ j, j < l.length → f (l.getD j tz) = g (l.getD j tz)) → allV f l = allV g l
  | [], _ => rfl
  | t :: l, h => by
    have h0 := h 0 (by simp)
    have h1 := allV_congr l (fun j hj => by have := h (j + 1) (by simpa using hj); simpa using this)
    simp only [List.getD_cons_zero] at h0
    unfold allV
    rw [h0, h1]
theorem allV_map {f : Tm → Option Int} {p : Tm → Tm} : ∀ (l : List Tm), allV f (l.map p) = allV (fun t => f (p t)) l
  | [] => rfl
  | t :: l => by
    rw [List.map_cons]
    unfold allV
    rw [allV_map l]
theorem val_up (vars : List Nm) (mem : List Int) : ∀ (h g : Nat) (t : Tm), shape h t = true → h ≤ g → valT vars mem g t = valT vars mem h t
  | 0, _, _, hs, _ => by simp [shape] at hs
  | h + 1, 0, _, _, hg => by omega
  | h + 1, g + 1, t, hs, hg => by
    obtain ⟨_, hks⟩ := shape_at hs
    unfold valT
    rw [allV_congr t.kids (fun j hj => val_up vars mem h g _ (hks j hj) (by omega))]
theorem varIn_snoc (l : List Nm) (v : Nm) (s : ByteArray) : varIn (l ++ [v]) s = if v.text = s then v.at_ else varIn l s := by
  unfold varIn
  rw [List.reverse_append, List.reverse_singleton, List.singleton_append, List.find?_cons]
  by_cases h : v.text = s
  · subst h
    rw [if_pos rfl]
    simp
  · have : (v.text.toList == s.toList) = false := by
      rw [same_text]
      exact decide_eq_false (fun e => h e.symm)
    rw [this, if_neg h]
theorem combine_snoc {vars : List Nm} {mem : List Int} {v : Nm} {t : Tm} (h : ¬ (t.kind = 1 ∧ t.text = v.text)) (xs : List Int) : combine (vars ++ [v]) mem t xs = combine vars mem t xs := by
  unfold combine
  split
  · rfl
  · split
    · rename_i hk
      rw [varIn_snoc, if_neg (fun e => h ⟨hk, e.symm⟩)]
    · rfl
theorem val_put {vars : List Nm} {mem : List Int} {x : Tm} {hx : Nat} {a : Int} (sx : shape hx x = true) (hv : valT vars mem hx x = some a) (s : ByteArray) : ∀ (h : Nat) (t : Tm), shape h t = true → valT vars mem (h + hx) (putT s x h t) = valT (vars ++ [⟨s, a⟩]) mem h t
  | 0, _, hs => by simp [shape] at hs
  | h + 1, t, hs => by
    obtain ⟨hf, hks⟩ := shape_at hs
    unfold putT
    split
    · rename_i hk
      obtain ⟨hk1, hk2⟩ := hk
      rw [val_up vars mem hx (h + 1 + hx) x sx (by omega), hv]
      unfold valT
      rw [(var_form hf hk1).2]
      show some a = combine _ mem t []
      unfold combine
      rw [if_neg (by omega), if_pos hk1, varIn_snoc, if_pos hk2.symm]
    · rename_i hk
      rw [show h + 1 + hx = (h + hx) + 1 by omega]
      unfold valT
      show (allV _ (t.kids.map (putT s x h))).bind (combine vars mem (.mk t.kind t.num t.text (t.kids.map (putT s x h)))) = _
      rw [allV_map, allV_congr t.kids (fun j hj => val_put sx hv s h _ (hks j hj))]
      congr 1
      funext xs
      rw [combine_snoc (v := ⟨s, a⟩) (by exact hk)]
      rfl
/-- The value of what was put is that with one variable more. -/
theorem put_value {vars : List Nm} {mem : List Int} {t x : Tm} {s : ByteArray} {a : Int} (hok : putOk t s x = true) (hv : valT vars mem 14 x = some a) : valT vars mem 14 (putR t s x) = valT (vars ++ [⟨s, a⟩]) mem 14 t := by
  have h := hok
  unfold putOk at h
  simp only [Bool.and_eq_true] at h
  obtain ⟨ht, _, hx, hp⟩ := h
  have hr : putR t s x = putT s x 14 t := by unfold putR; rw [hok]; rfl
  rw [hr, ← val_put (termOk_bd hx).1 hv s 14 t (termOk_bd ht).1]
  exact (val_up vars mem 14 28 _ (termOk_bd hp).1 (by omega)).symm
theorem opVal_eq (a b : Int) : opVal eqS a b = if hol 0 (fEq a b) (fLess a b) (fLow a b) then 1 else 0 := by
  rw [show eqS = (oprs.getD 6 .none).text from rfl, opVal_lit (by omega)]; rfl
theorem opVal_lt (a b : Int) : opVal ltS a b = if hol 2 (fEq a b) (fLess a b) (fLow a b) then 1 else 0 := by
  rw [show ltS = (oprs.getD 7 .none).text from rfl, opVal_lit (by omega)]; rfl
theorem opVal_lo (a b : Int) : opVal loS a b = if hol 4 (fEq a b) (fLess a b) (fLow a b) then 1 else 0 := by
  rw [show loS = (oprs.getD 8 .none).text from rfl, opVal_lit (by omega)]; rfl
theorem val_bin {vars : List Nm} {mem : List Int} {a b : Tm} {s : ByteArray} {x y : Int} (h : Nat) (hx : valT vars mem h a = some x) (hy : valT vars mem h b = some y) : valT vars mem (h + 1) (binT a s b) = some (opVal s x y) := by
  unfold valT
  show (allV _ [a, b]).bind _ = _
  simp only [allV, hx, hy, Option.bind_some, Option.map_some]
  rfl
theorem val_not {vars : List Nm} {mem : List Int} {a : Tm} {x : Int} (h : Nat) (hx : valT vars mem h a = some x) : valT vars mem (h + 1) (notT a) = some (if x = 0 then 1 else 0) := by
  unfold valT
  show (allV _ [a]).bind _ = _
  simp only [allV, hx, Option.bind_some, Option.map_some]
  rfl
/-- The value of the term of a condition is 1 just where it holds. -/
theorem cond_value {vars : List Nm} {mem : List Int} {c : Int} {a b : Tm} {x y : Int} (hok : condOk c a b = true) (hx : valT vars mem 14 a = some x) (hy : valT vars mem 14 b = some y) : ∃ n, valT vars mem 14 (condR c a b) = some n ∧ (n == 1) = hol c (fEq x y) (fLess x y) (fLow x y) := by
  obtain ⟨r, hr⟩ : ∃ r, condT c a b = some r := by
    cases h : condT c a b with
    | none => unfold condOk at hok; rw [h] at hok; cases hok
    | some r => exact ⟨r, rfl⟩
  have hrok : termOk r = true := by unfold condOk at hok; rw [hr] at hok; exact hok
  have hR : condR c a b = r := by unfold condR; rw [hr]; simp [hrok]
  rw [hR]
  have hs := (termOk_bd hrok).1
  have hbin : ∀ s, r = binT a s b → valT vars mem 14 r = some (opVal s x y) := by
    rintro s rfl
    obtain ⟨_, hk⟩ := shape_at (h := 13) hs
    have ha := hk 0 (by simp [binT, Tm.kids])
    have hb := hk 1 (by simp [binT, Tm.kids])
    simp only [binT, Tm.kids, List.getD_cons_zero, List.getD_cons_succ] at ha hb
    exact val_bin 13 ((val_up vars mem 13 14 a ha (by omega)).symm.trans hx) ((val_up vars mem 13 14 b hb (by omega)).symm.trans hy)
  have hnot : ∀ s, r = notT (binT a s b) → valT vars mem 14 r = some (if opVal s x y = 0 then 1 else 0) := by
    rintro s rfl
    obtain ⟨_, hk⟩ := shape_at (h := 13) hs
    have h1 := hk 0 (by simp [notT, Tm.kids])
    simp only [notT, Tm.kids, List.getD_cons_zero] at h1
    obtain ⟨_, hk⟩ := shape_at (h := 12) h1
    have ha := hk 0 (by simp [binT, Tm.kids])
    have hb := hk 1 (by simp [binT, Tm.kids])
    simp only [binT, Tm.kids, List.getD_cons_zero, List.getD_cons_succ] at ha hb
    exact val_not 13 (val_bin 12 ((val_up vars mem 12 14 a ha (by omega)).symm.trans hx) ((val_up vars mem 12 14 b hb (by omega)).symm.trans hy))
  unfold condT at hr
  repeat' split at hr
  all_goals first | (cases hr; done) | skip
  all_goals rename_i hc; subst hc
  · refine ⟨_, hbin _ (Option.some.inj hr).symm, ?_⟩; rw [opVal_eq]; cases hol 0 (fEq x y) (fLess x y) (fLow x y) <;> rfl
  · refine ⟨_, hnot _ (Option.some.inj hr).symm, ?_⟩; rw [opVal_eq]; show _ = !hol 0 (fEq x y) (fLess x y) (fLow x y); cases hol 0 (fEq x y) (fLess x y) (fLow x y) <;> rfl
  · refine ⟨_, hbin _ (Option.some.inj hr).symm, ?_⟩; rw [opVal_lt]; cases hol 2 (fEq x y) (fLess x y) (fLow x y) <;> rfl
  · refine ⟨_, hnot _ (Option.some.inj hr).symm, ?_⟩; rw [opVal_lt]; show _ = !hol 2 (fEq x y) (fLess x y) (fLow x y); cases hol 2 (fEq x y) (fLess x y) (fLow x y) <;> rfl
  · refine ⟨_, hbin _ (Option.some.inj hr).symm, ?_⟩; rw [opVal_lo]; cases hol 4 (fEq x y) (fLess x y) (fLow x y) <;> rfl
  · refine ⟨_, hnot _ (Option.some.inj hr).symm, ?_⟩; rw [opVal_lo]; show _ = !hol 4 (fEq x y) (fLess x y) (fLow x y); cases hol 4 (fEq x y) (fLess x y) (fLow x y) <;> rfl
end Go.Proofs.YtffibmlgdacafaaDoor.Um
