/- Simpler terms, plainly: the rules, how often they are for a term, and what they leave as it was. No call is spoken of here. -/
import Derived.Test.YtffibmlgdacafaaDoorUj
import Derived.Test.YtffibmlgdacafaaDoorUi
import Derived.Test.YtffibmlgdacafaaDoorBase
set_option linter.unusedSimpArgs false
set_option linter.unusedVariables false
namespace Go.Proofs.YtffibmlgdacafaaDoor.Um
open Go.RowKit Pl Ft Mm In C2 Im

def nT (n : Int) : Tm := .mk 0 n ⟨#[]⟩ []
def binT (a : Tm) (s : ByteArray) (b : Tm) : Tm := .mk 2 0 s [a, b]
def notT (a : Tm) : Tm := .mk 3 0 ⟨#[]⟩ [a]
def opIs (s : ByteArray) (l : List (List UInt8)) : Bool := l.contains s.data.toList
/-- Whether a term asks for no memory. -/
def Tm.plain : Tm → Bool
  | .mk k _ _ l => !(k == 4) && (!(k == 5) && (l.map Tm.plain).all id)
theorem plain_eq (t : Tm) : t.plain = (!(t.kind == 4) && (!(t.kind == 5) && t.kids.all Tm.plain)) := by
  cases t with
  | mk k n s l => rw [Tm.plain]; simp [Tm.kind, Tm.kids, List.all_map, Function.comp_def]
def truthT (t : Tm) : Bool := t.kind == 3 || (t.kind == 2 && opIs t.text [[61, 61], [60], [60, 60]] || t.kind == 0 && decide (t.num ≤ 1))
/-- What an operator makes of two same plain terms. -/
def twiceT (a : Tm) (s : ByteArray) : Option Tm :=
  if opIs s [[45], [94], [60], [60, 60]] then some (nT 0) else if opIs s [[61, 61]] then some (nT 1) else if opIs s [[38], [124]] then some a else none
/-- What an operator makes of a term that is no word, and a word. -/
def rightT (a : Tm) (s : ByteArray) (n : Int) : Option Tm :=
  if (n = 0 ∧ opIs s [[43], [45], [124], [94]] = true) ∨ (n = 1 ∧ opIs s [[42]] = true) ∨ (n = 65535 ∧ opIs s [[38]] = true) then some a
  else if n = 0 ∧ opIs s [[42], [38], [60, 60]] = true ∧ a.plain = true then some (nT 0)
  else if n = 65535 ∧ opIs s [[124]] = true ∧ a.plain = true then some (nT 65535)
  else if n = 0 ∧ opIs s [[61, 61]] = true ∧ truthT a = true then some (notT a)
  else if n = 1 ∧ opIs s [[61, 61]] = true ∧ truthT a = true then some a
  else if opIs s [[45]] then some (binT a ⟨#[43]⟩ (nT ((-n) % 65536)))
  else if opIs s [[43]] = true ∧ a.kind = 2 ∧ opIs a.text [[43]] = true ∧ (a.kids.getD 1 tz).kind = 0 then some (binT (a.kids.getD 0 tz) ⟨#[43]⟩ (nT (((a.kids.getD 1 tz).num + n) % 65536)))
  else none
def onceBin (same : Bool) (a : Tm) (s : ByteArray) (b : Tm) : Option Tm :=
  if a.kind = 0 ∧ b.kind = 0 then some (nT (opVal s a.num b.num))
  else if a.kind = 0 ∧ opIs s [[43], [42], [38], [124], [94], [61, 61]] = true then some (binT b s a)
  else if b.kind = 0 then rightT a s b.num
  else if a.plain = true ∧ same = true then twiceT a s
  else none
def onceNot (a : Tm) : Option Tm :=
  if a.kind = 0 then some (nT (if a.num = 0 then 1 else 0))
  else if a.kind = 3 ∧ truthT (a.kids.getD 0 tz) = true then some (a.kids.getD 0 tz)
  else none
/-- What the first rule that is for a term makes of it. -/
def onceT (t : Tm) : Option Tm :=
  if t.kind = 2 then onceBin (sameT 14 (t.kids.getD 0 tz) (t.kids.getD 1 tz)) (t.kids.getD 0 tz) t.text (t.kids.getD 1 tz)
  else if t.kind = 3 then onceNot (t.kids.getD 0 tz)
  else none
def rulesT : Nat → Tm → Tm
  | 0, t => t
  | f + 1, t => match onceT t with
    | none => t
    | some r => rulesT f r
/-- What gets less by each rule. -/
def meas (t : Tm) : Nat := 4 * t.size + ((if t.kind = 2 ∧ (t.kids.getD 0 tz).kind = 0 then 1 else 0) + (if opIs t.text [[45]] = true then 1 else 0))
def finT (t : Tm) : Tm := rulesT (meas t) t
def Tm.fold : Tm → Tm
  | .mk k n s l => finT (.mk k n s (l.map Tm.fold))
theorem fold_eq (t : Tm) : t.fold = finT (.mk t.kind t.num t.text (t.kids.map Tm.fold)) := by cases t; rw [Tm.fold]; rfl
theorem shape_up : ∀ {h g : Nat} {t : Tm}, shape h t = true → h ≤ g → shape g t = true
  | 0, _, _, hs, _ => by simp [shape] at hs
  | h + 1, 0, _, _, hg => by omega
  | h + 1, g + 1, t, hs, hg => by
    obtain ⟨hf, hk⟩ := shape_at hs
    exact shape_yes hf (fun j hj => shape_up (hk j hj) (by omega))
theorem isW_of {n : Int} (h : 0 ≤ n ∧ n ≤ 65535) : isW n = true := by simp [isW]; omega
theorem nT_shape {n : Int} (h : Nat) (hn : 0 ≤ n ∧ n ≤ 65535) : shape (h + 1) (nT n) = true := by
  refine shape_yes ?_ (fun j hj => by simp [nT, Tm.kids] at hj)
  have : inR 5 n = true := by simp [inR, show lo 5 = 0 from rfl, show hi 5 = 65535 from rfl]; omega
  simp [Tm.form, formOf, nT, Tm.kind, Tm.num, Tm.text, Tm.kids, this, noText, ByteArray.toList_eq]
theorem notT_shape {a : Tm} {h : Nat} (ha : shape h a = true) : shape (h + 1) (notT a) = true := by
  refine shape_yes ?_ (fun j hj => ?_)
  · simp [Tm.form, formOf, notT, Tm.kind, Tm.num, Tm.text, Tm.kids, noText, ByteArray.toList_eq]
  · have hj0 : j = 0 := by simpa [notT, Tm.kids] using hj
    subst hj0
    exact ha
theorem binT_shape {a b : Tm} {s : ByteArray} {h : Nat} (ho : isOp s = true) (ha : shape h a = true) (hb : shape h b = true) : shape (h + 1) (binT a s b) = true := by
  refine shape_yes ?_ (fun j hj => ?_)
  · simp [Tm.form, formOf, binT, Tm.kind, Tm.num, Tm.text, Tm.kids, ho]
  · have hj2 : j = 0 ∨ j = 1 := by simp [binT, Tm.kids] at hj; omega
    rcases hj2 with rfl | rfl
    · exact ha
    · exact hb
theorem nT_size (n : Int) : (nT n).size = 1 := by rw [size_eq]; rfl
theorem notT_size (a : Tm) : (notT a).size = 1 + a.size := by rw [size_eq, notT]; simp [Tm.kids, sizes_cons, sizes_nil]
theorem binT_size (a : Tm) (s : ByteArray) (b : Tm) : (binT a s b).size = 1 + (a.size + b.size) := by rw [size_eq, binT]; simp [Tm.kids, sizes_cons, sizes_nil]
theorem num_of {h : Nat} {a : Tm} (hs : shape h a = true) (hk : a.kind = 0) : 0 ≤ a.num ∧ a.num ≤ 65535 := by
  cases h with
  | zero => simp [shape] at hs
  | succ h =>
    have hf := (shape_at hs).1
    rcases form_casesP hf with ⟨_, h1, h2, _⟩ | ⟨h0, _⟩ | ⟨h0, _⟩ | ⟨h0, _⟩ | ⟨h0, _⟩ | ⟨h0, _⟩
    all_goals first | omega | exact ⟨h1, h2⟩
/-- What a rule makes of a term is one, not higher, not greater, and less. -/
structure Less (h : Nat) (t r : Tm) : Prop where
  shape : shape h r = true
  size : r.size ≤ t.size
  meas : meas r < meas t
theorem meas_le (t : Tm) : 4 * t.size ≤ meas t ∧ meas t ≤ 4 * t.size + 2 := by
  unfold meas
  split <;> split <;> omega
theorem less_of {h : Nat} {t r : Tm} (hs : shape h r = true) (hz : r.size < t.size) : Less h t r :=
  ⟨hs, by omega, by have := meas_le t; have := meas_le r; omega⟩
theorem bin_form {t : Tm} (hf : t.form = true) (hk : t.kind = 2) : t.kids.length = 2 ∧ isOp t.text = true ∧ t.size = 1 + ((t.kids.getD 0 tz).size + (t.kids.getD 1 tz).size) := by
  rcases form_casesP hf with ⟨h0, _⟩ | ⟨h0, _⟩ | ⟨h0, a, b, h3⟩ | ⟨h0, _⟩ | ⟨h0, _⟩ | ⟨h0, _⟩
  all_goals first | omega | skip
  have hl : t.kids.length = 2 := by rw [h3]; rfl
  unfold Tm.form formOf at hf
  rw [hk, hl] at hf
  simp at hf
  refine ⟨hl, hf.2, ?_⟩
  rw [size_eq, h3]
  simp [sizes_cons, sizes_nil]
theorem not_form {t : Tm} (hf : t.form = true) (hk : t.kind = 3) : t.kids.length = 1 ∧ t.size = 1 + (t.kids.getD 0 tz).size := by
  rcases form_casesP hf with ⟨h0, _⟩ | ⟨h0, _⟩ | ⟨h0, _⟩ | ⟨h0, a, h3⟩ | ⟨h0, _⟩ | ⟨h0, _⟩
  all_goals first | omega | skip
  refine ⟨by rw [h3]; rfl, ?_⟩
  rw [size_eq, h3]
  simp [sizes_cons, sizes_nil]
theorem isOp_plus : isOp ⟨#[43]⟩ = true := by simp [isOp, opTexts, ByteArray.toList_eq]
theorem plus_no {a b : Tm} : ¬ opIs (binT a ⟨#[43]⟩ b).text [[45]] = true := by simp [binT, Tm.text, opIs]
theorem twice_less {h : Nat} {t a b : Tm} {r : Tm} {s : ByteArray} (h1 : 1 ≤ h) (ha : shape h a = true) (hz : t.size = 1 + (a.size + b.size)) (he : twiceT a s = some r) : Less h t r := by
  obtain ⟨g, rfl⟩ : ∃ g, h = g + 1 := ⟨h - 1, by omega⟩
  have pa := size_pos a
  have pb := size_pos b
  unfold twiceT at he
  split at he
  · cases he; exact less_of (nT_shape g (by omega)) (by rw [nT_size]; omega)
  · split at he
    · cases he; exact less_of (nT_shape g (by omega)) (by rw [nT_size]; omega)
    · split at he
      · cases he; exact less_of ha (by omega)
      · cases he
theorem right_less {h : Nat} {a b : Tm} {r : Tm} {t : Tm} (ha : shape h a = true) (hb : b.size = 1) (hk : t.kind = 2) (hk0 : t.kids.getD 0 tz = a) (hz : t.size = 1 + (a.size + b.size)) (ha0 : ¬ a.kind = 0) (he : rightT a t.text b.num = some r) (hbn : 0 ≤ b.num ∧ b.num ≤ 65535) : Less (h + 1) t r := by
  have pa := size_pos a
  unfold rightT at he
  split at he
  · cases he; exact less_of (shape_up ha (by omega)) (by omega)
  · split at he
    · cases he; exact less_of (nT_shape h (by omega)) (by rw [nT_size]; omega)
    · split at he
      · cases he; exact less_of (nT_shape h (by omega)) (by rw [nT_size]; omega)
      · split at he
        · cases he; exact less_of (notT_shape ha) (by rw [notT_size]; omega)
        · split at he
          · cases he; exact less_of (shape_up ha (by omega)) (by omega)
          · cases h with
            | zero => simp [shape] at ha
            | succ g =>
              split at he
              · rename_i hm
                cases he
                refine ⟨binT_shape isOp_plus ha (nT_shape g (by omega)), by rw [binT_size, nT_size]; omega, ?_⟩
                unfold meas
                rw [hk0, if_pos hm, binT_size, nT_size, if_neg (show ¬ (t.kind = 2 ∧ a.kind = 0) from fun h => ha0 h.2), if_neg (show ¬ ((binT a ⟨#[43]⟩ (nT ((-b.num) % 65536))).kind = 2 ∧ ((binT a ⟨#[43]⟩ (nT ((-b.num) % 65536))).kids.getD 0 tz).kind = 0) from fun h => ha0 h.2), if_neg plus_no]
                omega
              · split at he
                · rename_i hm
                  cases he
                  obtain ⟨_, hk2, _, hk3⟩ := hm
                  obtain ⟨hf, hks⟩ := shape_at ha
                  obtain ⟨hl, ho, hz2⟩ := bin_form hf hk2
                  have := size_pos (a.kids.getD 1 tz)
                  exact less_of (binT_shape isOp_plus (shape_up (hks 0 (by omega)) (by omega)) (nT_shape g (by omega))) (by rw [binT_size, nT_size]; omega)
                · cases he
theorem once_less {h : Nat} {t r : Tm} (hs : shape h t = true) (he : onceT t = some r) : Less h t r := by
  cases h with
  | zero => simp [shape] at hs
  | succ h =>
  obtain ⟨hf, hks⟩ := shape_at hs
  unfold onceT at he
  split at he
  · rename_i hk
    obtain ⟨hl, ho, hz⟩ := bin_form hf hk
    have ha := hks 0 (by omega)
    have hb := hks 1 (by omega)
    obtain ⟨a, haa⟩ : ∃ a, t.kids.getD 0 tz = a := ⟨_, rfl⟩
    obtain ⟨b, hbb⟩ : ∃ b, t.kids.getD 1 tz = b := ⟨_, rfl⟩
    rw [haa] at ha hz he
    rw [hbb] at hb hz he
    have pa := size_pos a
    have pb := size_pos b
    have one : b.kind = 0 → b.size = 1 := fun hb0 => by
      cases h with
      | zero => simp [shape] at hb
      | succ g =>
        rcases form_casesP (shape_at hb).1 with ⟨_, _, _, h3⟩ | ⟨h0, _⟩ | ⟨h0, _⟩ | ⟨h0, _⟩ | ⟨h0, _⟩ | ⟨h0, _⟩
        all_goals first | omega | skip
        rw [size_eq, h3]; rfl
    unfold onceBin at he
    split at he
    · rename_i hab
      cases he
      exact less_of (nT_shape h (opVal_word ho (isW_of (num_of ha hab.1)) (isW_of (num_of hb hab.2)))) (by rw [nT_size]; omega)
    · rename_i hnn
      split at he
      · rename_i hab
        cases he
        have hb0 : ¬ b.kind = 0 := fun e => hnn ⟨hab.1, e⟩
        refine ⟨binT_shape ho hb ha, by rw [binT_size]; omega, ?_⟩
        unfold meas
        rw [haa, if_pos (show t.kind = 2 ∧ a.kind = 0 from ⟨hk, hab.1⟩), binT_size, if_neg (show ¬ ((binT b t.text a).kind = 2 ∧ ((binT b t.text a).kids.getD 0 tz).kind = 0) from fun h => hb0 h.2), hz]
        show 4 * _ + (0 + if opIs t.text [[45]] = true then 1 else 0) < _
        omega
      · rename_i hnt
        split at he
        · rename_i hb0
          exact right_less ha (one hb0) hk haa hz (fun e => hnn ⟨e, hb0⟩) he (num_of hb hb0)
        · split at he
          · exact twice_less (by omega) (shape_up ha (by omega)) hz he
          · cases he
  · split at he
    · rename_i hk
      obtain ⟨hl, hz⟩ := not_form hf hk
      have ha := hks 0 (by omega)
      obtain ⟨a, haa⟩ : ∃ a, t.kids.getD 0 tz = a := ⟨_, rfl⟩
      rw [haa] at ha hz he
      have pa := size_pos a
      unfold onceNot at he
      split at he
      · cases he
        exact less_of (nT_shape h (by split <;> omega)) (by rw [nT_size]; omega)
      · split at he
        · rename_i hm
          cases he
          cases h with
          | zero => simp [shape] at ha
          | succ g =>
            obtain ⟨hf2, hks2⟩ := shape_at ha
            obtain ⟨hl2, hz2⟩ := not_form hf2 hm.1
            exact less_of (shape_up (hks2 0 (by omega)) (by omega)) (by omega)
        · cases he
    · cases he
theorem rules_enough {h : Nat} : ∀ (m : Nat) (t : Tm) (f : Nat), shape h t = true → meas t ≤ m → meas t ≤ f → rulesT f t = rulesT (meas t) t := by
  intro m
  induction m with
  | zero => intro t f hs hm _; have := meas_le t; have := size_pos t; omega
  | succ m ih =>
    intro t f hs hm hf
    have h1 := meas_le t
    have h2 := size_pos t
    obtain ⟨g, rfl⟩ : ∃ g, f = g + 1 := ⟨f - 1, by omega⟩
    obtain ⟨k, hk⟩ : ∃ k, meas t = k + 1 := ⟨meas t - 1, by omega⟩
    rw [hk]
    unfold rulesT
    cases he : onceT t with
    | none => rfl
    | some r =>
      have hl := once_less hs he
      have hlm := hl.meas
      show rulesT g r = rulesT k r
      rw [ih r g hl.shape (by omega) (by omega), ih r k hl.shape (by omega) (by omega)]
theorem fin_some {h : Nat} {t r : Tm} (hs : shape h t = true) (he : onceT t = some r) : finT t = finT r := by
  have hl := once_less hs he
  have hlm := hl.meas
  obtain ⟨k, hk⟩ : ∃ k, meas t = k + 1 := ⟨meas t - 1, by have := meas_le t; have := size_pos t; omega⟩
  unfold finT
  rw [hk]
  show (match onceT t with | none => t | some r => rulesT k r) = _
  rw [he]
  exact rules_enough (meas r) r k hl.shape (Nat.le_refl _) (by omega)
theorem fin_none {t : Tm} (he : onceT t = none) : finT t = t := by
  unfold finT
  cases meas t with
  | zero => rfl
  | succ k => show (match onceT t with | none => t | some r => rulesT k r) = _; rw [he]
theorem fin_keep {h : Nat} : ∀ (m : Nat) (t : Tm), meas t ≤ m → shape h t = true → shape h (finT t) = true ∧ (finT t).size ≤ t.size := by
  intro m
  induction m with
  | zero => intro t hm _; have := meas_le t; have := size_pos t; omega
  | succ m ih =>
    intro t hm hs
    cases he : onceT t with
    | none => rw [fin_none he]; exact ⟨hs, Nat.le_refl _⟩
    | some r =>
      have hl := once_less hs he
      have hlm := hl.meas
      have hlz := hl.size
      rw [fin_some hs he]
      obtain ⟨h1, h2⟩ := ih r (by omega) hl.shape
      exact ⟨h1, by omega⟩
theorem sizes_map (f : Tm → Tm) : ∀ (l : List Tm), (∀ j, j < l.length → (f (l.getD j tz)).size ≤ (l.getD j tz).size) → sizes (l.map f) ≤ sizes l
  | [], _ => by simp [sizes_nil]
  | t :: l, h => by
    have h0 := h 0 (by simp)
    have h1 := sizes_map f l (fun j hj => by have := h (j + 1) (by simpa using hj); simpa using this)
    simp only [List.getD_cons_zero] at h0
    rw [List.map_cons, sizes_cons, sizes_cons]
    omega
theorem getD_map (f : Tm → Tm) (l : List Tm) (j : Nat) (hj : j < l.length) : (l.map f).getD j tz = f (l.getD j tz) := by simp [hj]
theorem fold_keep : ∀ (h : Nat) (t : Tm), shape h t = true → shape h t.fold = true ∧ t.fold.size ≤ t.size
  | 0, t, hs => by simp [shape] at hs
  | h + 1, t, hs => by
    obtain ⟨hf, hks⟩ := shape_at hs
    have hk := fun j hj => fold_keep h (t.kids.getD j tz) (hks j hj)
    have hs2 : shape (h + 1) (.mk t.kind t.num t.text (t.kids.map Tm.fold)) = true := by
      refine shape_yes ?_ (fun j hj => ?_)
      · unfold Tm.form
        simp only [Tm.kind, Tm.num, Tm.text, Tm.kids, List.length_map]
        exact hf
      · have hj2 : j < t.kids.length := by simpa [Tm.kids] using hj
        show shape h ((t.kids.map Tm.fold).getD j tz) = true
        rw [getD_map _ _ _ hj2]
        exact (hk j hj2).1
    obtain ⟨h1, h2⟩ := fin_keep _ _ (Nat.le_refl _) hs2
    rw [fold_eq]
    refine ⟨h1, Nat.le_trans h2 ?_⟩
    rw [size_eq, size_eq t]
    have := sizes_map Tm.fold t.kids (fun j hj => (hk j hj).2)
    show 1 + sizes (t.kids.map Tm.fold) ≤ _
    omega
end Go.Proofs.YtffibmlgdacafaaDoor.Um
