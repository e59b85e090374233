/- OrderOf and DominatesIn of the program. -/
import Derived.Test.YtbbhbjdpdhbjlaaGb
set_option linter.unusedSimpArgs false
set_option linter.unusedVariables false
namespace Go.Proofs.Ytbbhbjdpdhbjlaa.Ge
open Go.RowKit Pl Ft Mm In Gp

noncomputable def orderS (g : List (List Int)) : List Int := if okG g = true then natI (orderP (adj g)) else []
noncomputable def overS (g : List (List Int)) (a b : Int) : Bool := if okG g = true then decide (b ∈ natI (belowP (adj g) a)) else false
theorem orderS_len (g : List (List Int)) : (orderS g).length ≤ 30 := by
  unfold orderS
  split
  · rename_i h
    have h1 := order_len (adj_bd h)
    have h2 := okG_len h
    rw [natI_len]
    omega
  · simp
theorem sd_of {g : List (List Int)} {v vo : Value} {B : Nat} {w0 w : World} {lo : Nat} (hok : okG g = true) (h : GAt B w0 v g) (hb : Below w0.heap.size w0 w) (ho : w.ownsRow lo 3 1 vo (natI (orderP (adj g))).length (ints (natI (orderP (adj g))))) : Sd w v vo g := ⟨hok, ⟨B, h.on hb⟩, ⟨lo, ho⟩⟩
set_option maxRecDepth 100000 in
set_option maxHeartbeats 2000000 in
theorem orderOf_c (g : List (List Int)) (v : Value) (B : Nat) (w : World) (h : GAt B w v g) (hs : Sz g) :
    Calls Try.prog 19 #[v] w (WaysPost (orderS g) w) := by
  obtain ⟨sg, cg, rfl⟩ := h.slice
  have HG := hid h
  have HS := hid hs
  obtain ⟨os, hos⟩ : ∃ os, orderS g = os := ⟨_, rfl⟩
  have HOs := hid hos
  rw [hos]
  clear h hs hos
  go_enter Try.func19, Try.ntmps19
  go_wp2_with fail
  refine (searchedOf_c g _ B w HG.out HS.out).mono ?_
  rintro e w1 ⟨hb1, h⟩
  have HB1 := hid hb1
  rcases h with ⟨hok, rfl⟩ | ⟨hok, vo, rfl, hown⟩
  · have HO := hid (show os = [] by rw [← HOs.out, orderS, hok]; rfl)
    clear hok hb1
    go_wp2_with fail
    go_ret
    exact ⟨_, rfl, by rw [HO.out]; exact World.ownsRow_nil _ _ _ _, HB1.out.alloc HB1.out.size _⟩
  · have HO := hid (show natI (orderP (adj g)) = os by rw [← HOs.out, orderS, hok]; rfl)
    rw [HO.out] at hown
    have HOw := hid hown
    obtain ⟨s1, c1, rfl⟩ := own_slice hown
    clear hok hb1 hown
    go_wp2_with fail
    go_ret
    exact ⟨_, rfl, HOw.out.alloc _, HB1.out.alloc HB1.out.size _⟩
set_option maxRecDepth 100000 in
set_option maxHeartbeats 2000000 in
theorem dominatesIn_c (g : List (List Int)) (x y : Int) (v : Value) (B : Nat) (w : World) (h : GAt B w v g) (hs : Sz g) :
    Calls Try.prog 27 #[v, .int .i64 x, .int .i64 y] w fun e w' => e = .returned (.bool (overS g x y)) ∧ Below w.heap.size w w' := by
  obtain ⟨sg, cg, rfl⟩ := h.slice
  have HG := hid h
  have HS := hid hs
  obtain ⟨r, hr⟩ : ∃ r, overS g x y = r := ⟨_, rfl⟩
  have HR := hid hr
  rw [hr]
  clear h hs hr
  go_enter Try.func27, Try.ntmps27
  go_wp2_with fail
  refine (searchedOf_c g _ B w HG.out HS.out).mono ?_
  rintro e w1 ⟨hb1, h⟩
  have HB1 := hid hb1
  rcases h with ⟨hok, rfl⟩ | ⟨hok, vo, rfl, hown⟩
  · have HO := hid (show r = false by rw [← HR.out, overS, hok]; rfl)
    clear hok hb1
    go_wp2_with fail
    go_ret
    exact ⟨bool_eq HO.out.symm, HB1.out.alloc HB1.out.size _⟩
  · have HO := hid (show decide (y ∈ natI (belowP (adj g) x)) = r by rw [← HR.out, overS, hok]; rfl)
    have HSd := hid (sd_of hok HG.out hb1 hown)
    obtain ⟨so, co, rfl⟩ := own_slice hown
    clear hok hb1 hown
    have HB2 := hid (HB1.out.alloc HB1.out.size (.cells #[.slice sg g.length cg, .slice so (natI (orderP (adj g))).length co] 48))
    have HSd2 := hid (HSd.out.on ((Below.refl w1.heap.size w1).alloc (Nat.le_refl _) (.cells #[.slice sg g.length cg, .slice so (natI (orderP (adj g))).length co] 48)))
    go_wp2_with fail
    refine (isOver_c g x y _ _ _ HSd2.out).mono ?_
    rintro e w2 ⟨rfl, hb2⟩
    rw [HO.out]
    have HB3 := hid (HB2.out.trans (hb2.mono HB2.out.size))
    clear hb2
    go_wp2_with fail
    go_ret
    exact ⟨rfl, HB3.out⟩
end Go.Proofs.Ytbbhbjdpdhbjlaa.Ge
