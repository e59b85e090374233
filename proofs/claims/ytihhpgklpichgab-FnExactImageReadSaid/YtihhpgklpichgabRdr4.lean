/- ImageRead of the program. -/
import Derived.Test.YtihhpgklpichgabRdr3
import Derived.Test.YtihhpgklpichgabIm6
import Derived.Test.YtihhpgklpichgabIm9
set_option linter.unusedSimpArgs false
set_option linter.unusedVariables false
namespace Go.Proofs.Ytihhpgklpichgab.Im
open Go.RowKit Pl Ft Mm In C2

theorem res_cell_tmp {fn : Func} {p r : Tmp} {t : TypeId} (h : fn.results = #[.cell p t, .tmp r]) (tmps : Array Value) (w : World) (g : Nat) (cs : Array Value) (fs : Array Field)
    (hp : tmps.getD p undef = .pointer (some ⟨g, 0, none⟩)) (h1 : Row w g t cs) (hu : Try.prog.underlying t = some (.struct fs)) (hi : (Try.prog.info? t).map (·.size) = some cs.size) :
    (results fn tmps).run Try.prog w = .ok (.tuple #[.agg cs, tmps.getD r undef]) w := by
  have hp' : tmps[p]?.getD undef = .pointer (some ⟨g, 0, none⟩) := by simpa using hp
  simp [results, h, hp', asAddr, run_loadVar_row w g t t cs (0, 0) _ h1 hu rfl hi]
def zImg : Img := ⟨[], 0, 0, [], []⟩
def ReadPost (o : Option Img) (w : World) (e : Ending) (w' : World) : Prop :=
  ∃ vc vd vn, e = .returned (.tuple #[imgVal vc vd vn (o.getD zImg), .bool o.isSome]) ∧ IOwn w' w.heap.size vc vd vn (o.getD zImg) ∧ Below w.heap.size w w'
theorem iown_nil (w : World) (B : Nat) : IOwn w B (.slice none 0 0) (.slice none 0 0) (.slice none 0 0) zImg :=
  ⟨World.ownsRow_nil _ _ _ _, World.ownsRow_nil _ _ _ _, World.ownsRow_nil _ _ _ _, fun g h => by simp [Value.ownBlock] at h⟩
theorem readPost_no {o : Option Img} {w w' : World} (h : o = none) (hb : Below w.heap.size w w') : ReadPost o w (.returned (.tuple #[.agg iz, .bool false])) w' := by
  subst h
  exact ⟨_, _, _, rfl, iown_nil _ _, hb⟩
theorem readPost_yes {o : Option Img} {m : Img} {w w' : World} {vc vd vn : Value} (h : o = some m) (ho : IOwn w' w.heap.size vc vd vn m) (hb : Below w.heap.size w w') : ReadPost o w (.returned (.tuple #[imgVal vc vd vn m, .bool true])) w' := by
  subst h
  exact ⟨_, _, _, rfl, ho, hb⟩
theorem sm_imageP (l : List Int) (hb : l.all isByte = true) : Sm (imageP l) := by
  have h1 := (num2_toNat l (p2 l) hb).2
  have h2 := (num1_toNat l (p7 l) hb).2
  have h3 := (num1_toNat l (p8 l) hb).2
  have c1 := cut_short l (pCode l) (codeLenP l)
  have c2 := cut_short l (aft l (pCode l) (codeLenP l)) (dataLenP l)
  refine ⟨?_, ?_, ?_, ?_⟩
  · show (cut l (pCode l) (codeLenP l)).length ≤ 1048576
    have : codeLenP l ≤ 65535 := h1
    omega
  · show (cut l (aft l (pCode l) (codeLenP l)) (dataLenP l)).length ≤ 1048576
    have : dataLenP l ≤ 255 := h2
    omega
  · show (namesP l (p9 l) (countP l)).length ≤ 1048576
    rw [namesP_len]
    have : countP l ≤ 255 := h3
    omega
  · intro x hx
    obtain ⟨j, _, rfl⟩ := List.mem_map.1 hx
    have h4 := (num1_toNat l (namesPEnd l (p9 l) j) hb).2
    have c3 := cut_short l (aft l (namesPEnd l (p9 l) j) 1) (nameLen l (namesPEnd l (p9 l) j))
    show (((cut l _ _).map byteOf).toArray).size ≤ 1048576
    rw [List.size_toArray, List.length_map]
    omega
theorem five_z {w : World} {g : Nat} (h : Row w g 48 iz) (x0 x1 x2 x3 x4 : Value) : Row (((((w.setCell ⟨g, 0, none⟩ x0).setCell ⟨g, 1, none⟩ x1).setCell ⟨g, 2, none⟩ x2).setCell ⟨g, 3, none⟩ x3).setCell ⟨g, 4, none⟩ x4) g 48 #[x0, x1, x2, x3, x4] := ((((h.set 0 _).set 1 _).set 2 _).set 3 _).set 4 _
theorem readP_byte {l : List Int} (h : l.all isByte = false) : readP l = none := by unfold readP; rw [h]; rfl
theorem readP_ok {l : List Int} (h : imageOk (imageP l) = false) : readP l = none := by unfold readP; rw [h]; simp
theorem readP_eq {l : List Int} (h1 : l.all isByte = true) (h2 : imageOk (imageP l) = true) : readP l = if eqInts (imgBytes (imageP l)) l = true then some (imageP l) else none := by unfold readP; rw [h1, h2]; simp
set_option maxRecDepth 100000 in
set_option maxHeartbeats 1000000 in
theorem imageRead_c (v : Value) (l : List Int) (w : World) (h : Rd w v l) (hcap : CapOk v) (hl : l.length ≤ 1048576) (hfar : ∀ a n c, v = .slice (some a) n c → a.block < w.heap.size) :
    Calls Try.prog 41 #[v] w (ReadPost (readP l) w) := by
  have HRd := hid h
  have HA0 := hid (show Row _ _ _ iz from Row.new w 48 #[.slice none 0 0, .int .i64 0, .int .i64 0, .slice none 0 0, .slice none 0 0])
  have HB0 := hid ((Below.refl w.heap.size w).alloc (Nat.le_refl _) (.cells #[.slice none 0 0, .int .i64 0, .int .i64 0, .slice none 0 0, .slice none 0 0] 48))
  clear h
  cases hby : l.all isByte
  · have HBy := hid hby
    have HNo := hid (readP_byte hby)
    clear hby
    have y0 := HA0.out.cell 0
    have y1 := HA0.out.cell 1
    have y2 := HA0.out.cell 2
    have y3 := HA0.out.cell 3
    have y4 := HA0.out.cell 4
    simp [iz] at y0 y1 y2 y3 y4
    have hfy := HA0.out.free
    go_enter Try.func41, Try.ntmps41
    go_wp2_with (go_at_call 92; refine (areBytes_c l _ _ (HRd.out.on HB0.out) (by omega)).mono ?_; rw [HBy.out]; rintro e w' ⟨rfl, rfl⟩)
    refine bodyPost_ret (v := .tuple #[.agg iz, .bool false]) ?_ rfl ?_
    · exact res_cell_tmp Try.results41 _ _ w.heap.size iz _ rfl HA0.out Try.underlying48 size_img
    · exact readPost_no HNo.out HB0.out
  have HBy := hid hby
  have HSm := hid (sm_imageP l hby)
  have HCp := hid hcap
  have HFar := hid hfar
  obtain ⟨va, vcap, rfl⟩ := rd_slice HRd.out
  clear hby hcap hfar
  go_enter Try.func41, Try.ntmps41
  go_wp2_with (go_at_call 92; refine (areBytes_c l _ _ (HRd.out.on HB0.out) (by omega)).mono ?_; rw [HBy.out]; rintro e w' ⟨rfl, rfl⟩)
  have hal := (HB0.out.alloc HB0.out.size (.cells #[.slice va l.length vcap, .int .i64 0] 107))
  have hrow := Row.new (w.alloc (.cells #[.slice none 0 0, .int .i64 0, .int .i64 0, .slice none 0 0, .slice none 0 0] 48)) 107 #[.slice va l.length vcap, .int .i64 0]
  rw [World.size_alloc] at hrow
  have HR1 := hid (show RS _ (w.heap.size + 1) (.slice va l.length vcap) l 0 from ⟨hrow, HRd.out.on hal, HCp.out, fun a n c h => by have := HFar.out a n c h; omega, by omega, hl⟩)
  have HA1 := hid (HA0.out.alloc (.cells #[.slice va l.length vcap, .int .i64 0] 107))
  have HB1 := hid hal
  clear hal hrow
  refine (image_c (w.heap.size + 1) _ l _ HR1.out HBy.out).mono ?_
  rintro e w2 ⟨vc, vd, vn, rfl, hio, hrd, ho⟩
  have HI2 := hid hio
  have HA2 := hid (row_only HA1.out (by omega) ho)
  have HB2 := hid (HB1.out.trans (ho.below HB1.out.size (fun k hk => by omega)))
  have HRd2 := hid hrd
  have hz2 := ho.size
  simp only [World.size_alloc] at hz2
  clear hio hrd ho
  obtain ⟨m, hm⟩ : ∃ m, imageP l = m := ⟨_, rfl⟩
  have HM := hid hm
  rw [hm] at HI2 HSm ⊢
  clear hm
  obtain ⟨s1, c1, rfl⟩ := own_slice HI2.out.c
  obtain ⟨s2, c2, rfl⟩ := own_slice HI2.out.d
  obtain ⟨s3, c3, rfl⟩ := own_slice HI2.out.n
  unfold imgVal
  go_wp2_with fail
  have hal := ((Below.refl w2.heap.size w2).alloc (Nat.le_refl _) (.cells #[.slice s1 m.code.length c1, .int .i64 m.entry, .int .i64 m.room, .slice s2 m.data.length c2, .slice s3 m.names.length c3] 48))
  have HX3 := hid (Row.new w2 48 #[.slice s1 m.code.length c1, .int .i64 m.entry, .int .i64 m.room, .slice s2 m.data.length c2, .slice s3 m.names.length c3])
  have HI3 := hid (HI2.out.on hal)
  have HA3 := hid (HA2.out.on hal)
  have HB3 := hid (HB2.out.trans (hal.mono HB2.out.size))
  have HRd3 := hid (HRd2.out.on hal)
  have hz3 : w2.heap.size < (w2.alloc (.cells #[.slice s1 m.code.length c1, .int .i64 m.entry, .int .i64 m.room, .slice s2 m.data.length c2, .slice s3 m.names.length c3] 48)).heap.size := by simp
  clear hal
  generalize w2.alloc (.cells #[.slice s1 m.code.length c1, .int .i64 m.entry, .int .i64 m.room, .slice s2 m.data.length c2, .slice s3 m.names.length c3] 48) = w3 at HX3 HI3 HA3 HB3 HRd3 hz3 ⊢
  refine (imageOk_c m _ _ _ _ HI3.out.cells HSm.out).mono ?_
  rintro e w4 ⟨rfl, hb4⟩
  have HX4 := hid (HX3.out.on hb4)
  have HI4 := hid (HI3.out.on hb4)
  have HA4 := hid (HA3.out.on hb4)
  have HB4 := hid (HB3.out.trans (hb4.mono HB3.out.size))
  have HRd4 := hid (HRd3.out.on hb4)
  have hz4 := hb4.size
  clear hb4
  cases hok : imageOk m
  · have HNo := hid (readP_ok (l := l) (by rw [HM.out]; exact hok))
    clear hok
    have y0 := HA4.out.cell 0
    have y1 := HA4.out.cell 1
    have y2 := HA4.out.cell 2
    have y3 := HA4.out.cell 3
    have y4 := HA4.out.cell 4
    simp [iz] at y0 y1 y2 y3 y4
    have hfy := HA4.out.free
    go_wp2_with fail
    refine bodyPost_ret (v := .tuple #[.agg iz, .bool false]) ?_ rfl ?_
    · exact res_cell_tmp Try.results41 _ _ w.heap.size iz _ rfl (five_z HA4.out (.slice none 0 0) (.int .i64 0) (.int .i64 0) (.slice none 0 0) (.slice none 0 0)) Try.underlying48 size_img
    · exact readPost_no HNo.out (five_bel HB4.out (Nat.le_refl _) (.slice none 0 0) (.int .i64 0) (.int .i64 0) (.slice none 0 0) (.slice none 0 0))
  have HEq := hid (readP_eq (l := l) HBy.out (by rw [HM.out]; exact hok))
  rw [HM.out] at HEq
  have HBt := hid (show bts m = imgBytes m by rw [bts, hok]; rfl)
  have HBd := hid (imageOk_bd hok)
  clear hok
  have x0 := HX4.out.cell 0
  have x1 := HX4.out.cell 1
  have x2 := HX4.out.cell 2
  have x3 := HX4.out.cell 3
  have x4 := HX4.out.cell 4
  simp at x0 x1 x2 x3 x4
  go_wp2_with fail
  refine (imageBytes_c m _ _ _ _ HI4.out.cells HSm.out).mono ?_
  rintro e w5 ⟨v5, rfl, hown5, hb5⟩
  rw [HBt.out] at hown5
  have HV5 := hid hown5
  have HX5 := hid (HX4.out.on hb5)
  have HI5 := hid (HI4.out.on hb5)
  have HA5 := hid (HA4.out.on hb5)
  have HB5 := hid (HB4.out.trans (hb5.mono HB4.out.size))
  have HRd5 := hid (HRd4.out.on hb5)
  have hz5 := hb5.size
  have hbl := imgBytes_len HBd.out
  clear hown5 hb5 x0 x1 x2 x3 x4
  go_wp2_with fail
  refine (equalI_c (imgBytes m) l _ _ _ (.of_own HV5.out) HRd5.out (by omega) (by omega)).mono ?_
  rintro e w6 ⟨rfl, nd, rfl⟩
  have HX6 := hid (HX5.out.drewN nd)
  have HI6 := hid (HI5.out.on (below_drewN w5 nd))
  have HA6 := hid (HA5.out.drewN nd)
  have HB6 := hid (HB5.out.trans ((below_drewN w5 nd).mono HB5.out.size))
  generalize w5.drewN nd = w6 at HX6 HI6 HA6 HB6 ⊢
  have y0 := HA6.out.cell 0
  have y1 := HA6.out.cell 1
  have y2 := HA6.out.cell 2
  have y3 := HA6.out.cell 3
  have y4 := HA6.out.cell 4
  simp [iz] at y0 y1 y2 y3 y4
  have hfy := HA6.out.free
  cases heq : eqInts (imgBytes m) l
  · have HNo := hid (show readP l = none by rw [HEq.out, heq]; rfl)
    clear heq
    go_wp2_with fail
    refine bodyPost_ret (v := .tuple #[.agg iz, .bool false]) ?_ rfl ?_
    · exact res_cell_tmp Try.results41 _ _ w.heap.size iz _ rfl (five_z HA6.out (.slice none 0 0) (.int .i64 0) (.int .i64 0) (.slice none 0 0) (.slice none 0 0)) Try.underlying48 size_img
    · exact readPost_no HNo.out (five_bel HB6.out (Nat.le_refl _) (.slice none 0 0) (.int .i64 0) (.int .i64 0) (.slice none 0 0) (.slice none 0 0))
  · have HYes := hid (show readP l = some m by rw [HEq.out, heq]; rfl)
    clear heq
    have x0 := HX6.out.cell 0
    have x1 := HX6.out.cell 1
    have x2 := HX6.out.cell 2
    have x3 := HX6.out.cell 3
    have x4 := HX6.out.cell 4
    simp at x0 x1 x2 x3 x4
    go_wp2_with fail
    refine bodyPost_ret (v := .tuple #[imgVal (.slice s1 m.code.length c1) (.slice s2 m.data.length c2) (.slice s3 m.names.length c3) m, .bool true]) ?_ rfl ?_
    · exact res_cell_tmp Try.results41 _ _ w.heap.size #[.slice s1 m.code.length c1, .int .i64 m.entry, .int .i64 m.room, .slice s2 m.data.length c2, .slice s3 m.names.length c3] _ rfl (five_z HA6.out (.slice s1 m.code.length c1) (.int .i64 m.entry) (.int .i64 m.room) (.slice s2 m.data.length c2) (.slice s3 m.names.length c3)) Try.underlying48 size_img
    · refine readPost_yes HYes.out ⟨?_, ?_, ?_, HI6.out.ne⟩ (five_bel HB6.out (Nat.le_refl _) _ _ _ _ _)
      · exact own_mono (own_far5 HI6.out.c (fun g hg h => no_own HA6.out HI6.out.c (by decide) (by rw [hg, h])) _ _ _ _ _) (by simp; omega)
      · exact own_mono (own_far5 HI6.out.d (fun g hg h => no_own HA6.out HI6.out.d (by decide) (by rw [hg, h])) _ _ _ _ _) (by simp; omega)
      · exact own_mono (own_far5 HI6.out.n (fun g hg h => no_own HA6.out HI6.out.n (by decide) (by rw [hg, h])) _ _ _ _ _) (by simp; omega)
end Go.Proofs.Ytihhpgklpichgab.Im
