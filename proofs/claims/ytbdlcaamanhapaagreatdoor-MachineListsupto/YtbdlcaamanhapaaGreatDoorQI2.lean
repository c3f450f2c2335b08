import Derived.Test.YtbdlcaamanhapaaGreatDoorQI
import Derived.Test.YtbdlcaamanhapaaGreatDoorJzbc
namespace Go.Proofs.YtbdlcaamanhapaaGreatDoor
open Go.RowKit Go.Maps
set_option maxHeartbeats 8000000
variable {D0 D1 D2 D3 D4 D5 D6 D7 D8 D9 Da Db Dc Dd De Df Dg Dh Di Dj Dk Dl Dm Dn Do Dp Dq Dr Ds Dt Du Dv Dw Dx Dy Dz E0 E1 E2 E3 E4 E5 E6 E7 E8 E9 Ea Eb Ec Ed Ee Ef Eg Eh Ei Ej Ek El Em En Eo Ep Eq Er Es Et Eu Ev Ew Ex Ey Ez G0 G1 G2 G3 G4 G5 G6 G7 G8 G9 Ga Gb Gc Gd Ge Gf Gg Gh Gi Gj Gk Gl Gm Gn Go Gp Gq Gr Gs Gt Gu Gv Gw Gx Gy Gz J0 J1 J2 J3 J4 J5 J6 J7 J8 J9 Ja Jb Jc Jd Je Jf Jg Jh Ji Jj Jk Jl Jm Jn Jo Jp Jq Jr Js Jt Ju Jv Jw Jx Jy Jz M0 M1 M2 M3 M4 M5 M6 M7 M8 M9 Ma Mb Mc Md Me Mf Mg Mh Mi Mj Mk Ml Mm Mn Mo Mp Mq Mr Ms Mt Mu Mv Mw Mx My Mz R0 R1 R2 R3 R4 R5 R6 R7 R8 R9 Ra Rb Rc Rd Re Rf Rg Rh Ri Rj Rk Rl Rm Rn Ro Rp Rq Rr Rs Rt Ru Rv Rw Rx Ry Rz U0 U1 U2 U3 U4 U5 U6 U7 U8 U9 Ua Ub Uc Ud Ue Uf Ug Uh Ui Uj Uk Ul Um Un Uo Up Uq Ur Us Ut Uu Uv Uw Ux Uy Uz X0 X1 X2 X3 X4 X5 X6 X7 X8 X9 Xa Xb Xc Xd Xe Xf Xg Xh Xi Xj Xk Xl Xm Xn Xo Xp Xq Xr Xs Xt Xu Xv Xw Xx Xy Xz Y0 Y1 Y2 Y3 Y4 Y5 Y6 Y7 Y8 Y9 Ya Yb Yc Yd Ye Yf Yg Yh Yi Yj Yk Yl Ym : Value}
set_option maxRecDepth 1000000 in
theorem loop2  {b1 g29 i d1 : Nat} {a1 : Option Addr} {kx nx : Int} {hh : Bool} {p q : Value} {l : List ValA} {L : List Rowp} {P : Nat → Prop} {w3 w0 : World} {wz : World} (hn : l.length ≤ 8) (HS : St w3 w0 wz L P) (hL : L[i]? = some (solo 51 3 l.length (.slice a1 l.length d1) (vcs l))) (hb1 : P b1) (hg : P g29) (e1 : w0.heap[b1]? = some (.cells #[.bool hh, .slice a1 l.length d1, p, q] 38 (0, 0))) (eg : w0.heap[g29]? = some (.cells #[.int .i64 kx, .int .i64 nx, .string { data := #[109, 97, 114, 107] }] 51 (0, 0))) :
  Code.wp Tryz.prog (piece 2) (fun e a' w' => e = .normal ∧ ∃ u31 u32 u182 u183 u184 u185 u186 u187 u188 u189 u190 u191 u192 u193 u194 u195 u196 u197 u198 u199 : Value, a' = ⟨List.toArray (D0::D1::D2::D3::D4::D5::D6::D7::D8::D9::Da::Db::Dc::Dd::De::Df::(.pointer (some ⟨b1, 0, none⟩))::Dh::Di::Dj::Dk::Dl::Dm::Dn::Do::Dp::Dq::Dr::Ds::(.pointer (some ⟨g29, 0, none⟩))::Du::u31::u32::Dx::Dy::Dz::E0::E1::E2::E3::E4::E5::E6::E7::E8::E9::Ea::Eb::Ec::Ed::Ee::Ef::Eg::Eh::Ei::Ej::Ek::El::Em::En::Eo::Ep::Eq::Er::Es::Et::Eu::Ev::Ew::Ex::Ey::Ez::G0::G1::G2::G3::G4::G5::G6::G7::G8::G9::Ga::Gb::Gc::Gd::Ge::Gf::Gg::Gh::Gi::Gj::Gk::Gl::Gm::Gn::Go::Gp::Gq::Gr::Gs::Gt::Gu::Gv::Gw::Gx::Gy::Gz::J0::J1::J2::J3::J4::J5::J6::J7::J8::J9::Ja::Jb::Jc::Jd::Je::Jf::Jg::Jh::Ji::Jj::Jk::Jl::Jm::Jn::Jo::Jp::Jq::Jr::Js::Jt::Ju::Jv::Jw::Jx::Jy::Jz::M0::M1::M2::M3::M4::M5::M6::M7::M8::M9::Ma::Mb::Mc::Md::Me::Mf::Mg::Mh::Mi::Mj::Mk::Ml::Mm::Mn::Mo::Mp::Mq::Mr::Ms::Mt::Mu::Mv::Mw::Mx::My::Mz::R0::R1::u182::u183::u184::u185::u186::u187::u188::u189::u190::u191::u192::u193::u194::u195::u196::u197::u198::u199::Rk::Rl::Rm::Rn::Ro::Rp::Rq::Rr::Rs::Rt::Ru::Rv::Rw::Rx::Ry::Rz::U0::U1::U2::U3::U4::U5::U6::U7::U8::U9::Ua::Ub::Uc::Ud::Ue::Uf::Ug::Uh::Ui::Uj::Uk::Ul::Um::Un::Uo::Up::Uq::Ur::Us::Ut::Uu::Uv::Uw::Ux::Uy::Uz::X0::X1::X2::X3::X4::X5::X6::X7::X8::X9::Xa::Xb::Xc::Xd::Xe::Xf::Xg::Xh::Xi::Xj::Xk::Xl::Xm::Xn::Xo::Xp::Xq::Xr::Xs::Xt::Xu::Xv::Xw::Xx::Xy::Xz::Y0::Y1::Y2::Y3::Y4::Y5::Y6::Y7::Y8::Y9::Ya::Yb::Yc::Yd::Ye::Yf::Yg::Yh::Yi::Yj::Yk::Yl::Ym::[]), []⟩ ∧ St w3 w0 w' (markRows kV ⟨kx, nx, [109, 97, 114, 107]⟩ l (.slice a1 l.length d1) u31 L i l.length) P) ⟨List.toArray (D0::D1::D2::D3::D4::D5::D6::D7::D8::D9::Da::Db::Dc::Dd::De::Df::(.pointer (some ⟨b1, 0, none⟩))::Dh::Di::Dj::Dk::Dl::Dm::Dn::Do::Dp::Dq::Dr::Ds::(.pointer (some ⟨g29, 0, none⟩))::Du::(.slice none 0 0)::(.int .i64 0)::Dx::Dy::Dz::E0::E1::E2::E3::E4::E5::E6::E7::E8::E9::Ea::Eb::Ec::Ed::Ee::Ef::Eg::Eh::Ei::Ej::Ek::El::Em::En::Eo::Ep::Eq::Er::Es::Et::Eu::Ev::Ew::Ex::Ey::Ez::G0::G1::G2::G3::G4::G5::G6::G7::G8::G9::Ga::Gb::Gc::Gd::Ge::Gf::Gg::Gh::Gi::Gj::Gk::Gl::Gm::Gn::Go::Gp::Gq::Gr::Gs::Gt::Gu::Gv::Gw::Gx::Gy::Gz::J0::J1::J2::J3::J4::J5::J6::J7::J8::J9::Ja::Jb::Jc::Jd::Je::Jf::Jg::Jh::Ji::Jj::Jk::Jl::Jm::Jn::Jo::Jp::Jq::Jr::Js::Jt::Ju::Jv::Jw::Jx::Jy::Jz::M0::M1::M2::M3::M4::M5::M6::M7::M8::M9::Ma::Mb::Mc::Md::Me::Mf::Mg::Mh::Mi::Mj::Mk::Ml::Mm::Mn::Mo::Mp::Mq::Mr::Ms::Mt::Mu::Mv::Mw::Mx::My::Mz::R0::R1::R2::R3::R4::R5::R6::R7::R8::R9::Ra::Rb::Rc::Rd::Re::Rf::Rg::Rh::Ri::Rj::Rk::Rl::Rm::Rn::Ro::Rp::Rq::Rr::Rs::Rt::Ru::Rv::Rw::Rx::Ry::Rz::U0::U1::U2::U3::U4::U5::U6::U7::U8::U9::Ua::Ub::Uc::Ud::Ue::Uf::Ug::Uh::Ui::Uj::Uk::Ul::Um::Un::Uo::Up::Uq::Ur::Us::Ut::Uu::Uv::Uw::Ux::Uy::Uz::X0::X1::X2::X3::X4::X5::X6::X7::X8::X9::Xa::Xb::Xc::Xd::Xe::Xf::Xg::Xh::Xi::Xj::Xk::Xl::Xm::Xn::Xo::Xp::Xq::Xr::Xs::Xt::Xu::Xv::Xw::Xx::Xy::Xz::Y0::Y1::Y2::Y3::Y4::Y5::Y6::Y7::Y8::Y9::Ya::Yb::Yc::Yd::Ye::Yf::Yg::Yh::Yi::Yj::Yk::Yl::Ym::[]), []⟩ wz := by
 conv => arg 2; whnf
 have HE := zB (And.intro hL (And.intro hb1 (And.intro hg (And.intro e1 eg))))
 have hi : i < L.length := (List.getElem?_eq_some_iff.1 hL).1
 have HI := zB hi
 have HT := zB (show St w3 w0 wz (markRows kV ⟨kx, nx, [109, 97, 114, 107]⟩ l (.slice a1 l.length d1) (.slice none 0 0) L i 0) P from St.markStart (K := kV) HS hL)
 clear HS hL hb1 hg e1 eg hi
 go_wp2_with fail
 go_loopw [31, 32] (fun mv iv wr => ∃ (j : Nat), iv = .int .i64 (j : Int) ∧ j ≤ l.length ∧ Hid (St w3 w0 wr (markRows kV ⟨kx, nx, [109, 97, 114, 107]⟩ l (.slice a1 l.length d1) mv L i j) P)) (fun _ iv _ => l.length - (intOf iv).toNat)
 case atStart => exact ⟨0, rfl, Nat.zero_le _, HT⟩
 case round =>
  clear HT
  obtain ⟨j, rfl, hj, HT⟩ := hrel
  have q1 := zC ((zA HT).blk (zA HE).2.1 (zA HE).2.2.2.1) 1
  simp at q1
  have hG29 := (zA HT).blk (zA HE).2.2.1 (zA HE).2.2.2.2
  have m0 := zC hG29 0
  have m1 := zC hG29 1
  have m2 := zC hG29 2
  simp at m0 m1 m2
  clear hG29
  by_cases hlt : j < l.length
  ·have hrow := ((zA HT).ati (markRows_list (zA HI))).x
   obtain ⟨g, rfl, _⟩ := own_some hrow (by omega)
   obtain ⟨⟨x0, c0'⟩, f0⟩ := own_open hrow (j := j * 3) (by show _ < l.length * 3; omega)
   obtain ⟨⟨x1, c1'⟩, f1⟩ := own_open hrow (j := j * 3 + 1) (by show _ < l.length * 3; omega)
   obtain ⟨⟨x2, c2'⟩, f2⟩ := own_open hrow (j := j * 3 + 2) (by show _ < l.length * 3; omega)
   have i1 : (j : Int) < (l.length : Int) := by omega
   have i2 : (0 : Int) ≤ (j : Int) := by omega
   have z1 : ¬ g29 = g := fun e => (zA HT).off _ (List.mem_of_getElem? (markRows_list (zA HI))) g (Or.inl rfl) (e ▸ (zA HE).2.2.1)
   have z2 : ¬ g = g29 := fun e => z1 e.symm
   have HPUT : Hid ((((wr.setCell ⟨g, j * 3, none⟩ (.int .i64 kx)).setCell ⟨g, j * 3 + 1, none⟩ (.int .i64 nx)).setCell ⟨g, j * 3 + 2, none⟩ (str [109, 97, 114, 107])).ownsRow w3.heap.size kV.e kV.z (.slice (some ⟨g, 0, none⟩) l.length d1) l.length (kV.C ((overL l ⟨kx, nx, [109, 97, 114, 107]⟩ j).set j ⟨kx, nx, [109, 97, 114, 107]⟩))) := own_put3 hrow j ⟨kx, nx, [109, 97, 114, 107]⟩
   have HKP : Hid (Wp (fun q => (Value.slice (some ⟨g, 0, none⟩) l.length d1).ownBlock = some q) wr (((wr.setCell ⟨g, j * 3, none⟩ (.int .i64 kx)).setCell ⟨g, j * 3 + 1, none⟩ (.int .i64 nx)).setCell ⟨g, j * 3 + 2, none⟩ (str [109, 97, 114, 107]))) := (keeps_put3 wr g _ _ _ _ _ _).mono (fun q _ e => by rw [e]; rfl)
   have HCO := zB ((zA HT).marks (zA HI) (zA HPUT) (zA HKP))
   have HFL := zB (val_lit (((wr.setCell ⟨g, j * 3, none⟩ (.int .i64 kx)).setCell ⟨g, j * 3 + 1, none⟩ (.int .i64 nx)).setCell ⟨g, j * 3 + 2, none⟩ (str [109, 97, 114, 107])) kx nx [109, 97, 114, 107])
   have HBW : Hid (w3.heap.size ≤ wr.heap.size) := (zA HT).base
   clear hrow
   go_wp2_with (at_builtin; refine append_val rfl _ _ rfl w3.heap.size u31 j _ rfl (own_alloc (zA HCO) _) wr.heap.size 1 ⟨kx, nx, [109, 97, 114, 107]⟩ rfl (by simpa using zA HFL) (by omega) (Nat.le_trans (zA HBW) (by simp)) ?_; intro g2 cap2 w5 HG)
   go_roundw
   case rel => exact ⟨j + 1, by go_num, by omega, (zA HT).mark (zA HI) hlt (zA HPUT) (zA HKP) HG⟩
   case measure => simp [intOf]; omega
  ·obtain rfl : j = l.length := by omega
   go_wp2_with fail
   exact zA HT
set_option maxRecDepth 1000000 in
theorem loop3  {g29 i d1 : Nat} {a1 : Option Addr} {kx : Int} {l : List (Int × Txt)} {L : List Rowp} {P : Nat → Prop} {w3 w0 : World} {wz : World} (hn : l.length ≤ 1024) (HS : St w3 w0 wz L P) (hL : L[i]? = some (solo 53 2 l.length (.slice a1 l.length d1) (sC l))) (hg : P g29) (eg : w0.heap[g29]? = some (.cells #[.int .i64 kx, .string { data := #[109, 97, 114, 107] }] 53 (0, 0))) :
  Code.wp Tryz.prog (piece 4) (fun e a' w' => e = .normal ∧ ∃ u33 u34 u200 u201 u202 u203 u204 u205 u206 u207 u208 u209 u210 u211 u212 u213 : Value, a' = ⟨List.toArray (D0::D1::D2::D3::D4::D5::D6::D7::D8::D9::Da::Db::Dc::Dd::De::Df::Dg::Dh::Di::Dj::(.slice a1 l.length d1)::Dl::Dm::Dn::Do::Dp::Dq::Dr::Ds::Dt::(.pointer (some ⟨g29, 0, none⟩))::Dv::Dw::u33::u34::Dz::E0::E1::E2::E3::E4::E5::E6::E7::E8::E9::Ea::Eb::Ec::Ed::Ee::Ef::Eg::Eh::Ei::Ej::Ek::El::Em::En::Eo::Ep::Eq::Er::Es::Et::Eu::Ev::Ew::Ex::Ey::Ez::G0::G1::G2::G3::G4::G5::G6::G7::G8::G9::Ga::Gb::Gc::Gd::Ge::Gf::Gg::Gh::Gi::Gj::Gk::Gl::Gm::Gn::Go::Gp::Gq::Gr::Gs::Gt::Gu::Gv::Gw::Gx::Gy::Gz::J0::J1::J2::J3::J4::J5::J6::J7::J8::J9::Ja::Jb::Jc::Jd::Je::Jf::Jg::Jh::Ji::Jj::Jk::Jl::Jm::Jn::Jo::Jp::Jq::Jr::Js::Jt::Ju::Jv::Jw::Jx::Jy::Jz::M0::M1::M2::M3::M4::M5::M6::M7::M8::M9::Ma::Mb::Mc::Md::Me::Mf::Mg::Mh::Mi::Mj::Mk::Ml::Mm::Mn::Mo::Mp::Mq::Mr::Ms::Mt::Mu::Mv::Mw::Mx::My::Mz::R0::R1::R2::R3::R4::R5::R6::R7::R8::R9::Ra::Rb::Rc::Rd::Re::Rf::Rg::Rh::Ri::Rj::u200::u201::u202::u203::u204::u205::u206::u207::u208::u209::u210::u211::u212::u213::Ry::Rz::U0::U1::U2::U3::U4::U5::U6::U7::U8::U9::Ua::Ub::Uc::Ud::Ue::Uf::Ug::Uh::Ui::Uj::Uk::Ul::Um::Un::Uo::Up::Uq::Ur::Us::Ut::Uu::Uv::Uw::Ux::Uy::Uz::X0::X1::X2::X3::X4::X5::X6::X7::X8::X9::Xa::Xb::Xc::Xd::Xe::Xf::Xg::Xh::Xi::Xj::Xk::Xl::Xm::Xn::Xo::Xp::Xq::Xr::Xs::Xt::Xu::Xv::Xw::Xx::Xy::Xz::Y0::Y1::Y2::Y3::Y4::Y5::Y6::Y7::Y8::Y9::Ya::Yb::Yc::Yd::Ye::Yf::Yg::Yh::Yi::Yj::Yk::Yl::Ym::[]), []⟩ ∧ St w3 w0 w' (markRows kS (kx, [109, 97, 114, 107]) l (.slice a1 l.length d1) u33 L i l.length) P) ⟨List.toArray (D0::D1::D2::D3::D4::D5::D6::D7::D8::D9::Da::Db::Dc::Dd::De::Df::Dg::Dh::Di::Dj::(.slice a1 l.length d1)::Dl::Dm::Dn::Do::Dp::Dq::Dr::Ds::Dt::(.pointer (some ⟨g29, 0, none⟩))::Dv::Dw::(.slice none 0 0)::(.int .i64 0)::Dz::E0::E1::E2::E3::E4::E5::E6::E7::E8::E9::Ea::Eb::Ec::Ed::Ee::Ef::Eg::Eh::Ei::Ej::Ek::El::Em::En::Eo::Ep::Eq::Er::Es::Et::Eu::Ev::Ew::Ex::Ey::Ez::G0::G1::G2::G3::G4::G5::G6::G7::G8::G9::Ga::Gb::Gc::Gd::Ge::Gf::Gg::Gh::Gi::Gj::Gk::Gl::Gm::Gn::Go::Gp::Gq::Gr::Gs::Gt::Gu::Gv::Gw::Gx::Gy::Gz::J0::J1::J2::J3::J4::J5::J6::J7::J8::J9::Ja::Jb::Jc::Jd::Je::Jf::Jg::Jh::Ji::Jj::Jk::Jl::Jm::Jn::Jo::Jp::Jq::Jr::Js::Jt::Ju::Jv::Jw::Jx::Jy::Jz::M0::M1::M2::M3::M4::M5::M6::M7::M8::M9::Ma::Mb::Mc::Md::Me::Mf::Mg::Mh::Mi::Mj::Mk::Ml::Mm::Mn::Mo::Mp::Mq::Mr::Ms::Mt::Mu::Mv::Mw::Mx::My::Mz::R0::R1::R2::R3::R4::R5::R6::R7::R8::R9::Ra::Rb::Rc::Rd::Re::Rf::Rg::Rh::Ri::Rj::Rk::Rl::Rm::Rn::Ro::Rp::Rq::Rr::Rs::Rt::Ru::Rv::Rw::Rx::Ry::Rz::U0::U1::U2::U3::U4::U5::U6::U7::U8::U9::Ua::Ub::Uc::Ud::Ue::Uf::Ug::Uh::Ui::Uj::Uk::Ul::Um::Un::Uo::Up::Uq::Ur::Us::Ut::Uu::Uv::Uw::Ux::Uy::Uz::X0::X1::X2::X3::X4::X5::X6::X7::X8::X9::Xa::Xb::Xc::Xd::Xe::Xf::Xg::Xh::Xi::Xj::Xk::Xl::Xm::Xn::Xo::Xp::Xq::Xr::Xs::Xt::Xu::Xv::Xw::Xx::Xy::Xz::Y0::Y1::Y2::Y3::Y4::Y5::Y6::Y7::Y8::Y9::Ya::Yb::Yc::Yd::Ye::Yf::Yg::Yh::Yi::Yj::Yk::Yl::Ym::[]), []⟩ wz := by
 conv => arg 2; whnf
 have HE := zB (And.intro hL (And.intro hg eg))
 have hi : i < L.length := (List.getElem?_eq_some_iff.1 hL).1
 have HI := zB hi
 have HT := zB (show St w3 w0 wz (markRows kS (kx, [109, 97, 114, 107]) l (.slice a1 l.length d1) (.slice none 0 0) L i 0) P from St.markStart (K := kS) HS hL)
 clear HS hL hg eg hi
 go_wp2_with fail
 go_loopw [33, 34] (fun mv iv wr => ∃ (j : Nat), iv = .int .i64 (j : Int) ∧ j ≤ l.length ∧ Hid (St w3 w0 wr (markRows kS (kx, [109, 97, 114, 107]) l (.slice a1 l.length d1) mv L i j) P)) (fun _ iv _ => l.length - (intOf iv).toNat)
 case atStart => exact ⟨0, rfl, Nat.zero_le _, HT⟩
 case round =>
  clear HT
  obtain ⟨j, rfl, hj, HT⟩ := hrel
  have hG29 := (zA HT).blk (zA HE).2.1 (zA HE).2.2
  have m0 := zC hG29 0
  have m1 := zC hG29 1
  simp at m0 m1
  clear hG29
  by_cases hlt : j < l.length
  ·have hrow := ((zA HT).ati (markRows_list (zA HI))).x
   obtain ⟨g, rfl, _⟩ := own_some hrow (by omega)
   obtain ⟨⟨x0, c0'⟩, f0⟩ := own_open hrow (j := j * 2) (by show _ < l.length * 2; omega)
   obtain ⟨⟨x1, c1'⟩, f1⟩ := own_open hrow (j := j * 2 + 1) (by show _ < l.length * 2; omega)
   have i1 : (j : Int) < (l.length : Int) := by omega
   have i2 : (0 : Int) ≤ (j : Int) := by omega
   have z1 : ¬ g29 = g := fun e => (zA HT).off _ (List.mem_of_getElem? (markRows_list (zA HI))) g (Or.inl rfl) (e ▸ (zA HE).2.1)
   have z2 : ¬ g = g29 := fun e => z1 e.symm
   have HPUT : Hid (((wr.setCell ⟨g, j * 2, none⟩ (.int .i64 kx)).setCell ⟨g, j * 2 + 1, none⟩ (str [109, 97, 114, 107])).ownsRow w3.heap.size kS.e kS.z (.slice (some ⟨g, 0, none⟩) l.length d1) l.length (kS.C ((overL l (kx, [109, 97, 114, 107]) j).set j (kx, [109, 97, 114, 107])))) := own_put2 hrow j (kx, [109, 97, 114, 107])
   have HKP : Hid (Wp (fun q => (Value.slice (some ⟨g, 0, none⟩) l.length d1).ownBlock = some q) wr ((wr.setCell ⟨g, j * 2, none⟩ (.int .i64 kx)).setCell ⟨g, j * 2 + 1, none⟩ (str [109, 97, 114, 107]))) := (keeps_put2 wr g _ _ _ _).mono (fun q _ e => by rw [e]; rfl)
   have HCO := zB ((zA HT).marks (zA HI) (zA HPUT) (zA HKP))
   have HFL := zB (stp_lit ((wr.setCell ⟨g, j * 2, none⟩ (.int .i64 kx)).setCell ⟨g, j * 2 + 1, none⟩ (str [109, 97, 114, 107])) kx [109, 97, 114, 107])
   have HBW : Hid (w3.heap.size ≤ wr.heap.size) := (zA HT).base
   clear hrow
   go_wp2_with (at_builtin; refine append_stp rfl _ _ rfl w3.heap.size u33 j _ rfl (own_alloc (zA HCO) _) wr.heap.size 1 (kx, [109, 97, 114, 107]) rfl (by simpa using zA HFL) (by omega) (Nat.le_trans (zA HBW) (by simp)) ?_; intro g2 cap2 w5 HG)
   go_roundw
   case rel => exact ⟨j + 1, by go_num, by omega, (zA HT).mark (zA HI) hlt (zA HPUT) (zA HKP) HG⟩
   case measure => simp [intOf]; omega
  ·obtain rfl : j = l.length := by omega
   go_wp2_with fail
   exact zA HT
set_option maxRecDepth 1000000 in
theorem loop4  {va vb vc vd : Value} {g29 g30 n m : Nat} {kx nx kz : Int} {u1 u3 : Value} {M T : List Rowp} {P : Nat → Prop} {w3 w0 : World} {wz : World} (hn : n ≤ 8) (hm : m ≤ 1024) (HS : St w3 w0 wz (rows4 n m ⟨kx, nx, [109, 97, 114, 107]⟩ (kz, [109, 97, 114, 107]) u1 u3 M T 0 0 0 0 va vb vc vd) P) (TW : Two w0 P g29 g30 kx nx kz) :
  Code.wp Tryz.prog (piece 6) (fun e a' w' => e = .normal ∧ ∃ u35 u36 u37 u38 u39 u223 u224 u225 u226 u227 u228 u229 u230 u231 u232 u233 u234 u235 u236 u237 u238 u239 u240 u241 u242 : Value, a' = ⟨List.toArray (D0::D1::D2::D3::D4::D5::D6::D7::D8::D9::Da::Db::Dc::Dd::De::Df::Dg::Dh::Di::Dj::Dk::Dl::Dm::Dn::Do::Dp::Dq::Dr::Ds::(.pointer (some ⟨g29, 0, none⟩))::(.pointer (some ⟨g30, 0, none⟩))::Dv::Dw::Dx::Dy::u35::u36::u37::u38::u39::E4::E5::E6::E7::E8::E9::Ea::Eb::Ec::Ed::Ee::Ef::Eg::Eh::Ei::Ej::Ek::El::Em::En::Eo::Ep::Eq::Er::Es::Et::Eu::Ev::Ew::Ex::Ey::Ez::G0::G1::G2::G3::G4::G5::G6::G7::G8::G9::Ga::Gb::Gc::Gd::Ge::Gf::Gg::Gh::Gi::Gj::Gk::Gl::Gm::Gn::Go::Gp::Gq::Gr::Gs::Gt::Gu::Gv::Gw::Gx::Gy::Gz::J0::J1::J2::J3::J4::J5::J6::J7::J8::J9::Ja::Jb::Jc::Jd::Je::Jf::Jg::Jh::Ji::Jj::Jk::Jl::Jm::Jn::Jo::Jp::Jq::Jr::Js::Jt::Ju::Jv::Jw::Jx::Jy::Jz::M0::M1::M2::M3::M4::M5::M6::M7::M8::M9::Ma::Mb::Mc::Md::Me::Mf::Mg::Mh::Mi::Mj::Mk::Ml::Mm::Mn::Mo::Mp::Mq::Mr::Ms::Mt::Mu::Mv::Mw::Mx::My::Mz::R0::R1::R2::R3::R4::R5::R6::R7::R8::R9::Ra::Rb::Rc::Rd::Re::Rf::Rg::Rh::Ri::Rj::Rk::Rl::Rm::Rn::Ro::Rp::Rq::Rr::Rs::Rt::Ru::Rv::Rw::Rx::Ry::Rz::U0::U1::U2::U3::U4::U5::U6::u223::u224::u225::u226::u227::u228::u229::u230::u231::u232::u233::u234::u235::u236::u237::u238::u239::u240::u241::u242::Ur::Us::Ut::Uu::Uv::Uw::Ux::Uy::Uz::X0::X1::X2::X3::X4::X5::X6::X7::X8::X9::Xa::Xb::Xc::Xd::Xe::Xf::Xg::Xh::Xi::Xj::Xk::Xl::Xm::Xn::Xo::Xp::Xq::Xr::Xs::Xt::Xu::Xv::Xw::Xx::Xy::Xz::Y0::Y1::Y2::Y3::Y4::Y5::Y6::Y7::Y8::Y9::Ya::Yb::Yc::Yd::Ye::Yf::Yg::Yh::Yi::Yj::Yk::Yl::Ym::[]), []⟩ ∧ St w3 w0 w' (rows4 n m ⟨kx, nx, [109, 97, 114, 107]⟩ (kz, [109, 97, 114, 107]) u1 u3 M T 64 64 64 64 u35 u36 u37 u38) P) ⟨List.toArray (D0::D1::D2::D3::D4::D5::D6::D7::D8::D9::Da::Db::Dc::Dd::De::Df::Dg::Dh::Di::Dj::Dk::Dl::Dm::Dn::Do::Dp::Dq::Dr::Ds::(.pointer (some ⟨g29, 0, none⟩))::(.pointer (some ⟨g30, 0, none⟩))::Dv::Dw::Dx::Dy::va::vb::vc::vd::(.int .i64 0)::E4::E5::E6::E7::E8::E9::Ea::Eb::Ec::Ed::Ee::Ef::Eg::Eh::Ei::Ej::Ek::El::Em::En::Eo::Ep::Eq::Er::Es::Et::Eu::Ev::Ew::Ex::Ey::Ez::G0::G1::G2::G3::G4::G5::G6::G7::G8::G9::Ga::Gb::Gc::Gd::Ge::Gf::Gg::Gh::Gi::Gj::Gk::Gl::Gm::Gn::Go::Gp::Gq::Gr::Gs::Gt::Gu::Gv::Gw::Gx::Gy::Gz::J0::J1::J2::J3::J4::J5::J6::J7::J8::J9::Ja::Jb::Jc::Jd::Je::Jf::Jg::Jh::Ji::Jj::Jk::Jl::Jm::Jn::Jo::Jp::Jq::Jr::Js::Jt::Ju::Jv::Jw::Jx::Jy::Jz::M0::M1::M2::M3::M4::M5::M6::M7::M8::M9::Ma::Mb::Mc::Md::Me::Mf::Mg::Mh::Mi::Mj::Mk::Ml::Mm::Mn::Mo::Mp::Mq::Mr::Ms::Mt::Mu::Mv::Mw::Mx::My::Mz::R0::R1::R2::R3::R4::R5::R6::R7::R8::R9::Ra::Rb::Rc::Rd::Re::Rf::Rg::Rh::Ri::Rj::Rk::Rl::Rm::Rn::Ro::Rp::Rq::Rr::Rs::Rt::Ru::Rv::Rw::Rx::Ry::Rz::U0::U1::U2::U3::U4::U5::U6::U7::U8::U9::Ua::Ub::Uc::Ud::Ue::Uf::Ug::Uh::Ui::Uj::Uk::Ul::Um::Un::Uo::Up::Uq::Ur::Us::Ut::Uu::Uv::Uw::Ux::Uy::Uz::X0::X1::X2::X3::X4::X5::X6::X7::X8::X9::Xa::Xb::Xc::Xd::Xe::Xf::Xg::Xh::Xi::Xj::Xk::Xl::Xm::Xn::Xo::Xp::Xq::Xr::Xs::Xt::Xu::Xv::Xw::Xx::Xy::Xz::Y0::Y1::Y2::Y3::Y4::Y5::Y6::Y7::Y8::Y9::Ya::Yb::Yc::Yd::Ye::Yf::Yg::Yh::Yi::Yj::Yk::Yl::Ym::[]), []⟩ wz := by
 conv => arg 2; whnf
 have HT := zB HS
 have HTW := zB TW
 clear HS TW
 go_wp2_with fail
 go_loopw [35, 36, 37, 38, 39] (fun a b c d iv wr => ∃ (k : Nat), iv = .int .i64 (k : Int) ∧ k ≤ 64 ∧ Hid (St w3 w0 wr (rows4 n m ⟨kx, nx, [109, 97, 114, 107]⟩ (kz, [109, 97, 114, 107]) u1 u3 M T k k k k a b c d) P)) (fun _ _ _ _ iv _ => 64 - (intOf iv).toNat)
 case atStart => exact ⟨0, rfl, Nat.zero_le _, HT⟩
 case round =>
  clear HT
  obtain ⟨k, rfl, hk, H0⟩ := hrel
  obtain ⟨m00, m01, m02, m03, m04⟩ := (zA HTW).cells (zA H0)
  by_cases hlt : k < 64
  ·have i2 : (k : Int) < 64 := by omega
   have F0 := zB (val_lit wr kx nx [109, 97, 114, 107])
   have B0 : Hid (w3.heap.size ≤ wr.heap.size) := (zA H0).base
   go_wp2_with (at_builtin; first
    | (refine append_val rfl _ _ rfl w3.heap.size u35 (n + k) _ rfl (own_alloc (zA H0).own35 _) wr.heap.size 1 ⟨kx, nx, [109, 97, 114, 107]⟩ rfl (by simpa using zA F0) (by omega) (Nat.le_trans (zA B0) (by simp)) ?_
       intro g0 cap0 y1 HG0
       have H1 := zB ((zA H0).grow35 HG0)
       obtain ⟨m10, m11, m12, m13, m14⟩ := (zA HTW).cells (zA H1)
       have F1 := zB (val_lit y1 kx nx [109, 97, 114, 107])
       have B1 : Hid (w3.heap.size ≤ y1.heap.size) := (zA H1).base)
    | (refine append_val rfl _ _ rfl w3.heap.size u36 (n + k) _ rfl (own_alloc (zA H1).own36 _) y1.heap.size 1 ⟨kx, nx, [109, 97, 114, 107]⟩ rfl (by simpa using zA F1) (by omega) (Nat.le_trans (zA B1) (by simp)) ?_
       intro g1 cap1 y2 HG1
       have H2 := zB ((zA H1).grow36 HG1)
       obtain ⟨m20, m21, m22, m23, m24⟩ := (zA HTW).cells (zA H2)
       have F2 := zB (stp_lit y2 kz [109, 97, 114, 107])
       have B2 : Hid (w3.heap.size ≤ y2.heap.size) := (zA H2).base)
    | (refine append_stp rfl _ _ rfl w3.heap.size u37 (m + k) _ rfl (own_alloc (zA H2).own37 _) y2.heap.size 1 (kz, [109, 97, 114, 107]) rfl (by simpa using zA F2) (by omega) (Nat.le_trans (zA B2) (by simp)) ?_
       intro g2 cap2 y3 HG2
       have H3 := zB ((zA H2).grow37 HG2)
       obtain ⟨m30, m31, m32, m33, m34⟩ := (zA HTW).cells (zA H3)
       have F3 := zB (stp_lit y3 kz [109, 97, 114, 107])
       have B3 : Hid (w3.heap.size ≤ y3.heap.size) := (zA H3).base)
    | (refine append_stp rfl _ _ rfl w3.heap.size u38 (m + k) _ rfl (own_alloc (zA H3).own38 _) y3.heap.size 1 (kz, [109, 97, 114, 107]) rfl (by simpa using zA F3) (by omega) (Nat.le_trans (zA B3) (by simp)) ?_
       intro g3 cap3 y4 HG3
       have H4 := zB ((zA H3).grow38 HG3)
       obtain ⟨m40, m41, m42, m43, m44⟩ := (zA HTW).cells (zA H4)
       have F4 := zB (stp_lit y4 kz [109, 97, 114, 107])
       have B4 : Hid (w3.heap.size ≤ y4.heap.size) := (zA H4).base))
   go_roundw
   case rel => exact ⟨k + 1, by go_num, by omega, H4⟩
   case measure => simp [intOf]; omega
  ·obtain rfl : k = 64 := by omega
   clear m00 m01 m02 m03 m04
   go_wp2_with fail
   exact ⟨_, _, _, _, ⟨rfl, rfl, rfl, rfl⟩, zA H0⟩
set_option maxRecDepth 1000000 in
theorem reg40  {m mc : Nat} {mo : Option Addr} {l : List (Int × Txt)} {wz : World} (hl : l.length = m) (hm : m ≤ 1024) (ho : Ws wz (.slice mo m mc) m (sC l)) :
  Code.wp Tryz.prog (regn 40) (fun e a' w' => e = .normal ∧ ∃ u38 u220 u221 u222 : Value, a' = ⟨List.toArray (D0::D1::D2::D3::D4::D5::D6::D7::D8::D9::Da::Db::Dc::Dd::De::Df::Dg::Dh::Di::Dj::Dk::Dl::Dm::Dn::Do::Dp::Dq::Dr::Ds::Dt::Du::Dv::Dw::(.slice mo m mc)::Dy::Dz::E0::E1::u38::E3::E4::E5::E6::E7::E8::E9::Ea::Eb::Ec::Ed::Ee::Ef::Eg::Eh::Ei::Ej::Ek::El::Em::En::Eo::Ep::Eq::Er::Es::Et::Eu::Ev::Ew::Ex::Ey::Ez::G0::G1::G2::G3::G4::G5::G6::G7::G8::G9::Ga::Gb::Gc::Gd::Ge::Gf::Gg::Gh::Gi::Gj::Gk::Gl::Gm::Gn::Go::Gp::Gq::Gr::Gs::Gt::Gu::Gv::Gw::Gx::Gy::Gz::J0::J1::J2::J3::J4::J5::J6::J7::J8::J9::Ja::Jb::Jc::Jd::Je::Jf::Jg::Jh::Ji::Jj::Jk::Jl::Jm::Jn::Jo::Jp::Jq::Jr::Js::Jt::Ju::Jv::Jw::Jx::Jy::Jz::M0::M1::M2::M3::M4::M5::M6::M7::M8::M9::Ma::Mb::Mc::Md::Me::Mf::Mg::Mh::Mi::Mj::Mk::Ml::Mm::Mn::Mo::Mp::Mq::Mr::Ms::Mt::Mu::Mv::Mw::Mx::My::Mz::R0::R1::R2::R3::R4::R5::R6::R7::R8::R9::Ra::Rb::Rc::Rd::Re::Rf::Rg::Rh::Ri::Rj::Rk::Rl::Rm::Rn::Ro::Rp::Rq::Rr::Rs::Rt::Ru::Rv::Rw::Rx::Ry::Rz::U0::U1::U2::U3::u220::u221::u222::U7::U8::U9::Ua::Ub::Uc::Ud::Ue::Uf::Ug::Uh::Ui::Uj::Uk::Ul::Um::Un::Uo::Up::Uq::Ur::Us::Ut::Uu::Uv::Uw::Ux::Uy::Uz::X0::X1::X2::X3::X4::X5::X6::X7::X8::X9::Xa::Xb::Xc::Xd::Xe::Xf::Xg::Xh::Xi::Xj::Xk::Xl::Xm::Xn::Xo::Xp::Xq::Xr::Xs::Xt::Xu::Xv::Xw::Xx::Xy::Xz::Y0::Y1::Y2::Y3::Y4::Y5::Y6::Y7::Y8::Y9::Ya::Yb::Yc::Yd::Ye::Yf::Yg::Yh::Yi::Yj::Yk::Yl::Ym::[]), []⟩ ∧ w'.ownsRow wz.heap.size 53 2 u38 m (sC l) ∧ Wp (fun _ => False) wz w') ⟨List.toArray (D0::D1::D2::D3::D4::D5::D6::D7::D8::D9::Da::Db::Dc::Dd::De::Df::Dg::Dh::Di::Dj::Dk::Dl::Dm::Dn::Do::Dp::Dq::Dr::Ds::Dt::Du::Dv::Dw::(.slice mo m mc)::Dy::Dz::E0::E1::E2::E3::E4::E5::E6::E7::E8::E9::Ea::Eb::Ec::Ed::Ee::Ef::Eg::Eh::Ei::Ej::Ek::El::Em::En::Eo::Ep::Eq::Er::Es::Et::Eu::Ev::Ew::Ex::Ey::Ez::G0::G1::G2::G3::G4::G5::G6::G7::G8::G9::Ga::Gb::Gc::Gd::Ge::Gf::Gg::Gh::Gi::Gj::Gk::Gl::Gm::Gn::Go::Gp::Gq::Gr::Gs::Gt::Gu::Gv::Gw::Gx::Gy::Gz::J0::J1::J2::J3::J4::J5::J6::J7::J8::J9::Ja::Jb::Jc::Jd::Je::Jf::Jg::Jh::Ji::Jj::Jk::Jl::Jm::Jn::Jo::Jp::Jq::Jr::Js::Jt::Ju::Jv::Jw::Jx::Jy::Jz::M0::M1::M2::M3::M4::M5::M6::M7::M8::M9::Ma::Mb::Mc::Md::Me::Mf::Mg::Mh::Mi::Mj::Mk::Ml::Mm::Mn::Mo::Mp::Mq::Mr::Ms::Mt::Mu::Mv::Mw::Mx::My::Mz::R0::R1::R2::R3::R4::R5::R6::R7::R8::R9::Ra::Rb::Rc::Rd::Re::Rf::Rg::Rh::Ri::Rj::Rk::Rl::Rm::Rn::Ro::Rp::Rq::Rr::Rs::Rt::Ru::Rv::Rw::Rx::Ry::Rz::U0::U1::U2::U3::U4::U5::U6::U7::U8::U9::Ua::Ub::Uc::Ud::Ue::Uf::Ug::Uh::Ui::Uj::Uk::Ul::Um::Un::Uo::Up::Uq::Ur::Us::Ut::Uu::Uv::Uw::Ux::Uy::Uz::X0::X1::X2::X3::X4::X5::X6::X7::X8::X9::Xa::Xb::Xc::Xd::Xe::Xf::Xg::Xh::Xi::Xj::Xk::Xl::Xm::Xn::Xo::Xp::Xq::Xr::Xs::Xt::Xu::Xv::Xw::Xx::Xy::Xz::Y0::Y1::Y2::Y3::Y4::Y5::Y6::Y7::Y8::Y9::Ya::Yb::Yc::Yd::Ye::Yf::Yg::Yh::Yi::Yj::Yk::Yl::Ym::[]), []⟩ wz := by
 conv => arg 2; whnf
 have HO := zB ho
 clear ho
 by_cases h0 : m = 0
 ·subst h0
  have e0 : l = [] := List.eq_nil_of_length_eq_zero hl
  subst e0
  have HN : Hid ((wz.alloc (.cells #[] 53)).ownsRow wz.heap.size 53 2 (.slice (some ⟨wz.heap.size, 0, none⟩) 0 0) 0 []) := World.ownsRow_lit (base := wz.heap.size) (e := 53) (size := 2) wz #[] 0 (Nat.le_refl _) (by unfold maxLen; omega) (by simp)
  have HK := zB (kA wz (.cells #[] 53))
  cases mo
  ·go_wp2_with fail
   all_goals exact ⟨zA HN, zA HK⟩
  ·go_wp2_with fail
   all_goals exact ⟨zA HN, zA HK⟩
 ·obtain ⟨i0, hi, hz0, hz1, hz2⟩ := info_parts Tryz.info53
  have HN : Hid ((wz.alloc (.cells #[] 53)).ownsRow wz.heap.size 53 2 (.slice (some ⟨wz.heap.size, 0, none⟩) 0 0) 0 []) := World.ownsRow_lit (base := wz.heap.size) (e := 53) (size := 2) wz #[] 0 (Nat.le_refl _) (by unfold maxLen; omega) (by simp)
  obtain ⟨b, off, cap, e1, hb, hc⟩ := (zA HO).cells (by omega)
  obtain ⟨rfl, rfl⟩ : mo = some ⟨b, off, none⟩ ∧ mc = cap := by
   simp only [Value.slice.injEq] at e1
   exact ⟨e1.1, e1.2.2⟩
  have HC : Hid (∀ (j : Nat) (u : Value), (sC l)[j]? = some u → (wz.alloc (.cells #[] 53)).cell? ((⟨b, off, none⟩ : Addr).add j) = some u) := fun j u hj => by
   rw [Addr.add_lit]
   have h1 := hc j u hj
   rw [← h1]
   exact World.cell?_alloc_past _ _ _ hb
  have HLL : Hid ((sC l).length = m * 2) := by show _ = _; rw [sC_len, hl]
  clear hc
  go_wp2_with (at_builtin; refine append_two (P := Tryz.prog) _ rfl _ _ 45 rfl wz.heap.size 53 i0 _ 2 24 Tryz.underlying45 hi hz0 hz1 hz2 rfl (by omega) (.slice (some ⟨wz.heap.size, 0, none⟩) 0 0) 0 [] rfl (zA HN) ⟨b, off, none⟩ m mc (sC l) rfl (zA HLL) (zA HC) (sC_ones l) (by omega) (by unfold maxLen; omega) (by omega) (by simp) ?_; intro g cap2 y hy hhow)
  rw [Nat.zero_add] at hy
  exact ⟨hy, narrowO (kA wz (.cells #[] 53)) (grow_keeps hhow) (fun q f => by
   have : wz.heap.size = q := by simpa [Value.ownBlock] using f
   omega)⟩
set_option maxRecDepth 1000000 in
theorem reg48  {h : Hd} {xo yo : Option Addr} {xn xc yn yc : Nat} {i : Nat} {L : List Rowp} {P : Nat → Prop} {w3 w0 : World} {b1 : Nat} {hh : Bool} {p q : Value} {wz : World} (hn : h.hs.length ≤ 4194304) (HS : St w3 w0 wz L P) (hL : L[i]? = some (h.row 25)) (hb1 : P b1) (e1 : w0.heap[b1]? = some (.cells #[.bool hh, .slice xo xn xc, p, q] 38 (0, 0))) :
  Code.wp Tryz.prog (regn 48) (fun e a' w' => e = .normal ∧ ∃ u9 u243 u244 u245 u246 u247 u248 u249 : Value, a' = ⟨List.toArray (D0::D1::D2::D3::D4::D5::D6::D7::D8::u9::Da::Db::Dc::Dd::De::Df::(.pointer (some ⟨b1, 0, none⟩))::Dh::Di::Dj::Dk::Dl::Dm::Dn::Do::Dp::Dq::Dr::Ds::Dt::Du::Dv::Dw::Dx::Dy::(.slice yo yn yc)::E0::E1::E2::E3::E4::E5::E6::E7::E8::E9::Ea::Eb::Ec::Ed::Ee::Ef::Eg::Eh::Ei::Ej::Ek::El::Em::En::Eo::Ep::Eq::Er::Es::Et::Eu::Ev::Ew::Ex::Ey::Ez::G0::G1::G2::G3::G4::G5::G6::G7::G8::G9::Ga::Gb::Gc::Gd::Ge::Gf::Gg::Gh::Gi::Gj::Gk::Gl::Gm::Gn::Go::Gp::Gq::Gr::Gs::Gt::Gu::Gv::Gw::Gx::Gy::Gz::J0::J1::J2::J3::J4::J5::J6::J7::J8::J9::Ja::Jb::Jc::Jd::Je::Jf::Jg::Jh::Ji::Jj::Jk::Jl::Jm::Jn::Jo::Jp::Jq::Jr::Js::Jt::Ju::Jv::Jw::Jx::Jy::Jz::M0::M1::M2::M3::M4::M5::M6::M7::M8::M9::Ma::Mb::Mc::Md::Me::Mf::Mg::Mh::Mi::Mj::Mk::Ml::Mm::Mn::Mo::Mp::Mq::Mr::Ms::Mt::Mu::Mv::Mw::Mx::My::Mz::R0::R1::R2::R3::R4::R5::R6::R7::R8::R9::Ra::Rb::Rc::Rd::Re::Rf::Rg::Rh::Ri::Rj::Rk::Rl::Rm::Rn::Ro::Rp::Rq::Rr::Rs::Rt::Ru::Rv::Rw::Rx::Ry::Rz::U0::U1::U2::U3::U4::U5::U6::U7::U8::U9::Ua::Ub::Uc::Ud::Ue::Uf::Ug::Uh::Ui::Uj::Uk::Ul::Um::Un::Uo::Up::Uq::u243::u244::u245::u246::u247::u248::u249::Uy::Uz::X0::X1::X2::X3::X4::X5::X6::X7::X8::X9::Xa::Xb::Xc::Xd::Xe::Xf::Xg::Xh::Xi::Xj::Xk::Xl::Xm::Xn::Xo::Xp::Xq::Xr::Xs::Xt::Xu::Xv::Xw::Xx::Xy::Xz::Y0::Y1::Y2::Y3::Y4::Y5::Y6::Y7::Y8::Y9::Ya::Yb::Yc::Yd::Ye::Yf::Yg::Yh::Yi::Yj::Yk::Yl::Ym::[]), []⟩ ∧ ∃ h2 : Hd, u9 = h2.v ∧ h2.hs = h.hs ++ [.slice xo xn xc, .slice yo yn yc] ∧ St w3 w0 w' (L.set i (h2.row 25)) P) ⟨List.toArray (D0::D1::D2::D3::D4::D5::D6::D7::D8::h.v::Da::Db::Dc::Dd::De::Df::(.pointer (some ⟨b1, 0, none⟩))::Dh::Di::Dj::Dk::Dl::Dm::Dn::Do::Dp::Dq::Dr::Ds::Dt::Du::Dv::Dw::Dx::Dy::(.slice yo yn yc)::E0::E1::E2::E3::E4::E5::E6::E7::E8::E9::Ea::Eb::Ec::Ed::Ee::Ef::Eg::Eh::Ei::Ej::Ek::El::Em::En::Eo::Ep::Eq::Er::Es::Et::Eu::Ev::Ew::Ex::Ey::Ez::G0::G1::G2::G3::G4::G5::G6::G7::G8::G9::Ga::Gb::Gc::Gd::Ge::Gf::Gg::Gh::Gi::Gj::Gk::Gl::Gm::Gn::Go::Gp::Gq::Gr::Gs::Gt::Gu::Gv::Gw::Gx::Gy::Gz::J0::J1::J2::J3::J4::J5::J6::J7::J8::J9::Ja::Jb::Jc::Jd::Je::Jf::Jg::Jh::Ji::Jj::Jk::Jl::Jm::Jn::Jo::Jp::Jq::Jr::Js::Jt::Ju::Jv::Jw::Jx::Jy::Jz::M0::M1::M2::M3::M4::M5::M6::M7::M8::M9::Ma::Mb::Mc::Md::Me::Mf::Mg::Mh::Mi::Mj::Mk::Ml::Mm::Mn::Mo::Mp::Mq::Mr::Ms::Mt::Mu::Mv::Mw::Mx::My::Mz::R0::R1::R2::R3::R4::R5::R6::R7::R8::R9::Ra::Rb::Rc::Rd::Re::Rf::Rg::Rh::Ri::Rj::Rk::Rl::Rm::Rn::Ro::Rp::Rq::Rr::Rs::Rt::Ru::Rv::Rw::Rx::Ry::Rz::U0::U1::U2::U3::U4::U5::U6::U7::U8::U9::Ua::Ub::Uc::Ud::Ue::Uf::Ug::Uh::Ui::Uj::Uk::Ul::Um::Un::Uo::Up::Uq::Ur::Us::Ut::Uu::Uv::Uw::Ux::Uy::Uz::X0::X1::X2::X3::X4::X5::X6::X7::X8::X9::Xa::Xb::Xc::Xd::Xe::Xf::Xg::Xh::Xi::Xj::Xk::Xl::Xm::Xn::Xo::Xp::Xq::Xr::Xs::Xt::Xu::Xv::Xw::Xx::Xy::Xz::Y0::Y1::Y2::Y3::Y4::Y5::Y6::Y7::Y8::Y9::Ya::Yb::Yc::Yd::Ye::Yf::Yg::Yh::Yi::Yj::Yk::Yl::Ym::[]), []⟩ wz := by
 conv => arg 2; whnf
 have HT := zB HS
 have HL := zB hL
 have q1 := zC (HS.blk hb1 e1) 1
 simp at q1
 have HO := zB (HS.ati hL).x
 have HB : Hid (w3.heap.size ≤ wz.heap.size) := HS.base
 clear HS hL
 have HC : Hid (∀ (j : Nat) (u : Value), [Value.slice xo xn xc, .slice yo yn yc][j]? = some u → (wz.alloc (.cells #[.slice xo xn xc, .slice yo yn yc] 25)).cell? ⟨wz.heap.size, j, none⟩ = some u) := fun j u hj => by
  rw [zC (heap_alloc_new wz (.cells #[.slice xo xn xc, .slice yo yn yc] 25)) j]
  rw [← hj]
  simp
 go_wp2_with (at_builtin; refine append_hdrs 31 25 (by kernel_rfl) (.slice none 0 0) (by kernel_rfl) rfl rfl _ _ rfl w3.heap.size h.v h.hs.length h.hs rfl (own_alloc (zA HO) _) wz.heap.size 2 2 [Value.slice xo xn xc, .slice yo yn yc] rfl rfl (zA HC) (by intro u hu; simp at hu; rcases hu with rfl | rfl <;> rfl) (by omega) (by omega) (Nat.le_trans (zA HB) (by simp)) ?_; intro g cap y HG)
 refine ⟨⟨.slice (some ⟨g, 0, none⟩) (h.hs.length + 2) cap, h.hs ++ [.slice xo xn xc, .slice yo yn yc]⟩, rfl, rfl, ?_⟩
 rw [← grown_row (zA HG)]
 exact (zA HT).growSelfAt (zA HL) (zA HG)
set_option maxRecDepth 1000000 in
theorem reg49  {h : Hd} {xo yo : Option Addr} {xn xc yn yc : Nat} {i : Nat} {L : List Rowp} {P : Nat → Prop} {w3 w0 : World} {wz : World} (hn : h.hs.length ≤ 4194304) (HS : St w3 w0 wz L P) (hL : L[i]? = some (h.row 25)) :
  Code.wp Tryz.prog (regn 49) (fun e a' w' => e = .normal ∧ ∃ u10 u250 u251 u252 u253 u254 : Value, a' = ⟨List.toArray (D0::D1::D2::D3::D4::D5::D6::D7::D8::D9::u10::Db::Dc::Dd::De::Df::Dg::Dh::Di::Dj::Dk::Dl::Dm::Dn::Do::Dp::Dq::Dr::Ds::Dt::Du::(.slice xo xn xc)::Dw::Dx::Dy::Dz::(.slice yo yn yc)::E1::E2::E3::E4::E5::E6::E7::E8::E9::Ea::Eb::Ec::Ed::Ee::Ef::Eg::Eh::Ei::Ej::Ek::El::Em::En::Eo::Ep::Eq::Er::Es::Et::Eu::Ev::Ew::Ex::Ey::Ez::G0::G1::G2::G3::G4::G5::G6::G7::G8::G9::Ga::Gb::Gc::Gd::Ge::Gf::Gg::Gh::Gi::Gj::Gk::Gl::Gm::Gn::Go::Gp::Gq::Gr::Gs::Gt::Gu::Gv::Gw::Gx::Gy::Gz::J0::J1::J2::J3::J4::J5::J6::J7::J8::J9::Ja::Jb::Jc::Jd::Je::Jf::Jg::Jh::Ji::Jj::Jk::Jl::Jm::Jn::Jo::Jp::Jq::Jr::Js::Jt::Ju::Jv::Jw::Jx::Jy::Jz::M0::M1::M2::M3::M4::M5::M6::M7::M8::M9::Ma::Mb::Mc::Md::Me::Mf::Mg::Mh::Mi::Mj::Mk::Ml::Mm::Mn::Mo::Mp::Mq::Mr::Ms::Mt::Mu::Mv::Mw::Mx::My::Mz::R0::R1::R2::R3::R4::R5::R6::R7::R8::R9::Ra::Rb::Rc::Rd::Re::Rf::Rg::Rh::Ri::Rj::Rk::Rl::Rm::Rn::Ro::Rp::Rq::Rr::Rs::Rt::Ru::Rv::Rw::Rx::Ry::Rz::U0::U1::U2::U3::U4::U5::U6::U7::U8::U9::Ua::Ub::Uc::Ud::Ue::Uf::Ug::Uh::Ui::Uj::Uk::Ul::Um::Un::Uo::Up::Uq::Ur::Us::Ut::Uu::Uv::Uw::Ux::u250::u251::u252::u253::u254::X3::X4::X5::X6::X7::X8::X9::Xa::Xb::Xc::Xd::Xe::Xf::Xg::Xh::Xi::Xj::Xk::Xl::Xm::Xn::Xo::Xp::Xq::Xr::Xs::Xt::Xu::Xv::Xw::Xx::Xy::Xz::Y0::Y1::Y2::Y3::Y4::Y5::Y6::Y7::Y8::Y9::Ya::Yb::Yc::Yd::Ye::Yf::Yg::Yh::Yi::Yj::Yk::Yl::Ym::[]), []⟩ ∧ ∃ h2 : Hd, u10 = h2.v ∧ h2.hs = h.hs ++ [.slice xo xn xc, .slice yo yn yc] ∧ St w3 w0 w' (L.set i (h2.row 25)) P) ⟨List.toArray (D0::D1::D2::D3::D4::D5::D6::D7::D8::D9::h.v::Db::Dc::Dd::De::Df::Dg::Dh::Di::Dj::Dk::Dl::Dm::Dn::Do::Dp::Dq::Dr::Ds::Dt::Du::(.slice xo xn xc)::Dw::Dx::Dy::Dz::(.slice yo yn yc)::E1::E2::E3::E4::E5::E6::E7::E8::E9::Ea::Eb::Ec::Ed::Ee::Ef::Eg::Eh::Ei::Ej::Ek::El::Em::En::Eo::Ep::Eq::Er::Es::Et::Eu::Ev::Ew::Ex::Ey::Ez::G0::G1::G2::G3::G4::G5::G6::G7::G8::G9::Ga::Gb::Gc::Gd::Ge::Gf::Gg::Gh::Gi::Gj::Gk::Gl::Gm::Gn::Go::Gp::Gq::Gr::Gs::Gt::Gu::Gv::Gw::Gx::Gy::Gz::J0::J1::J2::J3::J4::J5::J6::J7::J8::J9::Ja::Jb::Jc::Jd::Je::Jf::Jg::Jh::Ji::Jj::Jk::Jl::Jm::Jn::Jo::Jp::Jq::Jr::Js::Jt::Ju::Jv::Jw::Jx::Jy::Jz::M0::M1::M2::M3::M4::M5::M6::M7::M8::M9::Ma::Mb::Mc::Md::Me::Mf::Mg::Mh::Mi::Mj::Mk::Ml::Mm::Mn::Mo::Mp::Mq::Mr::Ms::Mt::Mu::Mv::Mw::Mx::My::Mz::R0::R1::R2::R3::R4::R5::R6::R7::R8::R9::Ra::Rb::Rc::Rd::Re::Rf::Rg::Rh::Ri::Rj::Rk::Rl::Rm::Rn::Ro::Rp::Rq::Rr::Rs::Rt::Ru::Rv::Rw::Rx::Ry::Rz::U0::U1::U2::U3::U4::U5::U6::U7::U8::U9::Ua::Ub::Uc::Ud::Ue::Uf::Ug::Uh::Ui::Uj::Uk::Ul::Um::Un::Uo::Up::Uq::Ur::Us::Ut::Uu::Uv::Uw::Ux::Uy::Uz::X0::X1::X2::X3::X4::X5::X6::X7::X8::X9::Xa::Xb::Xc::Xd::Xe::Xf::Xg::Xh::Xi::Xj::Xk::Xl::Xm::Xn::Xo::Xp::Xq::Xr::Xs::Xt::Xu::Xv::Xw::Xx::Xy::Xz::Y0::Y1::Y2::Y3::Y4::Y5::Y6::Y7::Y8::Y9::Ya::Yb::Yc::Yd::Ye::Yf::Yg::Yh::Yi::Yj::Yk::Yl::Ym::[]), []⟩ wz := by
 conv => arg 2; whnf
 have HT := zB HS
 have HL := zB hL
 have HO := zB (HS.ati hL).x
 have HB : Hid (w3.heap.size ≤ wz.heap.size) := HS.base
 clear HS hL
 have HC : Hid (∀ (j : Nat) (u : Value), [Value.slice xo xn xc, .slice yo yn yc][j]? = some u → (wz.alloc (.cells #[.slice xo xn xc, .slice yo yn yc] 25)).cell? ⟨wz.heap.size, j, none⟩ = some u) := fun j u hj => by
  rw [zC (heap_alloc_new wz (.cells #[.slice xo xn xc, .slice yo yn yc] 25)) j]
  rw [← hj]
  simp
 go_wp2_with (at_builtin; refine append_hdrs 31 25 (by kernel_rfl) (.slice none 0 0) (by kernel_rfl) rfl rfl _ _ rfl w3.heap.size h.v h.hs.length h.hs rfl (own_alloc (zA HO) _) wz.heap.size 2 2 [Value.slice xo xn xc, .slice yo yn yc] rfl rfl (zA HC) (by intro u hu; simp at hu; rcases hu with rfl | rfl <;> rfl) (by omega) (by omega) (Nat.le_trans (zA HB) (by simp)) ?_; intro g cap y HG)
 refine ⟨⟨.slice (some ⟨g, 0, none⟩) (h.hs.length + 2) cap, h.hs ++ [.slice xo xn xc, .slice yo yn yc]⟩, rfl, rfl, ?_⟩
 rw [← grown_row (zA HG)]
 exact (zA HT).growSelfAt (zA HL) (zA HG)
set_option maxRecDepth 1000000 in
theorem reg50  {h : Hd} {xo yo : Option Addr} {xn xc yn yc : Nat} {i : Nat} {L : List Rowp} {P : Nat → Prop} {w3 w0 : World} {wz : World} (hn : h.hs.length ≤ 4194304) (HS : St w3 w0 wz L P) (hL : L[i]? = some (h.row 45)) :
  Code.wp Tryz.prog (regn 50) (fun e a' w' => e = .normal ∧ ∃ u11 u255 u256 u257 u258 u259 : Value, a' = ⟨List.toArray (D0::D1::D2::D3::D4::D5::D6::D7::D8::D9::Da::u11::Dc::Dd::De::Df::Dg::Dh::Di::Dj::(.slice xo xn xc)::Dl::Dm::Dn::Do::Dp::Dq::Dr::Ds::Dt::Du::Dv::Dw::Dx::Dy::Dz::E0::(.slice yo yn yc)::E2::E3::E4::E5::E6::E7::E8::E9::Ea::Eb::Ec::Ed::Ee::Ef::Eg::Eh::Ei::Ej::Ek::El::Em::En::Eo::Ep::Eq::Er::Es::Et::Eu::Ev::Ew::Ex::Ey::Ez::G0::G1::G2::G3::G4::G5::G6::G7::G8::G9::Ga::Gb::Gc::Gd::Ge::Gf::Gg::Gh::Gi::Gj::Gk::Gl::Gm::Gn::Go::Gp::Gq::Gr::Gs::Gt::Gu::Gv::Gw::Gx::Gy::Gz::J0::J1::J2::J3::J4::J5::J6::J7::J8::J9::Ja::Jb::Jc::Jd::Je::Jf::Jg::Jh::Ji::Jj::Jk::Jl::Jm::Jn::Jo::Jp::Jq::Jr::Js::Jt::Ju::Jv::Jw::Jx::Jy::Jz::M0::M1::M2::M3::M4::M5::M6::M7::M8::M9::Ma::Mb::Mc::Md::Me::Mf::Mg::Mh::Mi::Mj::Mk::Ml::Mm::Mn::Mo::Mp::Mq::Mr::Ms::Mt::Mu::Mv::Mw::Mx::My::Mz::R0::R1::R2::R3::R4::R5::R6::R7::R8::R9::Ra::Rb::Rc::Rd::Re::Rf::Rg::Rh::Ri::Rj::Rk::Rl::Rm::Rn::Ro::Rp::Rq::Rr::Rs::Rt::Ru::Rv::Rw::Rx::Ry::Rz::U0::U1::U2::U3::U4::U5::U6::U7::U8::U9::Ua::Ub::Uc::Ud::Ue::Uf::Ug::Uh::Ui::Uj::Uk::Ul::Um::Un::Uo::Up::Uq::Ur::Us::Ut::Uu::Uv::Uw::Ux::Uy::Uz::X0::X1::X2::u255::u256::u257::u258::u259::X8::X9::Xa::Xb::Xc::Xd::Xe::Xf::Xg::Xh::Xi::Xj::Xk::Xl::Xm::Xn::Xo::Xp::Xq::Xr::Xs::Xt::Xu::Xv::Xw::Xx::Xy::Xz::Y0::Y1::Y2::Y3::Y4::Y5::Y6::Y7::Y8::Y9::Ya::Yb::Yc::Yd::Ye::Yf::Yg::Yh::Yi::Yj::Yk::Yl::Ym::[]), []⟩ ∧ ∃ h2 : Hd, u11 = h2.v ∧ h2.hs = h.hs ++ [.slice xo xn xc, .slice yo yn yc] ∧ St w3 w0 w' (L.set i (h2.row 45)) P) ⟨List.toArray (D0::D1::D2::D3::D4::D5::D6::D7::D8::D9::Da::h.v::Dc::Dd::De::Df::Dg::Dh::Di::Dj::(.slice xo xn xc)::Dl::Dm::Dn::Do::Dp::Dq::Dr::Ds::Dt::Du::Dv::Dw::Dx::Dy::Dz::E0::(.slice yo yn yc)::E2::E3::E4::E5::E6::E7::E8::E9::Ea::Eb::Ec::Ed::Ee::Ef::Eg::Eh::Ei::Ej::Ek::El::Em::En::Eo::Ep::Eq::Er::Es::Et::Eu::Ev::Ew::Ex::Ey::Ez::G0::G1::G2::G3::G4::G5::G6::G7::G8::G9::Ga::Gb::Gc::Gd::Ge::Gf::Gg::Gh::Gi::Gj::Gk::Gl::Gm::Gn::Go::Gp::Gq::Gr::Gs::Gt::Gu::Gv::Gw::Gx::Gy::Gz::J0::J1::J2::J3::J4::J5::J6::J7::J8::J9::Ja::Jb::Jc::Jd::Je::Jf::Jg::Jh::Ji::Jj::Jk::Jl::Jm::Jn::Jo::Jp::Jq::Jr::Js::Jt::Ju::Jv::Jw::Jx::Jy::Jz::M0::M1::M2::M3::M4::M5::M6::M7::M8::M9::Ma::Mb::Mc::Md::Me::Mf::Mg::Mh::Mi::Mj::Mk::Ml::Mm::Mn::Mo::Mp::Mq::Mr::Ms::Mt::Mu::Mv::Mw::Mx::My::Mz::R0::R1::R2::R3::R4::R5::R6::R7::R8::R9::Ra::Rb::Rc::Rd::Re::Rf::Rg::Rh::Ri::Rj::Rk::Rl::Rm::Rn::Ro::Rp::Rq::Rr::Rs::Rt::Ru::Rv::Rw::Rx::Ry::Rz::U0::U1::U2::U3::U4::U5::U6::U7::U8::U9::Ua::Ub::Uc::Ud::Ue::Uf::Ug::Uh::Ui::Uj::Uk::Ul::Um::Un::Uo::Up::Uq::Ur::Us::Ut::Uu::Uv::Uw::Ux::Uy::Uz::X0::X1::X2::X3::X4::X5::X6::X7::X8::X9::Xa::Xb::Xc::Xd::Xe::Xf::Xg::Xh::Xi::Xj::Xk::Xl::Xm::Xn::Xo::Xp::Xq::Xr::Xs::Xt::Xu::Xv::Xw::Xx::Xy::Xz::Y0::Y1::Y2::Y3::Y4::Y5::Y6::Y7::Y8::Y9::Ya::Yb::Yc::Yd::Ye::Yf::Yg::Yh::Yi::Yj::Yk::Yl::Ym::[]), []⟩ wz := by
 conv => arg 2; whnf
 have HT := zB HS
 have HL := zB hL
 have HO := zB (HS.ati hL).x
 have HB : Hid (w3.heap.size ≤ wz.heap.size) := HS.base
 clear HS hL
 have HC : Hid (∀ (j : Nat) (u : Value), [Value.slice xo xn xc, .slice yo yn yc][j]? = some u → (wz.alloc (.cells #[.slice xo xn xc, .slice yo yn yc] 45)).cell? ⟨wz.heap.size, j, none⟩ = some u) := fun j u hj => by
  rw [zC (heap_alloc_new wz (.cells #[.slice xo xn xc, .slice yo yn yc] 45)) j]
  rw [← hj]
  simp
 go_wp2_with (at_builtin; refine append_hdrs 32 45 (by kernel_rfl) (.slice none 0 0) (by kernel_rfl) rfl rfl _ _ rfl w3.heap.size h.v h.hs.length h.hs rfl (own_alloc (zA HO) _) wz.heap.size 2 2 [Value.slice xo xn xc, .slice yo yn yc] rfl rfl (zA HC) (by intro u hu; simp at hu; rcases hu with rfl | rfl <;> rfl) (by omega) (by omega) (Nat.le_trans (zA HB) (by simp)) ?_; intro g cap y HG)
 refine ⟨⟨.slice (some ⟨g, 0, none⟩) (h.hs.length + 2) cap, h.hs ++ [.slice xo xn xc, .slice yo yn yc]⟩, rfl, rfl, ?_⟩
 rw [← grown_row (zA HG)]
 exact (zA HT).growSelfAt (zA HL) (zA HG)
set_option maxRecDepth 1000000 in
theorem reg51  {h : Hd} {xo yo : Option Addr} {xn xc yn yc : Nat} {i : Nat} {L : List Rowp} {P : Nat → Prop} {w3 w0 : World} {wz : World} (hn : h.hs.length ≤ 4194304) (HS : St w3 w0 wz L P) (hL : L[i]? = some (h.row 45)) :
  Code.wp Tryz.prog (regn 51) (fun e a' w' => e = .normal ∧ ∃ u12 u260 u261 u262 u263 u264 : Value, a' = ⟨List.toArray (D0::D1::D2::D3::D4::D5::D6::D7::D8::D9::Da::Db::u12::Dd::De::Df::Dg::Dh::Di::Dj::Dk::Dl::Dm::Dn::Do::Dp::Dq::Dr::Ds::Dt::Du::Dv::Dw::(.slice xo xn xc)::Dy::Dz::E0::E1::(.slice yo yn yc)::E3::E4::E5::E6::E7::E8::E9::Ea::Eb::Ec::Ed::Ee::Ef::Eg::Eh::Ei::Ej::Ek::El::Em::En::Eo::Ep::Eq::Er::Es::Et::Eu::Ev::Ew::Ex::Ey::Ez::G0::G1::G2::G3::G4::G5::G6::G7::G8::G9::Ga::Gb::Gc::Gd::Ge::Gf::Gg::Gh::Gi::Gj::Gk::Gl::Gm::Gn::Go::Gp::Gq::Gr::Gs::Gt::Gu::Gv::Gw::Gx::Gy::Gz::J0::J1::J2::J3::J4::J5::J6::J7::J8::J9::Ja::Jb::Jc::Jd::Je::Jf::Jg::Jh::Ji::Jj::Jk::Jl::Jm::Jn::Jo::Jp::Jq::Jr::Js::Jt::Ju::Jv::Jw::Jx::Jy::Jz::M0::M1::M2::M3::M4::M5::M6::M7::M8::M9::Ma::Mb::Mc::Md::Me::Mf::Mg::Mh::Mi::Mj::Mk::Ml::Mm::Mn::Mo::Mp::Mq::Mr::Ms::Mt::Mu::Mv::Mw::Mx::My::Mz::R0::R1::R2::R3::R4::R5::R6::R7::R8::R9::Ra::Rb::Rc::Rd::Re::Rf::Rg::Rh::Ri::Rj::Rk::Rl::Rm::Rn::Ro::Rp::Rq::Rr::Rs::Rt::Ru::Rv::Rw::Rx::Ry::Rz::U0::U1::U2::U3::U4::U5::U6::U7::U8::U9::Ua::Ub::Uc::Ud::Ue::Uf::Ug::Uh::Ui::Uj::Uk::Ul::Um::Un::Uo::Up::Uq::Ur::Us::Ut::Uu::Uv::Uw::Ux::Uy::Uz::X0::X1::X2::X3::X4::X5::X6::X7::u260::u261::u262::u263::u264::Xd::Xe::Xf::Xg::Xh::Xi::Xj::Xk::Xl::Xm::Xn::Xo::Xp::Xq::Xr::Xs::Xt::Xu::Xv::Xw::Xx::Xy::Xz::Y0::Y1::Y2::Y3::Y4::Y5::Y6::Y7::Y8::Y9::Ya::Yb::Yc::Yd::Ye::Yf::Yg::Yh::Yi::Yj::Yk::Yl::Ym::[]), []⟩ ∧ ∃ h2 : Hd, u12 = h2.v ∧ h2.hs = h.hs ++ [.slice xo xn xc, .slice yo yn yc] ∧ St w3 w0 w' (L.set i (h2.row 45)) P) ⟨List.toArray (D0::D1::D2::D3::D4::D5::D6::D7::D8::D9::Da::Db::h.v::Dd::De::Df::Dg::Dh::Di::Dj::Dk::Dl::Dm::Dn::Do::Dp::Dq::Dr::Ds::Dt::Du::Dv::Dw::(.slice xo xn xc)::Dy::Dz::E0::E1::(.slice yo yn yc)::E3::E4::E5::E6::E7::E8::E9::Ea::Eb::Ec::Ed::Ee::Ef::Eg::Eh::Ei::Ej::Ek::El::Em::En::Eo::Ep::Eq::Er::Es::Et::Eu::Ev::Ew::Ex::Ey::Ez::G0::G1::G2::G3::G4::G5::G6::G7::G8::G9::Ga::Gb::Gc::Gd::Ge::Gf::Gg::Gh::Gi::Gj::Gk::Gl::Gm::Gn::Go::Gp::Gq::Gr::Gs::Gt::Gu::Gv::Gw::Gx::Gy::Gz::J0::J1::J2::J3::J4::J5::J6::J7::J8::J9::Ja::Jb::Jc::Jd::Je::Jf::Jg::Jh::Ji::Jj::Jk::Jl::Jm::Jn::Jo::Jp::Jq::Jr::Js::Jt::Ju::Jv::Jw::Jx::Jy::Jz::M0::M1::M2::M3::M4::M5::M6::M7::M8::M9::Ma::Mb::Mc::Md::Me::Mf::Mg::Mh::Mi::Mj::Mk::Ml::Mm::Mn::Mo::Mp::Mq::Mr::Ms::Mt::Mu::Mv::Mw::Mx::My::Mz::R0::R1::R2::R3::R4::R5::R6::R7::R8::R9::Ra::Rb::Rc::Rd::Re::Rf::Rg::Rh::Ri::Rj::Rk::Rl::Rm::Rn::Ro::Rp::Rq::Rr::Rs::Rt::Ru::Rv::Rw::Rx::Ry::Rz::U0::U1::U2::U3::U4::U5::U6::U7::U8::U9::Ua::Ub::Uc::Ud::Ue::Uf::Ug::Uh::Ui::Uj::Uk::Ul::Um::Un::Uo::Up::Uq::Ur::Us::Ut::Uu::Uv::Uw::Ux::Uy::Uz::X0::X1::X2::X3::X4::X5::X6::X7::X8::X9::Xa::Xb::Xc::Xd::Xe::Xf::Xg::Xh::Xi::Xj::Xk::Xl::Xm::Xn::Xo::Xp::Xq::Xr::Xs::Xt::Xu::Xv::Xw::Xx::Xy::Xz::Y0::Y1::Y2::Y3::Y4::Y5::Y6::Y7::Y8::Y9::Ya::Yb::Yc::Yd::Ye::Yf::Yg::Yh::Yi::Yj::Yk::Yl::Ym::[]), []⟩ wz := by
 conv => arg 2; whnf
 have HT := zB HS
 have HL := zB hL
 have HO := zB (HS.ati hL).x
 have HB : Hid (w3.heap.size ≤ wz.heap.size) := HS.base
 clear HS hL
 have HC : Hid (∀ (j : Nat) (u : Value), [Value.slice xo xn xc, .slice yo yn yc][j]? = some u → (wz.alloc (.cells #[.slice xo xn xc, .slice yo yn yc] 45)).cell? ⟨wz.heap.size, j, none⟩ = some u) := fun j u hj => by
  rw [zC (heap_alloc_new wz (.cells #[.slice xo xn xc, .slice yo yn yc] 45)) j]
  rw [← hj]
  simp
 go_wp2_with (at_builtin; refine append_hdrs 32 45 (by kernel_rfl) (.slice none 0 0) (by kernel_rfl) rfl rfl _ _ rfl w3.heap.size h.v h.hs.length h.hs rfl (own_alloc (zA HO) _) wz.heap.size 2 2 [Value.slice xo xn xc, .slice yo yn yc] rfl rfl (zA HC) (by intro u hu; simp at hu; rcases hu with rfl | rfl <;> rfl) (by omega) (by omega) (Nat.le_trans (zA HB) (by simp)) ?_; intro g cap y HG)
 refine ⟨⟨.slice (some ⟨g, 0, none⟩) (h.hs.length + 2) cap, h.hs ++ [.slice xo xn xc, .slice yo yn yc]⟩, rfl, rfl, ?_⟩
 rw [← grown_row (zA HG)]
 exact (zA HT).growSelfAt (zA HL) (zA HG)
end Go.Proofs.YtbdlcaamanhapaaGreatDoor
