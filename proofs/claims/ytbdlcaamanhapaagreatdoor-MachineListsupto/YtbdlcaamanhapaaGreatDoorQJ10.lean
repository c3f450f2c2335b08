import Derived.Test.YtbdlcaamanhapaaGreatDoorQJ
namespace Go.Proofs.YtbdlcaamanhapaaGreatDoor
open Go.RowKit Go.Maps
set_option maxHeartbeats 16000000
variable {D0 D1 D2 D3 D4 D5 D6 D7 D8 D9 Da Db Dc Dd De Df Dg Dh Di Dj Dk Dl Dm Dn Do Dp Dq Dr Ds Dt Du Dv Dw Dx Dy Dz E0 E1 E2 E3 E4 E5 E6 E7 E8 E9 Ea Eb Ec Ed Ee Ef Eg Eh Ei Ej Ek El Em En Eo Ep Eq Er Es Et Eu Ev Ew Ex Ey Ez G0 G1 G2 G3 G4 G5 G6 G7 G8 G9 Ga Gb Gc Gd Ge Gf Gg Gh Gi Gj Gk Gl Gm Gn Go Gp Gq Gr Gs Gt Gu Gv Gw Gx Gy Gz J0 J1 J2 J3 J4 J5 J6 J7 J8 J9 Ja Jb Jc Jd Je Jf Jg Jh Ji Jj Jk Jl Jm Jn Jo Jp Jq Jr Js Jt Ju Jv Jw Jx Jy Jz M0 M1 M2 M3 M4 M5 M6 M7 M8 M9 Ma Mb Mc Md Me Mf Mg Mh Mi Mj Mk Ml Mm Mn Mo Mp Mq Mr Ms Mt Mu Mv Mw Mx My Mz R0 R1 R2 R3 R4 R5 R6 R7 R8 R9 Ra Rb Rc Rd Re Rf Rg Rh Ri Rj Rk Rl Rm Rn Ro Rp Rq Rr Rs Rt Ru Rv Rw Rx Ry Rz U0 U1 U2 U3 U4 U5 U6 U7 U8 U9 Ua Ub Uc Ud Ue Uf Ug Uh Ui Uj Uk Ul Um Un Uo Up Uq Ur Us Ut Uu Uv Uw Ux Uy Uz X0 X1 X2 X3 X4 X5 X6 X7 X8 X9 Xa Xb Xc Xd Xe Xf Xg Xh Xi Xj Xk Xl Xm Xn Xo Xp Xq Xr Xs Xt Xu Xv Xw Xx Xy Xz Y0 Y1 Y2 Y3 Y4 Y5 Y6 Y7 Y8 Y9 Ya Yb Yc Yd Ye Yf Yg Yh Yi Yj Yk Yl Ym : Value}
set_option maxRecDepth 1000000 in
theorem reg10  {S : List Wq} {L V : List ValA} {hh : Bool} {so lo uo : Option Addr} {sc lc uc cb co cc N n sb rb : Nat}  {wz : World} (hE : Env wz) (hS : Wt wz (.slice so S.length sc) S) (hcell : wz.cell? ⟨cb, co + n, none⟩ = some (.slice lo L.length lc)) (hL : Wr wz (.slice lo L.length lc) L) (hV : Wr wz (.slice uo V.length uc) V) (hb0 : wz.heap[sb]? = some (.cells #[(.slice so S.length sc)] 24 (0, 0))) (hb1 : wz.heap[rb]? = some (.cells #[.bool hh, (.slice uo V.length uc)] 27 (0, 0))) (HLI : InR L) (hn : n < N) (hN : N ≤ 1048576) (nS : S.length ≤ 1048576) (nL : L.length ≤ 1048576) (nV : V.length ≤ 1048576) :
  Code.wp Tryz.prog (regn 10) (fun e a' w' => e = .normal ∧ ∃ u14 u50 u51 u52 u53 u54 u55 u56 : Value, a' = ⟨List.toArray (D0::D1::(.slice (some ⟨cb, co, none⟩) N cc)::(.pointer (some ⟨sb, 0, none⟩))::(.pointer (some ⟨rb, 0, none⟩))::D5::D6::D7::D8::D9::Da::Db::Dc::(.int .i64 (n : Int))::u14::Df::Dg::Dh::Di::Dj::Dk::Dl::Dm::Dn::Do::Dp::Dq::Dr::Ds::Dt::Du::Dv::Dw::Dx::Dy::Dz::E0::E1::E2::E3::E4::E5::E6::E7::E8::E9::Ea::Eb::Ec::Ed::u50::u51::u52::u53::u54::u55::u56::El::Em::En::Eo::Ep::Eq::Er::Es::Et::Eu::Ev::Ew::Ex::Ey::Ez::G0::G1::G2::G3::G4::G5::G6::G7::G8::G9::Ga::Gb::Gc::Gd::Ge::Gf::Gg::Gh::Gi::Gj::Gk::Gl::Gm::Gn::Go::Gp::Gq::Gr::Gs::Gt::Gu::Gv::Gw::Gx::Gy::Gz::J0::J1::J2::J3::J4::J5::J6::J7::J8::J9::Ja::Jb::Jc::Jd::Je::Jf::Jg::Jh::Ji::Jj::Jk::Jl::Jm::Jn::Jo::Jp::Jq::Jr::Js::Jt::Ju::Jv::Jw::Jx::Jy::Jz::M0::M1::M2::M3::M4::M5::M6::M7::M8::M9::Ma::Mb::Mc::Md::Me::Mf::Mg::Mh::Mi::Mj::Mk::Ml::Mm::Mn::Mo::Mp::Mq::Mr::Ms::Mt::Mu::Mv::Mw::Mx::My::Mz::R0::R1::R2::R3::R4::R5::R6::R7::R8::R9::Ra::Rb::Rc::Rd::Re::Rf::Rg::Rh::Ri::Rj::Rk::Rl::Rm::Rn::Ro::Rp::Rq::Rr::Rs::Rt::Ru::Rv::Rw::Rx::Ry::Rz::U0::U1::U2::U3::U4::U5::U6::U7::U8::U9::Ua::Ub::Uc::Ud::Ue::Uf::Ug::Uh::Ui::Uj::Uk::Ul::Um::Un::Uo::Up::Uq::Ur::Us::Ut::Uu::Uv::Uw::Ux::Uy::Uz::X0::X1::X2::X3::X4::X5::X6::X7::X8::X9::Xa::Xb::Xc::Xd::Xe::Xf::Xg::Xh::Xi::Xj::Xk::Xl::Xm::Xn::Xo::Xp::Xq::Xr::Xs::Xt::Xu::Xv::Xw::Xx::Xy::Xz::Y0::Y1::Y2::Y3::Y4::Y5::Y6::Y7::Y8::Y9::Ya::Yb::Yc::Yd::Ye::Yf::Yg::Yh::Yi::Yj::Yk::Yl::Ym::[]), []⟩ ∧ ∃ p gs ks gc kc gb kb gr kr, u14 = .pointer (some ⟨p, 0, none⟩) ∧ GivenAt w' p S L [] hh V gs ks gc kc gb kb gr kr ∧ Wp (fun _ => False) wz w') ⟨List.toArray (D0::D1::(.slice (some ⟨cb, co, none⟩) N cc)::(.pointer (some ⟨sb, 0, none⟩))::(.pointer (some ⟨rb, 0, none⟩))::D5::D6::D7::D8::D9::Da::Db::Dc::(.int .i64 (n : Int))::De::Df::Dg::Dh::Di::Dj::Dk::Dl::Dm::Dn::Do::Dp::Dq::Dr::Ds::Dt::Du::Dv::Dw::Dx::Dy::Dz::E0::E1::E2::E3::E4::E5::E6::E7::E8::E9::Ea::Eb::Ec::Ed::Ee::Ef::Eg::Eh::Ei::Ej::Ek::El::Em::En::Eo::Ep::Eq::Er::Es::Et::Eu::Ev::Ew::Ex::Ey::Ez::G0::G1::G2::G3::G4::G5::G6::G7::G8::G9::Ga::Gb::Gc::Gd::Ge::Gf::Gg::Gh::Gi::Gj::Gk::Gl::Gm::Gn::Go::Gp::Gq::Gr::Gs::Gt::Gu::Gv::Gw::Gx::Gy::Gz::J0::J1::J2::J3::J4::J5::J6::J7::J8::J9::Ja::Jb::Jc::Jd::Je::Jf::Jg::Jh::Ji::Jj::Jk::Jl::Jm::Jn::Jo::Jp::Jq::Jr::Js::Jt::Ju::Jv::Jw::Jx::Jy::Jz::M0::M1::M2::M3::M4::M5::M6::M7::M8::M9::Ma::Mb::Mc::Md::Me::Mf::Mg::Mh::Mi::Mj::Mk::Ml::Mm::Mn::Mo::Mp::Mq::Mr::Ms::Mt::Mu::Mv::Mw::Mx::My::Mz::R0::R1::R2::R3::R4::R5::R6::R7::R8::R9::Ra::Rb::Rc::Rd::Re::Rf::Rg::Rh::Ri::Rj::Rk::Rl::Rm::Rn::Ro::Rp::Rq::Rr::Rs::Rt::Ru::Rv::Rw::Rx::Ry::Rz::U0::U1::U2::U3::U4::U5::U6::U7::U8::U9::Ua::Ub::Uc::Ud::Ue::Uf::Ug::Uh::Ui::Uj::Uk::Ul::Um::Un::Uo::Up::Uq::Ur::Us::Ut::Uu::Uv::Uw::Ux::Uy::Uz::X0::X1::X2::X3::X4::X5::X6::X7::X8::X9::Xa::Xb::Xc::Xd::Xe::Xf::Xg::Xh::Xi::Xj::Xk::Xl::Xm::Xn::Xo::Xp::Xq::Xr::Xs::Xt::Xu::Xv::Xw::Xx::Xy::Xz::Y0::Y1::Y2::Y3::Y4::Y5::Y6::Y7::Y8::Y9::Ya::Yb::Yc::Yd::Ye::Yf::Yg::Yh::Yi::Yj::Yk::Yl::Ym::[]), []⟩ wz := by
 conv => arg 2; whnf
 refine wp_gen (fun K HQ => ?_)
 have HNN := zB (And.intro nS (And.intro nL nV))
 clear HNN
 have HE := zB (And.intro hE (And.intro hS (And.intro hL (And.intro hV (And.intro hb0 (And.intro hb1 HLI))))))
 have HCC := zB (fun (Z : World) (h : Wp (fun _ => False) wz Z) => cell_keep hcell h)
 have i1 : (n : Int) < (N : Int) := by omega
 have i0 : (0 : Int) ≤ (n : Int) := by omega
 have hn2 : (n : Int) ≤ 1048576 := by omega
 have hkd := (Wp.refl (fun _ => False) wz).drew
 have H := zB (given_v S L [] hh V (.slice so S.length sc) (.slice lo L.length lc) (.slice none 0 0) (.slice uo V.length uc) wz.drew (hS.keepF hkd) (hL.keepF hkd) (bytes_none _) (hV.keepF hkd) nS nL (Nat.zero_le _) nV)
 have c1_ := cl1 (zD hb0 hkd)
 obtain ⟨c2_, c3_⟩ := cl2 (zD hb1 hkd)
 have c4_ := (zA HCC) _ hkd
 clear hE hS hL hV hb0 hb1 HLI hcell hn hN hkd
 go_region_law (first
  | (go_simp
     refine (zA H).mono ?_
     rintro e y ⟨p, gs, ks, gc, kc, gb, kb, gr, kr, rfl, hg, hk⟩
     have HG := zB hg
     have HK := zB ((Wp.refl (fun _ => False) wz).drew.trans hk)
     clear hg hk
     dsimp only))
 all_goals (go_wp2_with fail; (refine (zA HQ) _ _ ⟨(by first | rfl | trivial), _, _, _, _, _, _, _, _, rfl, ?_⟩; exact ⟨p, gs, ks, gc, kc, gb, kb, gr, kr, rfl, zA HG, zA HK⟩))
set_option maxRecDepth 1000000 in
theorem reg11  {S : List Wq} {L V : List ValA} {hh : Bool} {so lo uo : Option Addr} {sc lc uc cb co cc N n sb rb : Nat}  {wz : World} (hE : Env wz) (hS : Wt wz (.slice so S.length sc) S) (hcell : wz.cell? ⟨cb, co + n, none⟩ = some (.slice lo L.length lc)) (hL : Wr wz (.slice lo L.length lc) L) (hV : Wr wz (.slice uo V.length uc) V) (hb0 : wz.heap[sb]? = some (.cells #[(.slice so S.length sc)] 24 (0, 0))) (hb1 : wz.heap[rb]? = some (.cells #[.bool hh, (.slice uo V.length uc)] 27 (0, 0))) (HLI : InR L) (hn : n < N) (hN : N ≤ 1048576) (nS : S.length ≤ 1048576) (nL : L.length ≤ 1048576) (nV : V.length ≤ 1048576) :
  Code.wp Tryz.prog (regn 11) (fun e a' w' => e = .normal ∧ ∃ u15 u57 u58 u59 u60 u61 u62 u63 : Value, a' = ⟨List.toArray (D0::D1::(.slice (some ⟨cb, co, none⟩) N cc)::(.pointer (some ⟨sb, 0, none⟩))::(.pointer (some ⟨rb, 0, none⟩))::D5::D6::D7::D8::D9::Da::Db::Dc::(.int .i64 (n : Int))::De::u15::Dg::Dh::Di::Dj::Dk::Dl::Dm::Dn::Do::Dp::Dq::Dr::Ds::Dt::Du::Dv::Dw::Dx::Dy::Dz::E0::E1::E2::E3::E4::E5::E6::E7::E8::E9::Ea::Eb::Ec::Ed::Ee::Ef::Eg::Eh::Ei::Ej::Ek::u57::u58::u59::u60::u61::u62::u63::Es::Et::Eu::Ev::Ew::Ex::Ey::Ez::G0::G1::G2::G3::G4::G5::G6::G7::G8::G9::Ga::Gb::Gc::Gd::Ge::Gf::Gg::Gh::Gi::Gj::Gk::Gl::Gm::Gn::Go::Gp::Gq::Gr::Gs::Gt::Gu::Gv::Gw::Gx::Gy::Gz::J0::J1::J2::J3::J4::J5::J6::J7::J8::J9::Ja::Jb::Jc::Jd::Je::Jf::Jg::Jh::Ji::Jj::Jk::Jl::Jm::Jn::Jo::Jp::Jq::Jr::Js::Jt::Ju::Jv::Jw::Jx::Jy::Jz::M0::M1::M2::M3::M4::M5::M6::M7::M8::M9::Ma::Mb::Mc::Md::Me::Mf::Mg::Mh::Mi::Mj::Mk::Ml::Mm::Mn::Mo::Mp::Mq::Mr::Ms::Mt::Mu::Mv::Mw::Mx::My::Mz::R0::R1::R2::R3::R4::R5::R6::R7::R8::R9::Ra::Rb::Rc::Rd::Re::Rf::Rg::Rh::Ri::Rj::Rk::Rl::Rm::Rn::Ro::Rp::Rq::Rr::Rs::Rt::Ru::Rv::Rw::Rx::Ry::Rz::U0::U1::U2::U3::U4::U5::U6::U7::U8::U9::Ua::Ub::Uc::Ud::Ue::Uf::Ug::Uh::Ui::Uj::Uk::Ul::Um::Un::Uo::Up::Uq::Ur::Us::Ut::Uu::Uv::Uw::Ux::Uy::Uz::X0::X1::X2::X3::X4::X5::X6::X7::X8::X9::Xa::Xb::Xc::Xd::Xe::Xf::Xg::Xh::Xi::Xj::Xk::Xl::Xm::Xn::Xo::Xp::Xq::Xr::Xs::Xt::Xu::Xv::Xw::Xx::Xy::Xz::Y0::Y1::Y2::Y3::Y4::Y5::Y6::Y7::Y8::Y9::Ya::Yb::Yc::Yd::Ye::Yf::Yg::Yh::Yi::Yj::Yk::Yl::Ym::[]), []⟩ ∧ u15 = .bool true ∧ Wp (fun _ => False) wz w') ⟨List.toArray (D0::D1::(.slice (some ⟨cb, co, none⟩) N cc)::(.pointer (some ⟨sb, 0, none⟩))::(.pointer (some ⟨rb, 0, none⟩))::D5::D6::D7::D8::D9::Da::Db::Dc::(.int .i64 (n : Int))::De::Df::Dg::Dh::Di::Dj::Dk::Dl::Dm::Dn::Do::Dp::Dq::Dr::Ds::Dt::Du::Dv::Dw::Dx::Dy::Dz::E0::E1::E2::E3::E4::E5::E6::E7::E8::E9::Ea::Eb::Ec::Ed::Ee::Ef::Eg::Eh::Ei::Ej::Ek::El::Em::En::Eo::Ep::Eq::Er::Es::Et::Eu::Ev::Ew::Ex::Ey::Ez::G0::G1::G2::G3::G4::G5::G6::G7::G8::G9::Ga::Gb::Gc::Gd::Ge::Gf::Gg::Gh::Gi::Gj::Gk::Gl::Gm::Gn::Go::Gp::Gq::Gr::Gs::Gt::Gu::Gv::Gw::Gx::Gy::Gz::J0::J1::J2::J3::J4::J5::J6::J7::J8::J9::Ja::Jb::Jc::Jd::Je::Jf::Jg::Jh::Ji::Jj::Jk::Jl::Jm::Jn::Jo::Jp::Jq::Jr::Js::Jt::Ju::Jv::Jw::Jx::Jy::Jz::M0::M1::M2::M3::M4::M5::M6::M7::M8::M9::Ma::Mb::Mc::Md::Me::Mf::Mg::Mh::Mi::Mj::Mk::Ml::Mm::Mn::Mo::Mp::Mq::Mr::Ms::Mt::Mu::Mv::Mw::Mx::My::Mz::R0::R1::R2::R3::R4::R5::R6::R7::R8::R9::Ra::Rb::Rc::Rd::Re::Rf::Rg::Rh::Ri::Rj::Rk::Rl::Rm::Rn::Ro::Rp::Rq::Rr::Rs::Rt::Ru::Rv::Rw::Rx::Ry::Rz::U0::U1::U2::U3::U4::U5::U6::U7::U8::U9::Ua::Ub::Uc::Ud::Ue::Uf::Ug::Uh::Ui::Uj::Uk::Ul::Um::Un::Uo::Up::Uq::Ur::Us::Ut::Uu::Uv::Uw::Ux::Uy::Uz::X0::X1::X2::X3::X4::X5::X6::X7::X8::X9::Xa::Xb::Xc::Xd::Xe::Xf::Xg::Xh::Xi::Xj::Xk::Xl::Xm::Xn::Xo::Xp::Xq::Xr::Xs::Xt::Xu::Xv::Xw::Xx::Xy::Xz::Y0::Y1::Y2::Y3::Y4::Y5::Y6::Y7::Y8::Y9::Ya::Yb::Yc::Yd::Ye::Yf::Yg::Yh::Yi::Yj::Yk::Yl::Ym::[]), []⟩ wz := by
 conv => arg 2; whnf
 refine wp_gen (fun K HQ => ?_)
 have HNN := zB (And.intro nS (And.intro nL nV))
 clear HNN
 have HE := zB (And.intro hE (And.intro hS (And.intro hL (And.intro hV (And.intro hb0 (And.intro hb1 HLI))))))
 have HCC := zB (fun (Z : World) (h : Wp (fun _ => False) wz Z) => cell_keep hcell h)
 have i1 : (n : Int) < (N : Int) := by omega
 have i0 : (0 : Int) ≤ (n : Int) := by omega
 have hn2 : (n : Int) ≤ 1048576 := by omega
 have hkd := (Wp.refl (fun _ => False) wz).drew
 have H := zB (fresh_v wz.drew S (.slice so S.length sc) (.slice lo L.length lc) (.slice uo V.length uc) L V hh (hE.keepF hkd) (hS.keepF hkd) (hL.keepF hkd) HLI (hV.keepF hkd) (by omega) (by omega))
 have c1_ := cl1 (zD hb0 hkd)
 obtain ⟨c2_, c3_⟩ := cl2 (zD hb1 hkd)
 have c4_ := (zA HCC) _ hkd
 clear hE hS hL hV hb0 hb1 HLI hcell hn hN hkd
 go_region_law (first
  | (go_simp
     refine (zA H).mono ?_
     rintro e y ⟨rfl, hk⟩
     have HK := zB ((Wp.refl (fun _ => False) wz).drew.trans hk)
     clear hk
     dsimp only))
 all_goals (go_wp2_with fail; (refine (zA HQ) _ _ ⟨(by first | rfl | trivial), _, _, _, _, _, _, _, _, rfl, ?_⟩; exact ⟨rfl, zA HK⟩))
set_option maxRecDepth 1000000 in
theorem reg16  {S : List Wq} {L V : List ValA} {hh : Bool} {ro : Option Addr} {rc p gs ks gc kc gb kb gr kr db : Nat}  {O : OutA} {T : List (Int × Txt)} {wz : World} (hE : Env wz) (hG : GivenAt wz p S L [] hh V gs ks gc kc gb kb gr kr) (hcp : Wr wz (.slice ro V.length rc) V) (hb2 : wz.heap[db]? = some (.cells #[.bool hh, (.slice ro V.length rc)] 27 (0, 0))) (HLI : InR L) (hO : O = runO S L hh V) (hT : T = stepL (traceO S L hh V)) :
  Code.wp Tryz.prog (regn 16) (fun e a' w' => e = .normal ∧ ∃ u20 u21 u89 u90 u91 u92 u93 u94 u95 u96 u97 u98 u99 u100 u101 : Value, a' = ⟨List.toArray (D0::D1::D2::D3::D4::D5::D6::D7::(.pointer (some ⟨db, 0, none⟩))::D9::Da::Db::Dc::Dd::(.pointer (some ⟨p, 0, none⟩))::Df::Dg::Dh::Di::Dj::u20::u21::Dm::Dn::Do::Dp::Dq::Dr::Ds::Dt::Du::Dv::Dw::Dx::Dy::Dz::E0::E1::E2::E3::E4::E5::E6::E7::E8::E9::Ea::Eb::Ec::Ed::Ee::Ef::Eg::Eh::Ei::Ej::Ek::El::Em::En::Eo::Ep::Eq::Er::Es::Et::Eu::Ev::Ew::Ex::Ey::Ez::G0::G1::G2::G3::G4::G5::G6::G7::G8::G9::Ga::Gb::Gc::Gd::Ge::Gf::Gg::u89::u90::u91::u92::u93::u94::u95::u96::u97::u98::u99::u100::u101::Gu::Gv::Gw::Gx::Gy::Gz::J0::J1::J2::J3::J4::J5::J6::J7::J8::J9::Ja::Jb::Jc::Jd::Je::Jf::Jg::Jh::Ji::Jj::Jk::Jl::Jm::Jn::Jo::Jp::Jq::Jr::Js::Jt::Ju::Jv::Jw::Jx::Jy::Jz::M0::M1::M2::M3::M4::M5::M6::M7::M8::M9::Ma::Mb::Mc::Md::Me::Mf::Mg::Mh::Mi::Mj::Mk::Ml::Mm::Mn::Mo::Mp::Mq::Mr::Ms::Mt::Mu::Mv::Mw::Mx::My::Mz::R0::R1::R2::R3::R4::R5::R6::R7::R8::R9::Ra::Rb::Rc::Rd::Re::Rf::Rg::Rh::Ri::Rj::Rk::Rl::Rm::Rn::Ro::Rp::Rq::Rr::Rs::Rt::Ru::Rv::Rw::Rx::Ry::Rz::U0::U1::U2::U3::U4::U5::U6::U7::U8::U9::Ua::Ub::Uc::Ud::Ue::Uf::Ug::Uh::Ui::Uj::Uk::Ul::Um::Un::Uo::Up::Uq::Ur::Us::Ut::Uu::Uv::Uw::Ux::Uy::Uz::X0::X1::X2::X3::X4::X5::X6::X7::X8::X9::Xa::Xb::Xc::Xd::Xe::Xf::Xg::Xh::Xi::Xj::Xk::Xl::Xm::Xn::Xo::Xp::Xq::Xr::Xs::Xt::Xu::Xv::Xw::Xx::Xy::Xz::Y0::Y1::Y2::Y3::Y4::Y5::Y6::Y7::Y8::Y9::Ya::Yb::Yc::Yd::Ye::Yf::Yg::Yh::Yi::Yj::Yk::Yl::Ym::[]), []⟩ ∧ u21 = .int .i64 O.e ∧ ∃ eo ec, u20 = .slice eo T.length ec ∧ w'.ownsRow wz.heap.size 53 2 (.slice eo T.length ec) T.length (sC T) ∧ Wp (fun _ => False) wz w') ⟨List.toArray (D0::D1::D2::D3::D4::D5::D6::D7::(.pointer (some ⟨db, 0, none⟩))::D9::Da::Db::Dc::Dd::(.pointer (some ⟨p, 0, none⟩))::Df::Dg::Dh::Di::Dj::Dk::Dl::Dm::Dn::Do::Dp::Dq::Dr::Ds::Dt::Du::Dv::Dw::Dx::Dy::Dz::E0::E1::E2::E3::E4::E5::E6::E7::E8::E9::Ea::Eb::Ec::Ed::Ee::Ef::Eg::Eh::Ei::Ej::Ek::El::Em::En::Eo::Ep::Eq::Er::Es::Et::Eu::Ev::Ew::Ex::Ey::Ez::G0::G1::G2::G3::G4::G5::G6::G7::G8::G9::Ga::Gb::Gc::Gd::Ge::Gf::Gg::Gh::Gi::Gj::Gk::Gl::Gm::Gn::Go::Gp::Gq::Gr::Gs::Gt::Gu::Gv::Gw::Gx::Gy::Gz::J0::J1::J2::J3::J4::J5::J6::J7::J8::J9::Ja::Jb::Jc::Jd::Je::Jf::Jg::Jh::Ji::Jj::Jk::Jl::Jm::Jn::Jo::Jp::Jq::Jr::Js::Jt::Ju::Jv::Jw::Jx::Jy::Jz::M0::M1::M2::M3::M4::M5::M6::M7::M8::M9::Ma::Mb::Mc::Md::Me::Mf::Mg::Mh::Mi::Mj::Mk::Ml::Mm::Mn::Mo::Mp::Mq::Mr::Ms::Mt::Mu::Mv::Mw::Mx::My::Mz::R0::R1::R2::R3::R4::R5::R6::R7::R8::R9::Ra::Rb::Rc::Rd::Re::Rf::Rg::Rh::Ri::Rj::Rk::Rl::Rm::Rn::Ro::Rp::Rq::Rr::Rs::Rt::Ru::Rv::Rw::Rx::Ry::Rz::U0::U1::U2::U3::U4::U5::U6::U7::U8::U9::Ua::Ub::Uc::Ud::Ue::Uf::Ug::Uh::Ui::Uj::Uk::Ul::Um::Un::Uo::Up::Uq::Ur::Us::Ut::Uu::Uv::Uw::Ux::Uy::Uz::X0::X1::X2::X3::X4::X5::X6::X7::X8::X9::Xa::Xb::Xc::Xd::Xe::Xf::Xg::Xh::Xi::Xj::Xk::Xl::Xm::Xn::Xo::Xp::Xq::Xr::Xs::Xt::Xu::Xv::Xw::Xx::Xy::Xz::Y0::Y1::Y2::Y3::Y4::Y5::Y6::Y7::Y8::Y9::Ya::Yb::Yc::Yd::Ye::Yf::Yg::Yh::Yi::Yj::Yk::Yl::Ym::[]), []⟩ wz := by
 conv => arg 2; whnf
 have HOT := zB (And.intro hO hT)
 clear hO hT
 refine wp_gen (fun K HQ => ?_)
 have HE := zB (And.intro hE (And.intro hG (And.intro hcp (And.intro hb2 HLI))))
 clear hE hG hcp hb2 HLI
 have hkd := (Wp.refl (fun _ => False) wz).drew
 have HD := zB hkd
 have H := zB (fun (Z : World) (h : Wp (fun _ => False) wz Z) => trace_oT S (.slice (some ⟨gs, 0, none⟩) S.length ks) (.slice ro V.length rc) (.slice (some ⟨gc, 0, none⟩) L.length kc) L hh V O T Z ((zA HE).1.keepF h) ((zA HE).2.1.keepF h).s.row ((zA HE).2.1.keepF h).c.row (zA HE).2.2.2.2 (Wr.keepF (zA HE).2.2.1 h) (zA HOT).1 (zA HOT).2)
 have HAX := zB (fun (Z : World) (h : Wp (fun _ => False) wz Z) => And.intro (cl5 ((zA HE).2.1.keepF h).blk) (cl2 (zD (zA HE).2.2.2.1 h)))
 obtain ⟨⟨c10_, c11_, _, _, _⟩, c12_, c13_⟩ := zA HAX _ hkd
 clear hkd
 go_region_law (first
  | (go_simp
     refine ((zA H) _ (by first | exact zA HD | exact (zA HD).alloc _ | exact ((Wp.refl _ _).alloc _).drew)).mono ?_
     rintro e y ⟨eo, ec, rfl, ho, hk⟩
     have HX := zB (show Wp (fun _ => False) wz y from Wp.trans (by first | exact zA HD | exact (zA HD).alloc _ | exact ((Wp.refl _ _).alloc _).drew) hk)
     have HO := zB (ownsRow_low ho (show wz.heap.size ≤ _ from Wp.size (by first | exact zA HD | exact (zA HD).alloc _ | exact ((Wp.refl _ _).alloc _).drew)))
     clear ho
     dsimp only))
 all_goals (go_wp2_with fail; (refine (zA HQ) _ _ ⟨(by first | rfl | trivial), _, _, _, _, _, _, _, _, _, _, _, _, _, _, _, rfl, rfl, ?_⟩; exact ⟨eo, ec, rfl, zA HO, zA HX⟩))
set_option maxRecDepth 1000000 in
theorem reg18  {S : List Wq} {L V : List ValA} {hh : Bool} {ro : Option Addr} {rc p gs ks gc kc gb kb gr kr db : Nat}  {O : OutA} {T : List (Int × Txt)} {wz : World} (hE : Env wz) (hG : GivenAt wz p S L [] hh V gs ks gc kc gb kb gr kr) (hcp : Wr wz (.slice ro V.length rc) V) (hb2 : wz.heap[db]? = some (.cells #[.bool hh, (.slice ro V.length rc)] 27 (0, 0))) (HLI : InR L) (hO : O = runO S L hh V) (hT : T = stepL (traceO S L hh V)) :
  Code.wp Tryz.prog (regn 18) (fun e a' w' => e = .normal ∧ ∃ u24 u25 u115 u116 u117 u118 u119 u120 u121 u122 u123 u124 u125 u126 u127 : Value, a' = ⟨List.toArray (D0::D1::D2::D3::D4::D5::D6::D7::(.pointer (some ⟨db, 0, none⟩))::D9::Da::Db::Dc::Dd::(.pointer (some ⟨p, 0, none⟩))::Df::Dg::Dh::Di::Dj::Dk::Dl::Dm::Dn::u24::u25::Dq::Dr::Ds::Dt::Du::Dv::Dw::Dx::Dy::Dz::E0::E1::E2::E3::E4::E5::E6::E7::E8::E9::Ea::Eb::Ec::Ed::Ee::Ef::Eg::Eh::Ei::Ej::Ek::El::Em::En::Eo::Ep::Eq::Er::Es::Et::Eu::Ev::Ew::Ex::Ey::Ez::G0::G1::G2::G3::G4::G5::G6::G7::G8::G9::Ga::Gb::Gc::Gd::Ge::Gf::Gg::Gh::Gi::Gj::Gk::Gl::Gm::Gn::Go::Gp::Gq::Gr::Gs::Gt::Gu::Gv::Gw::Gx::Gy::Gz::J0::J1::J2::J3::J4::J5::J6::u115::u116::u117::u118::u119::u120::u121::u122::u123::u124::u125::u126::u127::Jk::Jl::Jm::Jn::Jo::Jp::Jq::Jr::Js::Jt::Ju::Jv::Jw::Jx::Jy::Jz::M0::M1::M2::M3::M4::M5::M6::M7::M8::M9::Ma::Mb::Mc::Md::Me::Mf::Mg::Mh::Mi::Mj::Mk::Ml::Mm::Mn::Mo::Mp::Mq::Mr::Ms::Mt::Mu::Mv::Mw::Mx::My::Mz::R0::R1::R2::R3::R4::R5::R6::R7::R8::R9::Ra::Rb::Rc::Rd::Re::Rf::Rg::Rh::Ri::Rj::Rk::Rl::Rm::Rn::Ro::Rp::Rq::Rr::Rs::Rt::Ru::Rv::Rw::Rx::Ry::Rz::U0::U1::U2::U3::U4::U5::U6::U7::U8::U9::Ua::Ub::Uc::Ud::Ue::Uf::Ug::Uh::Ui::Uj::Uk::Ul::Um::Un::Uo::Up::Uq::Ur::Us::Ut::Uu::Uv::Uw::Ux::Uy::Uz::X0::X1::X2::X3::X4::X5::X6::X7::X8::X9::Xa::Xb::Xc::Xd::Xe::Xf::Xg::Xh::Xi::Xj::Xk::Xl::Xm::Xn::Xo::Xp::Xq::Xr::Xs::Xt::Xu::Xv::Xw::Xx::Xy::Xz::Y0::Y1::Y2::Y3::Y4::Y5::Y6::Y7::Y8::Y9::Ya::Yb::Yc::Yd::Ye::Yf::Yg::Yh::Yi::Yj::Yk::Yl::Ym::[]), []⟩ ∧ u25 = .int .i64 O.e ∧ ∃ eo ec, u24 = .slice eo T.length ec ∧ w'.ownsRow wz.heap.size 53 2 (.slice eo T.length ec) T.length (sC T) ∧ Wp (fun _ => False) wz w') ⟨List.toArray (D0::D1::D2::D3::D4::D5::D6::D7::(.pointer (some ⟨db, 0, none⟩))::D9::Da::Db::Dc::Dd::(.pointer (some ⟨p, 0, none⟩))::Df::Dg::Dh::Di::Dj::Dk::Dl::Dm::Dn::Do::Dp::Dq::Dr::Ds::Dt::Du::Dv::Dw::Dx::Dy::Dz::E0::E1::E2::E3::E4::E5::E6::E7::E8::E9::Ea::Eb::Ec::Ed::Ee::Ef::Eg::Eh::Ei::Ej::Ek::El::Em::En::Eo::Ep::Eq::Er::Es::Et::Eu::Ev::Ew::Ex::Ey::Ez::G0::G1::G2::G3::G4::G5::G6::G7::G8::G9::Ga::Gb::Gc::Gd::Ge::Gf::Gg::Gh::Gi::Gj::Gk::Gl::Gm::Gn::Go::Gp::Gq::Gr::Gs::Gt::Gu::Gv::Gw::Gx::Gy::Gz::J0::J1::J2::J3::J4::J5::J6::J7::J8::J9::Ja::Jb::Jc::Jd::Je::Jf::Jg::Jh::Ji::Jj::Jk::Jl::Jm::Jn::Jo::Jp::Jq::Jr::Js::Jt::Ju::Jv::Jw::Jx::Jy::Jz::M0::M1::M2::M3::M4::M5::M6::M7::M8::M9::Ma::Mb::Mc::Md::Me::Mf::Mg::Mh::Mi::Mj::Mk::Ml::Mm::Mn::Mo::Mp::Mq::Mr::Ms::Mt::Mu::Mv::Mw::Mx::My::Mz::R0::R1::R2::R3::R4::R5::R6::R7::R8::R9::Ra::Rb::Rc::Rd::Re::Rf::Rg::Rh::Ri::Rj::Rk::Rl::Rm::Rn::Ro::Rp::Rq::Rr::Rs::Rt::Ru::Rv::Rw::Rx::Ry::Rz::U0::U1::U2::U3::U4::U5::U6::U7::U8::U9::Ua::Ub::Uc::Ud::Ue::Uf::Ug::Uh::Ui::Uj::Uk::Ul::Um::Un::Uo::Up::Uq::Ur::Us::Ut::Uu::Uv::Uw::Ux::Uy::Uz::X0::X1::X2::X3::X4::X5::X6::X7::X8::X9::Xa::Xb::Xc::Xd::Xe::Xf::Xg::Xh::Xi::Xj::Xk::Xl::Xm::Xn::Xo::Xp::Xq::Xr::Xs::Xt::Xu::Xv::Xw::Xx::Xy::Xz::Y0::Y1::Y2::Y3::Y4::Y5::Y6::Y7::Y8::Y9::Ya::Yb::Yc::Yd::Ye::Yf::Yg::Yh::Yi::Yj::Yk::Yl::Ym::[]), []⟩ wz := by
 conv => arg 2; whnf
 have HOT := zB (And.intro hO hT)
 clear hO hT
 refine wp_gen (fun K HQ => ?_)
 have HE := zB (And.intro hE (And.intro hG (And.intro hcp (And.intro hb2 HLI))))
 clear hE hG hcp hb2 HLI
 have hkd := (Wp.refl (fun _ => False) wz).drew
 have HD := zB hkd
 have H := zB (fun (Z : World) (h : Wp (fun _ => False) wz Z) => trace_oT S (.slice (some ⟨gs, 0, none⟩) S.length ks) (.slice ro V.length rc) (.slice (some ⟨gc, 0, none⟩) L.length kc) L hh V O T Z ((zA HE).1.keepF h) ((zA HE).2.1.keepF h).s.row ((zA HE).2.1.keepF h).c.row (zA HE).2.2.2.2 (Wr.keepF (zA HE).2.2.1 h) (zA HOT).1 (zA HOT).2)
 have HAX := zB (fun (Z : World) (h : Wp (fun _ => False) wz Z) => And.intro (cl5 ((zA HE).2.1.keepF h).blk) (cl2 (zD (zA HE).2.2.2.1 h)))
 obtain ⟨⟨c10_, c11_, _, _, _⟩, c12_, c13_⟩ := zA HAX _ hkd
 clear hkd
 go_region_law (first
  | (go_simp
     refine ((zA H) _ (by first | exact zA HD | exact (zA HD).alloc _ | exact ((Wp.refl _ _).alloc _).drew)).mono ?_
     rintro e y ⟨eo, ec, rfl, ho, hk⟩
     have HX := zB (show Wp (fun _ => False) wz y from Wp.trans (by first | exact zA HD | exact (zA HD).alloc _ | exact ((Wp.refl _ _).alloc _).drew) hk)
     have HO := zB (ownsRow_low ho (show wz.heap.size ≤ _ from Wp.size (by first | exact zA HD | exact (zA HD).alloc _ | exact ((Wp.refl _ _).alloc _).drew)))
     clear ho
     dsimp only))
 all_goals (go_wp2_with fail; (refine (zA HQ) _ _ ⟨(by first | rfl | trivial), _, _, _, _, _, _, _, _, _, _, _, _, _, _, _, rfl, rfl, ?_⟩; exact ⟨eo, ec, rfl, zA HO, zA HX⟩))
set_option maxRecDepth 1000000 in
theorem reg19  {S : List Wq} {L V : List ValA} {hh : Bool} {so lo uo : Option Addr} {sc lc uc cb co cc N n sb rb : Nat}  {O : OutA} {T : List (Int × Txt)} {wz : World} (hE : Env wz) (hS : Wt wz (.slice so S.length sc) S) (hcell : wz.cell? ⟨cb, co + n, none⟩ = some (.slice lo L.length lc)) (hL : Wr wz (.slice lo L.length lc) L) (hV : Wr wz (.slice uo V.length uc) V) (hb0 : wz.heap[sb]? = some (.cells #[(.slice so S.length sc)] 24 (0, 0))) (hb1 : wz.heap[rb]? = some (.cells #[.bool hh, (.slice uo V.length uc)] 27 (0, 0))) (HLI : InR L) (hn : n < N) (hN : N ≤ 1048576) (nS : S.length ≤ 1048576) (nL : L.length ≤ 1048576) (nV : V.length ≤ 1048576) (hO : O = runO S L hh V) (hT : T = stepL (traceO S L hh V)) :
  Code.wp Tryz.prog (regn 19) (fun e a' w' => e = .normal ∧ ∃ u26 u27 u128 u129 u130 u131 u132 u133 u134 u135 u136 u137 : Value, a' = ⟨List.toArray (D0::D1::(.slice (some ⟨cb, co, none⟩) N cc)::(.pointer (some ⟨sb, 0, none⟩))::(.pointer (some ⟨rb, 0, none⟩))::D5::D6::D7::D8::D9::Da::Db::Dc::(.int .i64 (n : Int))::De::Df::Dg::Dh::Di::Dj::Dk::Dl::Dm::Dn::Do::Dp::u26::u27::Ds::Dt::Du::Dv::Dw::Dx::Dy::Dz::E0::E1::E2::E3::E4::E5::E6::E7::E8::E9::Ea::Eb::Ec::Ed::Ee::Ef::Eg::Eh::Ei::Ej::Ek::El::Em::En::Eo::Ep::Eq::Er::Es::Et::Eu::Ev::Ew::Ex::Ey::Ez::G0::G1::G2::G3::G4::G5::G6::G7::G8::G9::Ga::Gb::Gc::Gd::Ge::Gf::Gg::Gh::Gi::Gj::Gk::Gl::Gm::Gn::Go::Gp::Gq::Gr::Gs::Gt::Gu::Gv::Gw::Gx::Gy::Gz::J0::J1::J2::J3::J4::J5::J6::J7::J8::J9::Ja::Jb::Jc::Jd::Je::Jf::Jg::Jh::Ji::Jj::u128::u129::u130::u131::u132::u133::u134::u135::u136::u137::Ju::Jv::Jw::Jx::Jy::Jz::M0::M1::M2::M3::M4::M5::M6::M7::M8::M9::Ma::Mb::Mc::Md::Me::Mf::Mg::Mh::Mi::Mj::Mk::Ml::Mm::Mn::Mo::Mp::Mq::Mr::Ms::Mt::Mu::Mv::Mw::Mx::My::Mz::R0::R1::R2::R3::R4::R5::R6::R7::R8::R9::Ra::Rb::Rc::Rd::Re::Rf::Rg::Rh::Ri::Rj::Rk::Rl::Rm::Rn::Ro::Rp::Rq::Rr::Rs::Rt::Ru::Rv::Rw::Rx::Ry::Rz::U0::U1::U2::U3::U4::U5::U6::U7::U8::U9::Ua::Ub::Uc::Ud::Ue::Uf::Ug::Uh::Ui::Uj::Uk::Ul::Um::Un::Uo::Up::Uq::Ur::Us::Ut::Uu::Uv::Uw::Ux::Uy::Uz::X0::X1::X2::X3::X4::X5::X6::X7::X8::X9::Xa::Xb::Xc::Xd::Xe::Xf::Xg::Xh::Xi::Xj::Xk::Xl::Xm::Xn::Xo::Xp::Xq::Xr::Xs::Xt::Xu::Xv::Xw::Xx::Xy::Xz::Y0::Y1::Y2::Y3::Y4::Y5::Y6::Y7::Y8::Y9::Ya::Yb::Yc::Yd::Ye::Yf::Yg::Yh::Yi::Yj::Yk::Yl::Ym::[]), []⟩ ∧ u27 = .int .i64 O.e ∧ ∃ eo ec, u26 = .slice eo T.length ec ∧ w'.ownsRow wz.heap.size 53 2 (.slice eo T.length ec) T.length (sC T) ∧ Wp (fun _ => False) wz w') ⟨List.toArray (D0::D1::(.slice (some ⟨cb, co, none⟩) N cc)::(.pointer (some ⟨sb, 0, none⟩))::(.pointer (some ⟨rb, 0, none⟩))::D5::D6::D7::D8::D9::Da::Db::Dc::(.int .i64 (n : Int))::De::Df::Dg::Dh::Di::Dj::Dk::Dl::Dm::Dn::Do::Dp::Dq::Dr::Ds::Dt::Du::Dv::Dw::Dx::Dy::Dz::E0::E1::E2::E3::E4::E5::E6::E7::E8::E9::Ea::Eb::Ec::Ed::Ee::Ef::Eg::Eh::Ei::Ej::Ek::El::Em::En::Eo::Ep::Eq::Er::Es::Et::Eu::Ev::Ew::Ex::Ey::Ez::G0::G1::G2::G3::G4::G5::G6::G7::G8::G9::Ga::Gb::Gc::Gd::Ge::Gf::Gg::Gh::Gi::Gj::Gk::Gl::Gm::Gn::Go::Gp::Gq::Gr::Gs::Gt::Gu::Gv::Gw::Gx::Gy::Gz::J0::J1::J2::J3::J4::J5::J6::J7::J8::J9::Ja::Jb::Jc::Jd::Je::Jf::Jg::Jh::Ji::Jj::Jk::Jl::Jm::Jn::Jo::Jp::Jq::Jr::Js::Jt::Ju::Jv::Jw::Jx::Jy::Jz::M0::M1::M2::M3::M4::M5::M6::M7::M8::M9::Ma::Mb::Mc::Md::Me::Mf::Mg::Mh::Mi::Mj::Mk::Ml::Mm::Mn::Mo::Mp::Mq::Mr::Ms::Mt::Mu::Mv::Mw::Mx::My::Mz::R0::R1::R2::R3::R4::R5::R6::R7::R8::R9::Ra::Rb::Rc::Rd::Re::Rf::Rg::Rh::Ri::Rj::Rk::Rl::Rm::Rn::Ro::Rp::Rq::Rr::Rs::Rt::Ru::Rv::Rw::Rx::Ry::Rz::U0::U1::U2::U3::U4::U5::U6::U7::U8::U9::Ua::Ub::Uc::Ud::Ue::Uf::Ug::Uh::Ui::Uj::Uk::Ul::Um::Un::Uo::Up::Uq::Ur::Us::Ut::Uu::Uv::Uw::Ux::Uy::Uz::X0::X1::X2::X3::X4::X5::X6::X7::X8::X9::Xa::Xb::Xc::Xd::Xe::Xf::Xg::Xh::Xi::Xj::Xk::Xl::Xm::Xn::Xo::Xp::Xq::Xr::Xs::Xt::Xu::Xv::Xw::Xx::Xy::Xz::Y0::Y1::Y2::Y3::Y4::Y5::Y6::Y7::Y8::Y9::Ya::Yb::Yc::Yd::Ye::Yf::Yg::Yh::Yi::Yj::Yk::Yl::Ym::[]), []⟩ wz := by
 conv => arg 2; whnf
 have HOT := zB (And.intro hO hT)
 clear hO hT
 refine wp_gen (fun K HQ => ?_)
 have HNN := zB (And.intro nS (And.intro nL nV))
 clear HNN
 have HE := zB (And.intro hE (And.intro hS (And.intro hL (And.intro hV (And.intro hb0 (And.intro hb1 HLI))))))
 have HCC := zB (fun (Z : World) (h : Wp (fun _ => False) wz Z) => cell_keep hcell h)
 have i1 : (n : Int) < (N : Int) := by omega
 have i0 : (0 : Int) ≤ (n : Int) := by omega
 have hn2 : (n : Int) ≤ 1048576 := by omega
 clear hE hS hL hV hb0 hb1 HLI hcell hn hN
 have hkd := (Wp.refl (fun _ => False) wz).drew
 have HD := zB hkd
 have H := zB (fun (Z : World) (h : Wp (fun _ => False) wz Z) => traceR_vT S (.slice so S.length sc) (.slice uo V.length uc) (.slice lo L.length lc) L hh V O T Z (Wt.keepF (zA HE).2.1 h) (Wr.keepF (zA HE).2.2.1 h) (zA HE).2.2.2.2.2.2 (Wr.keepF (zA HE).2.2.2.1 h) (zA HOT).1 (zA HOT).2)
 have HAX := zB (fun (Z : World) (h : Wp (fun _ => False) wz Z) => And.intro (cl1 (zD (zA HE).2.2.2.2.1 h)) (And.intro ((zA HCC) Z h) (cl2 (zD (zA HE).2.2.2.2.2.1 h))))
 obtain ⟨c10_, c11_, c12_, c13_⟩ := zA HAX _ hkd
 clear hkd
 go_region_law (first
  | (go_simp
     refine ((zA H) _ (by first | exact zA HD | exact (zA HD).alloc _ | exact ((Wp.refl _ _).alloc _).drew)).mono ?_
     rintro e y ⟨eo, ec, rfl, ho, hk⟩
     have HX := zB (show Wp (fun _ => False) wz y from Wp.trans (by first | exact zA HD | exact (zA HD).alloc _ | exact ((Wp.refl _ _).alloc _).drew) hk)
     have HO := zB (ownsRow_low ho (show wz.heap.size ≤ _ from Wp.size (by first | exact zA HD | exact (zA HD).alloc _ | exact ((Wp.refl _ _).alloc _).drew)))
     clear ho
     dsimp only))
 all_goals (go_wp2_with fail; (refine (zA HQ) _ _ ⟨(by first | rfl | trivial), _, _, _, _, _, _, _, _, _, _, _, _, rfl, rfl, ?_⟩; exact ⟨eo, ec, rfl, zA HO, zA HX⟩))
set_option maxRecDepth 1000000 in
theorem reg20  {b1 b2 n m d1 d2 xc yc : Nat} {a1 a2 xo yo : Option Addr} {hh : Bool} {p1 q1 p2 q2 : Value} {l : List ValA} {T : List (Int × Txt)} {db rb nv e3 e4 : Nat} {o3 o4 : Option Addr} {hr : Bool} {V : List ValA} {wz : World} (h1 : wz.heap[b1]? = some (.cells #[.bool hh, .slice a1 n d1, p1, q1] 38 (0, 0))) (h2 : wz.heap[b2]? = some (.cells #[.bool hh, .slice a2 n d2, p2, q2] 38 (0, 0))) (v1 : Wr wz (.slice a1 n d1) l) (v2 : Wr wz (.slice a2 n d2) l) (t1 : Ws wz (.slice xo m xc) m (sC T)) (t2 : Ws wz (.slice yo m yc) m (sC T)) (hn : n ≤ 8) (hl : l.length = n) (hm : m ≤ 1024) (hT : T.length = m) (h3 : wz.heap[db]? = some (.cells #[.bool hr, .slice o3 nv e3] 27 (0, 0))) (h4 : wz.heap[rb]? = some (.cells #[.bool hr, .slice o4 nv e4] 27 (0, 0))) (v3 : Wr wz (.slice o3 nv e3) V) (v4 : Wr wz (.slice o4 nv e4) V) (hV : V.length ≤ 1048576) :
  Code.wp Tryz.prog (regn 20) (fun e a' w' => e = .normal ∧ ∃ u28 u138 u139 u140 u141 u142 u143 u144 u145 u146 u147 u148 u149 u150 u151 u152 : Value, a' = ⟨List.toArray (D0::D1::D2::D3::(.pointer (some ⟨rb, 0, none⟩))::D5::D6::D7::(.pointer (some ⟨db, 0, none⟩))::D9::Da::Db::Dc::Dd::De::Df::(.pointer (some ⟨b1, 0, none⟩))::Dh::(.pointer (some ⟨b2, 0, none⟩))::Dj::(.slice xo m xc)::Dl::Dm::Dn::Do::Dp::(.slice yo m yc)::Dr::u28::Dt::Du::Dv::Dw::Dx::Dy::Dz::E0::E1::E2::E3::E4::E5::E6::E7::E8::E9::Ea::Eb::Ec::Ed::Ee::Ef::Eg::Eh::Ei::Ej::Ek::El::Em::En::Eo::Ep::Eq::Er::Es::Et::Eu::Ev::Ew::Ex::Ey::Ez::G0::G1::G2::G3::G4::G5::G6::G7::G8::G9::Ga::Gb::Gc::Gd::Ge::Gf::Gg::Gh::Gi::Gj::Gk::Gl::Gm::Gn::Go::Gp::Gq::Gr::Gs::Gt::Gu::Gv::Gw::Gx::Gy::Gz::J0::J1::J2::J3::J4::J5::J6::J7::J8::J9::Ja::Jb::Jc::Jd::Je::Jf::Jg::Jh::Ji::Jj::Jk::Jl::Jm::Jn::Jo::Jp::Jq::Jr::Js::Jt::u138::u139::u140::u141::u142::u143::u144::u145::u146::u147::u148::u149::u150::u151::u152::M9::Ma::Mb::Mc::Md::Me::Mf::Mg::Mh::Mi::Mj::Mk::Ml::Mm::Mn::Mo::Mp::Mq::Mr::Ms::Mt::Mu::Mv::Mw::Mx::My::Mz::R0::R1::R2::R3::R4::R5::R6::R7::R8::R9::Ra::Rb::Rc::Rd::Re::Rf::Rg::Rh::Ri::Rj::Rk::Rl::Rm::Rn::Ro::Rp::Rq::Rr::Rs::Rt::Ru::Rv::Rw::Rx::Ry::Rz::U0::U1::U2::U3::U4::U5::U6::U7::U8::U9::Ua::Ub::Uc::Ud::Ue::Uf::Ug::Uh::Ui::Uj::Uk::Ul::Um::Un::Uo::Up::Uq::Ur::Us::Ut::Uu::Uv::Uw::Ux::Uy::Uz::X0::X1::X2::X3::X4::X5::X6::X7::X8::X9::Xa::Xb::Xc::Xd::Xe::Xf::Xg::Xh::Xi::Xj::Xk::Xl::Xm::Xn::Xo::Xp::Xq::Xr::Xs::Xt::Xu::Xv::Xw::Xx::Xy::Xz::Y0::Y1::Y2::Y3::Y4::Y5::Y6::Y7::Y8::Y9::Ya::Yb::Yc::Yd::Ye::Yf::Yg::Yh::Yi::Yj::Yk::Yl::Ym::[]), []⟩ ∧ u28 = .bool true ∧ Wp (fun _ => False) wz w') ⟨List.toArray (D0::D1::D2::D3::(.pointer (some ⟨rb, 0, none⟩))::D5::D6::D7::(.pointer (some ⟨db, 0, none⟩))::D9::Da::Db::Dc::Dd::De::Df::(.pointer (some ⟨b1, 0, none⟩))::Dh::(.pointer (some ⟨b2, 0, none⟩))::Dj::(.slice xo m xc)::Dl::Dm::Dn::Do::Dp::(.slice yo m yc)::Dr::Ds::Dt::Du::Dv::Dw::Dx::Dy::Dz::E0::E1::E2::E3::E4::E5::E6::E7::E8::E9::Ea::Eb::Ec::Ed::Ee::Ef::Eg::Eh::Ei::Ej::Ek::El::Em::En::Eo::Ep::Eq::Er::Es::Et::Eu::Ev::Ew::Ex::Ey::Ez::G0::G1::G2::G3::G4::G5::G6::G7::G8::G9::Ga::Gb::Gc::Gd::Ge::Gf::Gg::Gh::Gi::Gj::Gk::Gl::Gm::Gn::Go::Gp::Gq::Gr::Gs::Gt::Gu::Gv::Gw::Gx::Gy::Gz::J0::J1::J2::J3::J4::J5::J6::J7::J8::J9::Ja::Jb::Jc::Jd::Je::Jf::Jg::Jh::Ji::Jj::Jk::Jl::Jm::Jn::Jo::Jp::Jq::Jr::Js::Jt::Ju::Jv::Jw::Jx::Jy::Jz::M0::M1::M2::M3::M4::M5::M6::M7::M8::M9::Ma::Mb::Mc::Md::Me::Mf::Mg::Mh::Mi::Mj::Mk::Ml::Mm::Mn::Mo::Mp::Mq::Mr::Ms::Mt::Mu::Mv::Mw::Mx::My::Mz::R0::R1::R2::R3::R4::R5::R6::R7::R8::R9::Ra::Rb::Rc::Rd::Re::Rf::Rg::Rh::Ri::Rj::Rk::Rl::Rm::Rn::Ro::Rp::Rq::Rr::Rs::Rt::Ru::Rv::Rw::Rx::Ry::Rz::U0::U1::U2::U3::U4::U5::U6::U7::U8::U9::Ua::Ub::Uc::Ud::Ue::Uf::Ug::Uh::Ui::Uj::Uk::Ul::Um::Un::Uo::Up::Uq::Ur::Us::Ut::Uu::Uv::Uw::Ux::Uy::Uz::X0::X1::X2::X3::X4::X5::X6::X7::X8::X9::Xa::Xb::Xc::Xd::Xe::Xf::Xg::Xh::Xi::Xj::Xk::Xl::Xm::Xn::Xo::Xp::Xq::Xr::Xs::Xt::Xu::Xv::Xw::Xx::Xy::Xz::Y0::Y1::Y2::Y3::Y4::Y5::Y6::Y7::Y8::Y9::Ya::Yb::Yc::Yd::Ye::Yf::Yg::Yh::Yi::Yj::Yk::Yl::Ym::[]), []⟩ wz := by
 conv => arg 2; whnf
 have HE := zB (And.intro h1 (And.intro h2 (And.intro v1 (And.intro v2 (And.intro t1 t2)))))
 have HE2 := zB (And.intro h3 (And.intro h4 (And.intro v3 v4)))
 subst hl
 subst hT
 obtain ⟨k0, k1⟩ := cl2o h1
 obtain ⟨k2, k3⟩ := cl2o h2
 have Q1 := zB (eqRow_same wz hh (.slice a1 l.length d1) (.slice a2 l.length d2) l v1 v2 (by omega))
 clear h1 h2 v1 v2 t1 t2 h3 h4 v3 v4
 refine wp_gen (fun K HQ => ?_)
 go_wp2_with fail
 refine (zA Q1).mono ?_
 rintro e x1 ⟨rfl, hk1⟩
 have HK1 := zB hk1
 have Q2 := zB (eqStepsG x1 (.slice xo T.length xc) (.slice yo T.length yc) T ((zA HE).2.2.2.2.1.keepF hk1) ((zA HE).2.2.2.2.2.keepF hk1) (by omega))
 clear hk1 Q1 k0 k1 k2 k3
 go_wp2_with fail
 refine (zA Q2).mono ?_
 rintro e x2 ⟨rfl, hk2⟩
 have HK2 := zB ((zA HK1).trans hk2)
 clear hk2 Q2
 obtain ⟨k0, k1⟩ := cl2 (zD (zA HE2).1 (zA HK2))
 obtain ⟨k2, k3⟩ := cl2 (zD (zA HE2).2.1 (zA HK2))
 have Q3 := zB (eqRow_same x2 hr (.slice o3 nv e3) (.slice o4 nv e4) V (Wr.keepF (zA HE2).2.2.1 (zA HK2)) (Wr.keepF (zA HE2).2.2.2 (zA HK2)) (by omega))
 go_wp2_with fail
 refine (zA Q3).mono ?_
 rintro e x3 ⟨rfl, hk3⟩
 have HK3 := zB ((zA HK2).trans hk3)
 clear hk3 Q3 k0 k1 k2 k3
 go_wp2_with fail
 refine (zA HQ) _ _ ⟨(by first | rfl | trivial), _, _, _, _, _, _, _, _, _, _, _, _, _, _, _, _, rfl, rfl, zA HK3⟩
set_option maxRecDepth 1000000 in
theorem reg52  {b1 b2 n m d1 d2 xc yc : Nat} {a1 a2 xo yo : Option Addr} {hh : Bool} {p1 q1 p2 q2 : Value} {l : List ValA} {T : List (Int × Txt)} {wz : World} (h1 : wz.heap[b1]? = some (.cells #[.bool hh, .slice a1 n d1, p1, q1] 38 (0, 0))) (h2 : wz.heap[b2]? = some (.cells #[.bool hh, .slice a2 n d2, p2, q2] 38 (0, 0))) (v1 : Wr wz (.slice a1 n d1) l) (v2 : Wr wz (.slice a2 n d2) l) (t1 : Ws wz (.slice xo m xc) m (sC T)) (t2 : Ws wz (.slice yo m yc) m (sC T)) (hn : n ≤ 8) (hl : l.length = n) (hm : m ≤ 1024) (hT : T.length = m) :
  Code.wp Tryz.prog (regn 52) (fun e a' w' => e = .normal ∧ ∃ u265 u266 u267 u268 u269 u270 u271 u272 u273 u274 u275 u276 : Value, a' = ⟨List.toArray (D0::D1::D2::D3::D4::D5::D6::D7::D8::D9::Da::Db::Dc::Dd::De::Df::Dg::Dh::(.pointer (some ⟨b2, 0, none⟩))::Dj::Dk::Dl::(.pointer (some ⟨b1, 0, none⟩))::Dn::(.slice xo m xc)::Dp::(.slice yo m yc)::Dr::Ds::Dt::Du::Dv::Dw::Dx::Dy::Dz::E0::E1::E2::E3::E4::E5::E6::E7::E8::E9::Ea::Eb::Ec::Ed::Ee::Ef::Eg::Eh::Ei::Ej::Ek::El::Em::En::Eo::Ep::Eq::Er::Es::Et::Eu::Ev::Ew::Ex::Ey::Ez::G0::G1::G2::G3::G4::G5::G6::G7::G8::G9::Ga::Gb::Gc::Gd::Ge::Gf::Gg::Gh::Gi::Gj::Gk::Gl::Gm::Gn::Go::Gp::Gq::Gr::Gs::Gt::Gu::Gv::Gw::Gx::Gy::Gz::J0::J1::J2::J3::J4::J5::J6::J7::J8::J9::Ja::Jb::Jc::Jd::Je::Jf::Jg::Jh::Ji::Jj::Jk::Jl::Jm::Jn::Jo::Jp::Jq::Jr::Js::Jt::Ju::Jv::Jw::Jx::Jy::Jz::M0::M1::M2::M3::M4::M5::M6::M7::M8::M9::Ma::Mb::Mc::Md::Me::Mf::Mg::Mh::Mi::Mj::Mk::Ml::Mm::Mn::Mo::Mp::Mq::Mr::Ms::Mt::Mu::Mv::Mw::Mx::My::Mz::R0::R1::R2::R3::R4::R5::R6::R7::R8::R9::Ra::Rb::Rc::Rd::Re::Rf::Rg::Rh::Ri::Rj::Rk::Rl::Rm::Rn::Ro::Rp::Rq::Rr::Rs::Rt::Ru::Rv::Rw::Rx::Ry::Rz::U0::U1::U2::U3::U4::U5::U6::U7::U8::U9::Ua::Ub::Uc::Ud::Ue::Uf::Ug::Uh::Ui::Uj::Uk::Ul::Um::Un::Uo::Up::Uq::Ur::Us::Ut::Uu::Uv::Uw::Ux::Uy::Uz::X0::X1::X2::X3::X4::X5::X6::X7::X8::X9::Xa::Xb::Xc::u265::u266::u267::u268::u269::u270::u271::u272::u273::u274::u275::u276::Xp::Xq::Xr::Xs::Xt::Xu::Xv::Xw::Xx::Xy::Xz::Y0::Y1::Y2::Y3::Y4::Y5::Y6::Y7::Y8::Y9::Ya::Yb::Yc::Yd::Ye::Yf::Yg::Yh::Yi::Yj::Yk::Yl::Ym::[]), []⟩ ∧ u276 = .bool false ∧ Wp (fun _ => False) wz w') ⟨List.toArray (D0::D1::D2::D3::D4::D5::D6::D7::D8::D9::Da::Db::Dc::Dd::De::Df::Dg::Dh::(.pointer (some ⟨b2, 0, none⟩))::Dj::Dk::Dl::(.pointer (some ⟨b1, 0, none⟩))::Dn::(.slice xo m xc)::Dp::(.slice yo m yc)::Dr::Ds::Dt::Du::Dv::Dw::Dx::Dy::Dz::E0::E1::E2::E3::E4::E5::E6::E7::E8::E9::Ea::Eb::Ec::Ed::Ee::Ef::Eg::Eh::Ei::Ej::Ek::El::Em::En::Eo::Ep::Eq::Er::Es::Et::Eu::Ev::Ew::Ex::Ey::Ez::G0::G1::G2::G3::G4::G5::G6::G7::G8::G9::Ga::Gb::Gc::Gd::Ge::Gf::Gg::Gh::Gi::Gj::Gk::Gl::Gm::Gn::Go::Gp::Gq::Gr::Gs::Gt::Gu::Gv::Gw::Gx::Gy::Gz::J0::J1::J2::J3::J4::J5::J6::J7::J8::J9::Ja::Jb::Jc::Jd::Je::Jf::Jg::Jh::Ji::Jj::Jk::Jl::Jm::Jn::Jo::Jp::Jq::Jr::Js::Jt::Ju::Jv::Jw::Jx::Jy::Jz::M0::M1::M2::M3::M4::M5::M6::M7::M8::M9::Ma::Mb::Mc::Md::Me::Mf::Mg::Mh::Mi::Mj::Mk::Ml::Mm::Mn::Mo::Mp::Mq::Mr::Ms::Mt::Mu::Mv::Mw::Mx::My::Mz::R0::R1::R2::R3::R4::R5::R6::R7::R8::R9::Ra::Rb::Rc::Rd::Re::Rf::Rg::Rh::Ri::Rj::Rk::Rl::Rm::Rn::Ro::Rp::Rq::Rr::Rs::Rt::Ru::Rv::Rw::Rx::Ry::Rz::U0::U1::U2::U3::U4::U5::U6::U7::U8::U9::Ua::Ub::Uc::Ud::Ue::Uf::Ug::Uh::Ui::Uj::Uk::Ul::Um::Un::Uo::Up::Uq::Ur::Us::Ut::Uu::Uv::Uw::Ux::Uy::Uz::X0::X1::X2::X3::X4::X5::X6::X7::X8::X9::Xa::Xb::Xc::Xd::Xe::Xf::Xg::Xh::Xi::Xj::Xk::Xl::Xm::Xn::Xo::Xp::Xq::Xr::Xs::Xt::Xu::Xv::Xw::Xx::Xy::Xz::Y0::Y1::Y2::Y3::Y4::Y5::Y6::Y7::Y8::Y9::Ya::Yb::Yc::Yd::Ye::Yf::Yg::Yh::Yi::Yj::Yk::Yl::Ym::[]), []⟩ wz := by
 conv => arg 2; whnf
 have HE := zB (And.intro h1 (And.intro h2 (And.intro v1 (And.intro v2 (And.intro t1 t2)))))
 subst hl
 subst hT
 obtain ⟨k0, k1⟩ := cl2o h1
 obtain ⟨k2, k3⟩ := cl2o h2
 have Q1 := zB (eqRow_same wz hh (.slice a1 l.length d1) (.slice a2 l.length d2) l v1 v2 (by omega))
 clear h1 h2 v1 v2 t1 t2
 refine wp_gen (fun K HQ => ?_)
 go_wp2_with fail
 refine (zA Q1).mono ?_
 rintro e x1 ⟨rfl, hk1⟩
 have HK1 := zB hk1
 have Q2 := zB (eqStepsG x1 (.slice xo T.length xc) (.slice yo T.length yc) T ((zA HE).2.2.2.2.1.keepF hk1) ((zA HE).2.2.2.2.2.keepF hk1) (by omega))
 clear hk1 Q1 k0 k1 k2 k3
 go_wp2_with fail
 refine (zA Q2).mono ?_
 rintro e x2 ⟨rfl, hk2⟩
 have HK2 := zB ((zA HK1).trans hk2)
 clear hk2 Q2
 go_wp2_with fail
 refine (zA HQ) _ _ ⟨(by first | rfl | trivial), _, _, _, _, _, _, _, _, _, _, _, _, rfl, rfl, zA HK2⟩
end Go.Proofs.YtbdlcaamanhapaaGreatDoor
