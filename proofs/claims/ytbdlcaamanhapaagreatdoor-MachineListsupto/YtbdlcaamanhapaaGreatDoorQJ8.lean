import Derived.Test.YtbdlcaamanhapaaGreatDoorQJ
namespace Go.Proofs.YtbdlcaamanhapaaGreatDoor
open Go.RowKit Go.Maps
set_option maxHeartbeats 32000000
variable {D0 D1 D2 D3 D4 D5 D6 D7 D8 D9 Da Db Dc Dd De Df Dg Dh Di Dj Dk Dl Dm Dn Do Dp Dq Dr Ds Dt Du Dv Dw Dx Dy Dz E0 E1 E2 E3 E4 E5 E6 E7 E8 E9 Ea Eb Ec Ed Ee Ef Eg Eh Ei Ej Ek El Em En Eo Ep Eq Er Es Et Eu Ev Ew Ex Ey Ez G0 G1 G2 G3 G4 G5 G6 G7 G8 G9 Ga Gb Gc Gd Ge Gf Gg Gh Gi Gj Gk Gl Gm Gn Go Gp Gq Gr Gs Gt Gu Gv Gw Gx Gy Gz J0 J1 J2 J3 J4 J5 J6 J7 J8 J9 Ja Jb Jc Jd Je Jf Jg Jh Ji Jj Jk Jl Jm Jn Jo Jp Jq Jr Js Jt Ju Jv Jw Jx Jy Jz M0 M1 M2 M3 M4 M5 M6 M7 M8 M9 Ma Mb Mc Md Me Mf Mg Mh Mi Mj Mk Ml Mm Mn Mo Mp Mq Mr Ms Mt Mu Mv Mw Mx My Mz R0 R1 R2 R3 R4 R5 R6 R7 R8 R9 Ra Rb Rc Rd Re Rf Rg Rh Ri Rj Rk Rl Rm Rn Ro Rp Rq Rr Rs Rt Ru Rv Rw Rx Ry Rz U0 U1 U2 U3 U4 U5 U6 U7 U8 U9 Ua Ub Uc Ud Ue Uf Ug Uh Ui Uj Uk Ul Um Un Uo Up Uq Ur Us Ut Uu Uv Uw Ux Uy Uz X0 X1 X2 X3 X4 X5 X6 X7 X8 X9 Xa Xb Xc Xd Xe Xf Xg Xh Xi Xj Xk Xl Xm Xn Xo Xp Xq Xr Xs Xt Xu Xv Xw Xx Xy Xz Y0 Y1 Y2 Y3 Y4 Y5 Y6 Y7 Y8 Y9 Ya Yb Yc Yd Ye Yf Yg Yh Yi Yj Yk Yl Ym : Value}
theorem eqVals_ok (w : World) (va vb : Value) (l : List ValA) (h1 : Wr w va l) (h2 : Wr w vb l) (hl : l.length ≤ 1073741824) :
  Calls Tryz.prog 15 #[va, vb] w fun e w' => e = .returned (.bool true) ∧ Wp (fun _ => False) w w' :=
 (eqVals_any w va vb l l h1 h2 (by unfold maxLen; omega)).mono fun e w' h => ⟨by rw [h.1]; simp, h.2⟩
theorem row_cellN {w : World} {B e n c k : Nat} {o : Option Addr} {xs : List Value} {x : Value} (h : w.ownsRow B e 1 (.slice o n c) n xs) (hx : xs[k]? = some x) : ∀ g, o = some ⟨g, 0, none⟩ → w.cell? ⟨g, k, none⟩ = some x := fun g hg => by
 subst hg
 have hl := get_lt hx
 have h1 := h.1
 exact (World.ownsRow.cellAt h k (by omega)).trans (by rw [← hx])
set_option maxRecDepth 1000000 in
theorem reg57  {gA gB gC gD eA eB eC eD N k xc yc xc2 yc2 : Nat} {xo yo xo2 yo2 : Option Addr} {l : List ValA} {l2 : List (Int × Txt)} {wz : World} (hk : k < N) (hN : N ≤ 4194304) (hcA : wz.cell? ⟨gA, k, none⟩ = some (.slice xo l.length xc)) (hcB : wz.cell? ⟨gB, k, none⟩ = some (.slice yo l.length yc)) (hcC : wz.cell? ⟨gC, k, none⟩ = some (.slice xo2 l2.length xc2)) (hcD : wz.cell? ⟨gD, k, none⟩ = some (.slice yo2 l2.length yc2)) (rx : Wr wz (.slice xo l.length xc) l) (ry : Wr wz (.slice yo l.length yc) l) (rx2 : Ws wz (.slice xo2 l2.length xc2) l2.length (sC l2)) (ry2 : Ws wz (.slice yo2 l2.length yc2) l2.length (sC l2)) (ll : l.length ≤ 1073741824) (ll2 : l2.length ≤ 1073741824) :
  Code.wp Tryz.prog (regn 57) (fun e a' w' => e = .normal ∧ ∃ u283 u284 u285 u286 u287 u288 u289 u290 u291 u292 u293 u294 u295 u296 u297 u298 u299 u300 u301 u302 u303 u304 : Value, a' = ⟨List.toArray (D0::D1::D2::D3::D4::D5::D6::D7::D8::(.slice (some ⟨gA, 0, none⟩) N eA)::(.slice (some ⟨gB, 0, none⟩) N eB)::(.slice (some ⟨gC, 0, none⟩) N eC)::(.slice (some ⟨gD, 0, none⟩) N eD)::Dd::De::Df::Dg::Dh::Di::Dj::Dk::Dl::Dm::Dn::Do::Dp::Dq::Dr::Ds::Dt::Du::Dv::Dw::Dx::Dy::Dz::E0::E1::E2::E3::(.int .i64 (k : Int))::E5::E6::E7::E8::E9::Ea::Eb::Ec::Ed::Ee::Ef::Eg::Eh::Ei::Ej::Ek::El::Em::En::Eo::Ep::Eq::Er::Es::Et::Eu::Ev::Ew::Ex::Ey::Ez::G0::G1::G2::G3::G4::G5::G6::G7::G8::G9::Ga::Gb::Gc::Gd::Ge::Gf::Gg::Gh::Gi::Gj::Gk::Gl::Gm::Gn::Go::Gp::Gq::Gr::Gs::Gt::Gu::Gv::Gw::Gx::Gy::Gz::J0::J1::J2::J3::J4::J5::J6::J7::J8::J9::Ja::Jb::Jc::Jd::Je::Jf::Jg::Jh::Ji::Jj::Jk::Jl::Jm::Jn::Jo::Jp::Jq::Jr::Js::Jt::Ju::Jv::Jw::Jx::Jy::Jz::M0::M1::M2::M3::M4::M5::M6::M7::M8::M9::Ma::Mb::Mc::Md::Me::Mf::Mg::Mh::Mi::Mj::Mk::Ml::Mm::Mn::Mo::Mp::Mq::Mr::Ms::Mt::Mu::Mv::Mw::Mx::My::Mz::R0::R1::R2::R3::R4::R5::R6::R7::R8::R9::Ra::Rb::Rc::Rd::Re::Rf::Rg::Rh::Ri::Rj::Rk::Rl::Rm::Rn::Ro::Rp::Rq::Rr::Rs::Rt::Ru::Rv::Rw::Rx::Ry::Rz::U0::U1::U2::U3::U4::U5::U6::U7::U8::U9::Ua::Ub::Uc::Ud::Ue::Uf::Ug::Uh::Ui::Uj::Uk::Ul::Um::Un::Uo::Up::Uq::Ur::Us::Ut::Uu::Uv::Uw::Ux::Uy::Uz::X0::X1::X2::X3::X4::X5::X6::X7::X8::X9::Xa::Xb::Xc::Xd::Xe::Xf::Xg::Xh::Xi::Xj::Xk::Xl::Xm::Xn::Xo::Xp::Xq::Xr::Xs::Xt::Xu::u283::u284::u285::u286::u287::u288::u289::u290::u291::u292::u293::u294::u295::u296::u297::u298::u299::u300::u301::u302::u303::u304::Yh::Yi::Yj::Yk::Yl::Ym::[]), []⟩ ∧ u304 = .bool false ∧ Wp (fun _ => False) wz w') ⟨List.toArray (D0::D1::D2::D3::D4::D5::D6::D7::D8::(.slice (some ⟨gA, 0, none⟩) N eA)::(.slice (some ⟨gB, 0, none⟩) N eB)::(.slice (some ⟨gC, 0, none⟩) N eC)::(.slice (some ⟨gD, 0, none⟩) N eD)::Dd::De::Df::Dg::Dh::Di::Dj::Dk::Dl::Dm::Dn::Do::Dp::Dq::Dr::Ds::Dt::Du::Dv::Dw::Dx::Dy::Dz::E0::E1::E2::E3::(.int .i64 (k : Int))::E5::E6::E7::E8::E9::Ea::Eb::Ec::Ed::Ee::Ef::Eg::Eh::Ei::Ej::Ek::El::Em::En::Eo::Ep::Eq::Er::Es::Et::Eu::Ev::Ew::Ex::Ey::Ez::G0::G1::G2::G3::G4::G5::G6::G7::G8::G9::Ga::Gb::Gc::Gd::Ge::Gf::Gg::Gh::Gi::Gj::Gk::Gl::Gm::Gn::Go::Gp::Gq::Gr::Gs::Gt::Gu::Gv::Gw::Gx::Gy::Gz::J0::J1::J2::J3::J4::J5::J6::J7::J8::J9::Ja::Jb::Jc::Jd::Je::Jf::Jg::Jh::Ji::Jj::Jk::Jl::Jm::Jn::Jo::Jp::Jq::Jr::Js::Jt::Ju::Jv::Jw::Jx::Jy::Jz::M0::M1::M2::M3::M4::M5::M6::M7::M8::M9::Ma::Mb::Mc::Md::Me::Mf::Mg::Mh::Mi::Mj::Mk::Ml::Mm::Mn::Mo::Mp::Mq::Mr::Ms::Mt::Mu::Mv::Mw::Mx::My::Mz::R0::R1::R2::R3::R4::R5::R6::R7::R8::R9::Ra::Rb::Rc::Rd::Re::Rf::Rg::Rh::Ri::Rj::Rk::Rl::Rm::Rn::Ro::Rp::Rq::Rr::Rs::Rt::Ru::Rv::Rw::Rx::Ry::Rz::U0::U1::U2::U3::U4::U5::U6::U7::U8::U9::Ua::Ub::Uc::Ud::Ue::Uf::Ug::Uh::Ui::Uj::Uk::Ul::Um::Un::Uo::Up::Uq::Ur::Us::Ut::Uu::Uv::Uw::Ux::Uy::Uz::X0::X1::X2::X3::X4::X5::X6::X7::X8::X9::Xa::Xb::Xc::Xd::Xe::Xf::Xg::Xh::Xi::Xj::Xk::Xl::Xm::Xn::Xo::Xp::Xq::Xr::Xs::Xt::Xu::Xv::Xw::Xx::Xy::Xz::Y0::Y1::Y2::Y3::Y4::Y5::Y6::Y7::Y8::Y9::Ya::Yb::Yc::Yd::Ye::Yf::Yg::Yh::Yi::Yj::Yk::Yl::Ym::[]), []⟩ wz := by
 conv => arg 2; whnf
 have HNN := zB hN
 clear HNN
 have hkd := (Wp.refl (fun _ => False) wz).drew
 have HCC := zB (And.intro hcA (And.intro hcB (And.intro hcC hcD)))
 have HR := zB (And.intro rx2 ry2)
 have QV := zB (eqVals_ok wz.drew _ _ l (Wr.keepF rx hkd) (Wr.keepF ry hkd) ll)
 have i1 : (k : Int) < (N : Int) := by omega
 have i0 : (0 : Int) ≤ (k : Int) := by omega
 clear rx ry rx2 ry2 hkd
 refine wp_gen (fun K HQ => ?_)
 go_region_held3 (fun w' => w'.cell? ⟨gA, k, none⟩ = some (.slice xo l.length xc) ∧ w'.cell? ⟨gB, k, none⟩ = some (.slice yo l.length yc) ∧ w'.cell? ⟨gC, k, none⟩ = some (.slice xo2 l2.length xc2) ∧ w'.cell? ⟨gD, k, none⟩ = some (.slice yo2 l2.length yc2))
  (go_keep)
  (first
    | (go_at_call 15
       refine (zA QV).mono ?_
       rintro e v1 ⟨rfl, hk1⟩
       have HK1 := zB ((Wp.refl (fun _ => False) wz).drew.trans hk1)
       have q1 := cell_keep (zA HCC).1 (zA HK1)
       have q2 := cell_keep (zA HCC).2.1 (zA HK1)
       have q3 := cell_keep (zA HCC).2.2.1 (zA HK1)
       have q4 := cell_keep (zA HCC).2.2.2 (zA HK1)
       have QS := zB (eqStepsG v1 _ _ l2 ((zA HR).1.keepF (zA HK1)) ((zA HR).2.keepF (zA HK1)) (by omega))
       clear hk1)
    | (go_at_call 13
       refine (zA QS).mono ?_
       rintro e v2 ⟨rfl, hk2⟩
       have HK2 := zB ((zA HK1).trans hk2)
       have r1 := cell_keep (zA HCC).1 (zA HK2)
       have r2 := cell_keep (zA HCC).2.1 (zA HK2)
       have r3 := cell_keep (zA HCC).2.2.1 (zA HK2)
       have r4 := cell_keep (zA HCC).2.2.2 (zA HK2)
       clear hk2))
 all_goals (go_wp2_with fail; (refine (zA HQ) _ _ ⟨(by first | rfl | trivial), _, _, _, _, _, _, _, _, _, _, _, _, _, _, _, _, _, _, _, _, _, _, rfl, rfl, zA HK2⟩))
set_option maxRecDepth 1000000 in
theorem loop5  {oA oB oC oD : Option Addr} {eA eB eC eD N jA jB jC jD : Nat} {sA sB sC_ sD : List Value} {its L : List Rowp} {P : Nat → Prop} {w3 w0 : World} {wz : World} (HS : St w3 w0 wz L P) (iA : L[jA]? = some (solo 25 1 N (.slice oA N eA) sA)) (iB : L[jB]? = some (solo 25 1 N (.slice oB N eB) sB)) (iC : L[jC]? = some (solo 45 1 N (.slice oC N eC) sC_)) (iD : L[jD]? = some (solo 45 1 N (.slice oD N eD) sD)) (PV : PairsZ kV its sA sB) (PS : PairsZ kS its sC_ sD) (hits : ∀ p ∈ its, p ∈ L) (hA : sA.length = N) (hC : sC_.length = N) (hN : N ≤ 4194304) :
  Code.wp Tryz.prog (piece 8) (fun e a' w' => e = .normal ∧ ∃ u6 u40 u277 u278 u279 u280 u281 u282 u283 u284 u285 u286 u287 u288 u289 u290 u291 u292 u293 u294 u295 u296 u297 u298 u299 u300 u301 u302 u303 u304 : Value, a' = ⟨List.toArray (D0::D1::D2::D3::D4::D5::u6::D7::D8::(.slice oA N eA)::(.slice oB N eB)::(.slice oC N eC)::(.slice oD N eD)::Dd::De::Df::Dg::Dh::Di::Dj::Dk::Dl::Dm::Dn::Do::Dp::Dq::Dr::Ds::Dt::Du::Dv::Dw::Dx::Dy::Dz::E0::E1::E2::E3::u40::E5::E6::E7::E8::E9::Ea::Eb::Ec::Ed::Ee::Ef::Eg::Eh::Ei::Ej::Ek::El::Em::En::Eo::Ep::Eq::Er::Es::Et::Eu::Ev::Ew::Ex::Ey::Ez::G0::G1::G2::G3::G4::G5::G6::G7::G8::G9::Ga::Gb::Gc::Gd::Ge::Gf::Gg::Gh::Gi::Gj::Gk::Gl::Gm::Gn::Go::Gp::Gq::Gr::Gs::Gt::Gu::Gv::Gw::Gx::Gy::Gz::J0::J1::J2::J3::J4::J5::J6::J7::J8::J9::Ja::Jb::Jc::Jd::Je::Jf::Jg::Jh::Ji::Jj::Jk::Jl::Jm::Jn::Jo::Jp::Jq::Jr::Js::Jt::Ju::Jv::Jw::Jx::Jy::Jz::M0::M1::M2::M3::M4::M5::M6::M7::M8::M9::Ma::Mb::Mc::Md::Me::Mf::Mg::Mh::Mi::Mj::Mk::Ml::Mm::Mn::Mo::Mp::Mq::Mr::Ms::Mt::Mu::Mv::Mw::Mx::My::Mz::R0::R1::R2::R3::R4::R5::R6::R7::R8::R9::Ra::Rb::Rc::Rd::Re::Rf::Rg::Rh::Ri::Rj::Rk::Rl::Rm::Rn::Ro::Rp::Rq::Rr::Rs::Rt::Ru::Rv::Rw::Rx::Ry::Rz::U0::U1::U2::U3::U4::U5::U6::U7::U8::U9::Ua::Ub::Uc::Ud::Ue::Uf::Ug::Uh::Ui::Uj::Uk::Ul::Um::Un::Uo::Up::Uq::Ur::Us::Ut::Uu::Uv::Uw::Ux::Uy::Uz::X0::X1::X2::X3::X4::X5::X6::X7::X8::X9::Xa::Xb::Xc::Xd::Xe::Xf::Xg::Xh::Xi::Xj::Xk::Xl::Xm::Xn::Xo::u277::u278::u279::u280::u281::u282::u283::u284::u285::u286::u287::u288::u289::u290::u291::u292::u293::u294::u295::u296::u297::u298::u299::u300::u301::u302::u303::u304::Yh::Yi::Yj::Yk::Yl::Ym::[]), []⟩ ∧ St w3 w0 w' L P) ⟨List.toArray (D0::D1::D2::D3::D4::D5::D6::D7::D8::(.slice oA N eA)::(.slice oB N eB)::(.slice oC N eC)::(.slice oD N eD)::Dd::De::Df::Dg::Dh::Di::Dj::Dk::Dl::Dm::Dn::Do::Dp::Dq::Dr::Ds::Dt::Du::Dv::Dw::Dx::Dy::Dz::E0::E1::E2::E3::(.int .i64 0)::E5::E6::E7::E8::E9::Ea::Eb::Ec::Ed::Ee::Ef::Eg::Eh::Ei::Ej::Ek::El::Em::En::Eo::Ep::Eq::Er::Es::Et::Eu::Ev::Ew::Ex::Ey::Ez::G0::G1::G2::G3::G4::G5::G6::G7::G8::G9::Ga::Gb::Gc::Gd::Ge::Gf::Gg::Gh::Gi::Gj::Gk::Gl::Gm::Gn::Go::Gp::Gq::Gr::Gs::Gt::Gu::Gv::Gw::Gx::Gy::Gz::J0::J1::J2::J3::J4::J5::J6::J7::J8::J9::Ja::Jb::Jc::Jd::Je::Jf::Jg::Jh::Ji::Jj::Jk::Jl::Jm::Jn::Jo::Jp::Jq::Jr::Js::Jt::Ju::Jv::Jw::Jx::Jy::Jz::M0::M1::M2::M3::M4::M5::M6::M7::M8::M9::Ma::Mb::Mc::Md::Me::Mf::Mg::Mh::Mi::Mj::Mk::Ml::Mm::Mn::Mo::Mp::Mq::Mr::Ms::Mt::Mu::Mv::Mw::Mx::My::Mz::R0::R1::R2::R3::R4::R5::R6::R7::R8::R9::Ra::Rb::Rc::Rd::Re::Rf::Rg::Rh::Ri::Rj::Rk::Rl::Rm::Rn::Ro::Rp::Rq::Rr::Rs::Rt::Ru::Rv::Rw::Rx::Ry::Rz::U0::U1::U2::U3::U4::U5::U6::U7::U8::U9::Ua::Ub::Uc::Ud::Ue::Uf::Ug::Uh::Ui::Uj::Uk::Ul::Um::Un::Uo::Up::Uq::Ur::Us::Ut::Uu::Uv::Uw::Ux::Uy::Uz::X0::X1::X2::X3::X4::X5::X6::X7::X8::X9::Xa::Xb::Xc::Xd::Xe::Xf::Xg::Xh::Xi::Xj::Xk::Xl::Xm::Xn::Xo::Xp::Xq::Xr::Xs::Xt::Xu::Xv::Xw::Xx::Xy::Xz::Y0::Y1::Y2::Y3::Y4::Y5::Y6::Y7::Y8::Y9::Ya::Yb::Yc::Yd::Ye::Yf::Yg::Yh::Yi::Yj::Yk::Yl::Ym::[]), []⟩ wz := by
 conv => arg 2; whnf
 have HT := zB HS
 have HI := zB (And.intro iA (And.intro iB (And.intro iC iD)))
 have HP := zB (And.intro PV (And.intro PS hits))
 have HL := zB (And.intro hA hC)
 clear HS iA iB iC iD PV PS hits hA hC
 refine wp_gen (fun K HQ => ?_)
 go_wp2_with fail
 go_loopw [40] (fun iv wr => ∃ k : Nat, iv = .int .i64 (k : Int) ∧ k ≤ N ∧ Hid (St w3 w0 wr L P)) (fun iv _ => N - (intOf iv).toNat)
 case atStart => exact ⟨0, rfl, Nat.zero_le _, HT⟩
 case round =>
  clear HT
  obtain ⟨k, rfl, hk, HT⟩ := hrel
  by_cases hlt : k < N
  ·obtain ⟨x, y, l, ex, ey, ll, rx, ry⟩ := (zA HP).1.at (zA HT).sk.sack (zA HP).2.2 (i := k) (by rw [(zA HL).1]; exact hlt)
   obtain ⟨x', y', l', ex', ey', ll', rx', ry'⟩ := (zA HP).2.1.at (zA HT).sk.sack (zA HP).2.2 (i := k) (by rw [(zA HL).2]; exact hlt)
   have hcA := row_cellN ((zA HT).ati (zA HI).1).x ex
   have hcB := row_cellN ((zA HT).ati (zA HI).2.1).x ey
   have hcC := row_cellN ((zA HT).ati (zA HI).2.2.1).x ex'
   have hcD := row_cellN ((zA HT).ati (zA HI).2.2.2).x ey'
   obtain ⟨gA, rfl, _⟩ := own_some ((zA HT).ati (zA HI).1).x (by omega)
   obtain ⟨gB, rfl, _⟩ := own_some ((zA HT).ati (zA HI).2.1).x (by omega)
   obtain ⟨gC, rfl, _⟩ := own_some ((zA HT).ati (zA HI).2.2.1).x (by omega)
   obtain ⟨gD, rfl, _⟩ := own_some ((zA HT).ati (zA HI).2.2.2).x (by omega)
   have hcA := hcA gA rfl
   have hcB := hcB gB rfl
   have hcC := hcC gC rfl
   have hcD := hcD gD rfl
   obtain ⟨xo, xc, rfl⟩ := rx.form
   obtain ⟨yo, yc, rfl⟩ := ry.form
   obtain ⟨xo', xc', rfl⟩ := rx'.form
   obtain ⟨yo', yc', rfl⟩ := ry'.form
   have H57 := zB (And.intro hcA (And.intro hcB (And.intro hcC (And.intro hcD (And.intro rx (And.intro ry (And.intro rx' (And.intro ry' (And.intro ll ll')))))))))
   have i1 : (k : Int) < (N : Int) := by omega
   have i0 : (0 : Int) ≤ (k : Int) := by omega
   clear ex ey ex' ey' rx ry rx' ry' hcA hcB hcC hcD ll ll'
   go_wp2_with fail
   refine wp_mono (reg57 (l := l) (l2 := l') (hk := hlt) (hN := hN) (hcA := (zA H57).1) (hcB := (zA H57).2.1) (hcC := (zA H57).2.2.1) (hcD := (zA H57).2.2.2.1) (rx := (zA H57).2.2.2.2.1) (ry := (zA H57).2.2.2.2.2.1) (rx2 := (zA H57).2.2.2.2.2.2.1) (ry2 := (zA H57).2.2.2.2.2.2.2.1) (ll := (zA H57).2.2.2.2.2.2.2.2.1) (ll2 := (zA H57).2.2.2.2.2.2.2.2.2)) ?_
   rintro e a' w' ⟨rfl, v0, v1, v2, v3, v4, v5, v6, v7, v8, v9, v10, v11, v12, v13, v14, v15, v16, v17, v18, v19, v20, v21, rfl, rfl, hk2⟩
   have HT2 := zB ((zA HT).keepF hk2)
   clear H57 hk2 HT
   go_wp2_with fail
   go_roundw
   case rel => exact ⟨k + 1, by go_num, by omega, HT2⟩
   case measure => simp [intOf]; omega
  ·obtain rfl : k = N := by omega
   go_wp2_with fail
   exact (zA HQ) _ _ ⟨(by first | rfl | trivial), _, _, _, _, _, _, _, _, _, _, _, _, _, _, _, _, _, _, _, _, _, _, _, _, _, _, _, _, _, _, rfl, zA HT⟩
end Go.Proofs.YtbdlcaamanhapaaGreatDoor
