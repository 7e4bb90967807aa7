/- The tables of the program: its types and its functions. -/
import Derived.Test.YtnibabkgeolenaaT10
import Derived.Test.YtnibabkgeolenaaProg
import Derived.KernelRfl
set_option linter.unusedSimpArgs false
set_option linter.unusedVariables false
namespace Go.Am
open Go.Proofs
noncomputable def tyTree : Tr TypeInfo := (.node 0 Try.t0 (.node 1 Try.t1 (.node 3 Try.t3 (.node 7 Try.t7 (.node 15 Try.t15 (.node 31 Try.t31 (.node 63 Try.t63 (.node 127 Try.t127 .nil .nil) .nil) (.node 95 Try.t95 (.node 159 Try.t159 .nil .nil) .nil)) (.node 47 Try.t47 (.node 79 Try.t79 (.node 143 Try.t143 .nil .nil) .nil) (.node 111 Try.t111 (.node 175 Try.t175 .nil .nil) .nil))) (.node 23 Try.t23 (.node 39 Try.t39 (.node 71 Try.t71 (.node 135 Try.t135 .nil .nil) .nil) (.node 103 Try.t103 (.node 167 Try.t167 .nil .nil) .nil)) (.node 55 Try.t55 (.node 87 Try.t87 (.node 151 Try.t151 .nil .nil) .nil) (.node 119 Try.t119 (.node 183 Try.t183 .nil .nil) .nil)))) (.node 11 Try.t11 (.node 19 Try.t19 (.node 35 Try.t35 (.node 67 Try.t67 (.node 131 Try.t131 .nil .nil) .nil) (.node 99 Try.t99 (.node 163 Try.t163 .nil .nil) .nil)) (.node 51 Try.t51 (.node 83 Try.t83 (.node 147 Try.t147 .nil .nil) .nil) (.node 115 Try.t115 (.node 179 Try.t179 .nil .nil) .nil))) (.node 27 Try.t27 (.node 43 Try.t43 (.node 75 Try.t75 (.node 139 Try.t139 .nil .nil) .nil) (.node 107 Try.t107 (.node 171 Try.t171 .nil .nil) .nil)) (.node 59 Try.t59 (.node 91 Try.t91 (.node 155 Try.t155 .nil .nil) .nil) (.node 123 Try.t123 (.node 187 Try.t187 .nil .nil) .nil))))) (.node 5 Try.t5 (.node 9 Try.t9 (.node 17 Try.t17 (.node 33 Try.t33 (.node 65 Try.t65 (.node 129 Try.t129 .nil .nil) .nil) (.node 97 Try.t97 (.node 161 Try.t161 .nil .nil) .nil)) (.node 49 Try.t49 (.node 81 Try.t81 (.node 145 Try.t145 .nil .nil) .nil) (.node 113 Try.t113 (.node 177 Try.t177 .nil .nil) .nil))) (.node 25 Try.t25 (.node 41 Try.t41 (.node 73 Try.t73 (.node 137 Try.t137 .nil .nil) .nil) (.node 105 Try.t105 (.node 169 Try.t169 .nil .nil) .nil)) (.node 57 Try.t57 (.node 89 Try.t89 (.node 153 Try.t153 .nil .nil) .nil) (.node 121 Try.t121 (.node 185 Try.t185 .nil .nil) .nil)))) (.node 13 Try.t13 (.node 21 Try.t21 (.node 37 Try.t37 (.node 69 Try.t69 (.node 133 Try.t133 .nil .nil) .nil) (.node 101 Try.t101 (.node 165 Try.t165 .nil .nil) .nil)) (.node 53 Try.t53 (.node 85 Try.t85 (.node 149 Try.t149 .nil .nil) .nil) (.node 117 Try.t117 (.node 181 Try.t181 .nil .nil) .nil))) (.node 29 Try.t29 (.node 45 Try.t45 (.node 77 Try.t77 (.node 141 Try.t141 .nil .nil) .nil) (.node 109 Try.t109 (.node 173 Try.t173 .nil .nil) .nil)) (.node 61 Try.t61 (.node 93 Try.t93 (.node 157 Try.t157 .nil .nil) .nil) (.node 125 Try.t125 .nil .nil)))))) (.node 2 Try.t2 (.node 4 Try.t4 (.node 8 Try.t8 (.node 16 Try.t16 (.node 32 Try.t32 (.node 64 Try.t64 (.node 128 Try.t128 .nil .nil) .nil) (.node 96 Try.t96 (.node 160 Try.t160 .nil .nil) .nil)) (.node 48 Try.t48 (.node 80 Try.t80 (.node 144 Try.t144 .nil .nil) .nil) (.node 112 Try.t112 (.node 176 Try.t176 .nil .nil) .nil))) (.node 24 Try.t24 (.node 40 Try.t40 (.node 72 Try.t72 (.node 136 Try.t136 .nil .nil) .nil) (.node 104 Try.t104 (.node 168 Try.t168 .nil .nil) .nil)) (.node 56 Try.t56 (.node 88 Try.t88 (.node 152 Try.t152 .nil .nil) .nil) (.node 120 Try.t120 (.node 184 Try.t184 .nil .nil) .nil)))) (.node 12 Try.t12 (.node 20 Try.t20 (.node 36 Try.t36 (.node 68 Try.t68 (.node 132 Try.t132 .nil .nil) .nil) (.node 100 Try.t100 (.node 164 Try.t164 .nil .nil) .nil)) (.node 52 Try.t52 (.node 84 Try.t84 (.node 148 Try.t148 .nil .nil) .nil) (.node 116 Try.t116 (.node 180 Try.t180 .nil .nil) .nil))) (.node 28 Try.t28 (.node 44 Try.t44 (.node 76 Try.t76 (.node 140 Try.t140 .nil .nil) .nil) (.node 108 Try.t108 (.node 172 Try.t172 .nil .nil) .nil)) (.node 60 Try.t60 (.node 92 Try.t92 (.node 156 Try.t156 .nil .nil) .nil) (.node 124 Try.t124 (.node 188 Try.t188 .nil .nil) .nil))))) (.node 6 Try.t6 (.node 10 Try.t10 (.node 18 Try.t18 (.node 34 Try.t34 (.node 66 Try.t66 (.node 130 Try.t130 .nil .nil) .nil) (.node 98 Try.t98 (.node 162 Try.t162 .nil .nil) .nil)) (.node 50 Try.t50 (.node 82 Try.t82 (.node 146 Try.t146 .nil .nil) .nil) (.node 114 Try.t114 (.node 178 Try.t178 .nil .nil) .nil))) (.node 26 Try.t26 (.node 42 Try.t42 (.node 74 Try.t74 (.node 138 Try.t138 .nil .nil) .nil) (.node 106 Try.t106 (.node 170 Try.t170 .nil .nil) .nil)) (.node 58 Try.t58 (.node 90 Try.t90 (.node 154 Try.t154 .nil .nil) .nil) (.node 122 Try.t122 (.node 186 Try.t186 .nil .nil) .nil)))) (.node 14 Try.t14 (.node 22 Try.t22 (.node 38 Try.t38 (.node 70 Try.t70 (.node 134 Try.t134 .nil .nil) .nil) (.node 102 Try.t102 (.node 166 Try.t166 .nil .nil) .nil)) (.node 54 Try.t54 (.node 86 Try.t86 (.node 150 Try.t150 .nil .nil) .nil) (.node 118 Try.t118 (.node 182 Try.t182 .nil .nil) .nil))) (.node 30 Try.t30 (.node 46 Try.t46 (.node 78 Try.t78 (.node 142 Try.t142 .nil .nil) .nil) (.node 110 Try.t110 (.node 174 Try.t174 .nil .nil) .nil)) (.node 62 Try.t62 (.node 94 Try.t94 (.node 158 Try.t158 .nil .nil) .nil) (.node 126 Try.t126 .nil .nil)))))))
noncomputable def fnTree : Tr Func := (.node 0 Try.f0 (.node 1 Try.f1 (.node 3 Try.f3 (.node 7 Try.f7 (.node 15 Try.f15 (.node 31 Try.f31 (.node 63 Try.f63 (.node 127 Try.f127 .nil .nil) .nil) (.node 95 Try.f95 .nil .nil)) (.node 47 Try.f47 (.node 79 Try.f79 (.node 143 Try.f143 .nil .nil) .nil) (.node 111 Try.f111 .nil .nil))) (.node 23 Try.f23 (.node 39 Try.f39 (.node 71 Try.f71 (.node 135 Try.f135 .nil .nil) .nil) (.node 103 Try.f103 .nil .nil)) (.node 55 Try.f55 (.node 87 Try.f87 (.node 151 Try.f151 .nil .nil) .nil) (.node 119 Try.f119 .nil .nil)))) (.node 11 Try.f11 (.node 19 Try.f19 (.node 35 Try.f35 (.node 67 Try.f67 (.node 131 Try.f131 .nil .nil) .nil) (.node 99 Try.f99 .nil .nil)) (.node 51 Try.f51 (.node 83 Try.f83 (.node 147 Try.f147 .nil .nil) .nil) (.node 115 Try.f115 .nil .nil))) (.node 27 Try.f27 (.node 43 Try.f43 (.node 75 Try.f75 (.node 139 Try.f139 .nil .nil) .nil) (.node 107 Try.f107 .nil .nil)) (.node 59 Try.f59 (.node 91 Try.f91 .nil .nil) (.node 123 Try.f123 .nil .nil))))) (.node 5 Try.f5 (.node 9 Try.f9 (.node 17 Try.f17 (.node 33 Try.f33 (.node 65 Try.f65 (.node 129 Try.f129 .nil .nil) .nil) (.node 97 Try.f97 .nil .nil)) (.node 49 Try.f49 (.node 81 Try.f81 (.node 145 Try.f145 .nil .nil) .nil) (.node 113 Try.f113 .nil .nil))) (.node 25 Try.f25 (.node 41 Try.f41 (.node 73 Try.f73 (.node 137 Try.f137 .nil .nil) .nil) (.node 105 Try.f105 .nil .nil)) (.node 57 Try.f57 (.node 89 Try.f89 (.node 153 Try.f153 .nil .nil) .nil) (.node 121 Try.f121 .nil .nil)))) (.node 13 Try.f13 (.node 21 Try.f21 (.node 37 Try.f37 (.node 69 Try.f69 (.node 133 Try.f133 .nil .nil) .nil) (.node 101 Try.f101 .nil .nil)) (.node 53 Try.f53 (.node 85 Try.f85 (.node 149 Try.f149 .nil .nil) .nil) (.node 117 Try.f117 .nil .nil))) (.node 29 Try.f29 (.node 45 Try.f45 (.node 77 Try.f77 (.node 141 Try.f141 .nil .nil) .nil) (.node 109 Try.f109 .nil .nil)) (.node 61 Try.f61 (.node 93 Try.f93 .nil .nil) (.node 125 Try.f125 .nil .nil)))))) (.node 2 Try.f2 (.node 4 Try.f4 (.node 8 Try.f8 (.node 16 Try.f16 (.node 32 Try.f32 (.node 64 Try.f64 (.node 128 Try.f128 .nil .nil) .nil) (.node 96 Try.f96 .nil .nil)) (.node 48 Try.f48 (.node 80 Try.f80 (.node 144 Try.f144 .nil .nil) .nil) (.node 112 Try.f112 .nil .nil))) (.node 24 Try.f24 (.node 40 Try.f40 (.node 72 Try.f72 (.node 136 Try.f136 .nil .nil) .nil) (.node 104 Try.f104 .nil .nil)) (.node 56 Try.f56 (.node 88 Try.f88 (.node 152 Try.f152 .nil .nil) .nil) (.node 120 Try.f120 .nil .nil)))) (.node 12 Try.f12 (.node 20 Try.f20 (.node 36 Try.f36 (.node 68 Try.f68 (.node 132 Try.f132 .nil .nil) .nil) (.node 100 Try.f100 .nil .nil)) (.node 52 Try.f52 (.node 84 Try.f84 (.node 148 Try.f148 .nil .nil) .nil) (.node 116 Try.f116 .nil .nil))) (.node 28 Try.f28 (.node 44 Try.f44 (.node 76 Try.f76 (.node 140 Try.f140 .nil .nil) .nil) (.node 108 Try.f108 .nil .nil)) (.node 60 Try.f60 (.node 92 Try.f92 .nil .nil) (.node 124 Try.f124 .nil .nil))))) (.node 6 Try.f6 (.node 10 Try.f10 (.node 18 Try.f18 (.node 34 Try.f34 (.node 66 Try.f66 (.node 130 Try.f130 .nil .nil) .nil) (.node 98 Try.f98 .nil .nil)) (.node 50 Try.f50 (.node 82 Try.f82 (.node 146 Try.f146 .nil .nil) .nil) (.node 114 Try.f114 .nil .nil))) (.node 26 Try.f26 (.node 42 Try.f42 (.node 74 Try.f74 (.node 138 Try.f138 .nil .nil) .nil) (.node 106 Try.f106 .nil .nil)) (.node 58 Try.f58 (.node 90 Try.f90 .nil .nil) (.node 122 Try.f122 .nil .nil)))) (.node 14 Try.f14 (.node 22 Try.f22 (.node 38 Try.f38 (.node 70 Try.f70 (.node 134 Try.f134 .nil .nil) .nil) (.node 102 Try.f102 .nil .nil)) (.node 54 Try.f54 (.node 86 Try.f86 (.node 150 Try.f150 .nil .nil) .nil) (.node 118 Try.f118 .nil .nil))) (.node 30 Try.f30 (.node 46 Try.f46 (.node 78 Try.f78 (.node 142 Try.f142 .nil .nil) .nil) (.node 110 Try.f110 .nil .nil)) (.node 62 Try.f62 (.node 94 Try.f94 .nil .nil) (.node 126 Try.f126 .nil .nil)))))))
noncomputable def tab : Tab := tabOf tyTree fnTree
theorem nm0 : (Try.f0.name == "runtime.NumGoroutine") = false := by kernel_rfl
theorem nm1 : (Try.f1.name == "runtime.NumGoroutine") = false := by kernel_rfl
theorem nm2 : (Try.f2.name == "runtime.NumGoroutine") = false := by kernel_rfl
theorem nm3 : (Try.f3.name == "runtime.NumGoroutine") = false := by kernel_rfl
theorem nm4 : (Try.f4.name == "runtime.NumGoroutine") = false := by kernel_rfl
theorem nm5 : (Try.f5.name == "runtime.NumGoroutine") = false := by kernel_rfl
theorem nm6 : (Try.f6.name == "runtime.NumGoroutine") = false := by kernel_rfl
theorem nm7 : (Try.f7.name == "runtime.NumGoroutine") = false := by kernel_rfl
theorem nm8 : (Try.f8.name == "runtime.NumGoroutine") = false := by kernel_rfl
theorem nm9 : (Try.f9.name == "runtime.NumGoroutine") = false := by kernel_rfl
theorem nm10 : (Try.f10.name == "runtime.NumGoroutine") = false := by kernel_rfl
theorem nm11 : (Try.f11.name == "runtime.NumGoroutine") = false := by kernel_rfl
theorem nm12 : (Try.f12.name == "runtime.NumGoroutine") = false := by kernel_rfl
theorem nm13 : (Try.f13.name == "runtime.NumGoroutine") = false := by kernel_rfl
theorem nm14 : (Try.f14.name == "runtime.NumGoroutine") = false := by kernel_rfl
theorem nm15 : (Try.f15.name == "runtime.NumGoroutine") = false := by kernel_rfl
theorem nm16 : (Try.f16.name == "runtime.NumGoroutine") = false := by kernel_rfl
theorem nm17 : (Try.f17.name == "runtime.NumGoroutine") = false := by kernel_rfl
theorem nm18 : (Try.f18.name == "runtime.NumGoroutine") = false := by kernel_rfl
theorem nm19 : (Try.f19.name == "runtime.NumGoroutine") = false := by kernel_rfl
theorem nm20 : (Try.f20.name == "runtime.NumGoroutine") = false := by kernel_rfl
theorem nm21 : (Try.f21.name == "runtime.NumGoroutine") = false := by kernel_rfl
theorem nm22 : (Try.f22.name == "runtime.NumGoroutine") = false := by kernel_rfl
theorem nm23 : (Try.f23.name == "runtime.NumGoroutine") = false := by kernel_rfl
theorem nm24 : (Try.f24.name == "runtime.NumGoroutine") = false := by kernel_rfl
theorem nm25 : (Try.f25.name == "runtime.NumGoroutine") = false := by kernel_rfl
theorem nm26 : (Try.f26.name == "runtime.NumGoroutine") = false := by kernel_rfl
theorem nm27 : (Try.f27.name == "runtime.NumGoroutine") = false := by kernel_rfl
theorem nm28 : (Try.f28.name == "runtime.NumGoroutine") = false := by kernel_rfl
theorem nm29 : (Try.f29.name == "runtime.NumGoroutine") = false := by kernel_rfl
theorem nm30 : (Try.f30.name == "runtime.NumGoroutine") = false := by kernel_rfl
theorem nm31 : (Try.f31.name == "runtime.NumGoroutine") = false := by kernel_rfl
theorem nm32 : (Try.f32.name == "runtime.NumGoroutine") = false := by kernel_rfl
theorem nm33 : (Try.f33.name == "runtime.NumGoroutine") = false := by kernel_rfl
theorem nm34 : (Try.f34.name == "runtime.NumGoroutine") = false := by kernel_rfl
theorem nm35 : (Try.f35.name == "runtime.NumGoroutine") = false := by kernel_rfl
theorem nm36 : (Try.f36.name == "runtime.NumGoroutine") = false := by kernel_rfl
theorem nm37 : (Try.f37.name == "runtime.NumGoroutine") = false := by kernel_rfl
theorem nm38 : (Try.f38.name == "runtime.NumGoroutine") = false := by kernel_rfl
theorem nm39 : (Try.f39.name == "runtime.NumGoroutine") = false := by kernel_rfl
theorem nm40 : (Try.f40.name == "runtime.NumGoroutine") = false := by kernel_rfl
theorem nm41 : (Try.f41.name == "runtime.NumGoroutine") = false := by kernel_rfl
theorem nm42 : (Try.f42.name == "runtime.NumGoroutine") = false := by kernel_rfl
theorem nm43 : (Try.f43.name == "runtime.NumGoroutine") = false := by kernel_rfl
theorem nm44 : (Try.f44.name == "runtime.NumGoroutine") = false := by kernel_rfl
theorem nm45 : (Try.f45.name == "runtime.NumGoroutine") = false := by kernel_rfl
theorem nm46 : (Try.f46.name == "runtime.NumGoroutine") = false := by kernel_rfl
theorem nm47 : (Try.f47.name == "runtime.NumGoroutine") = false := by kernel_rfl
theorem nm48 : (Try.f48.name == "runtime.NumGoroutine") = false := by kernel_rfl
theorem nm49 : (Try.f49.name == "runtime.NumGoroutine") = false := by kernel_rfl
theorem nm50 : (Try.f50.name == "runtime.NumGoroutine") = false := by kernel_rfl
theorem nm51 : (Try.f51.name == "runtime.NumGoroutine") = false := by kernel_rfl
theorem nm52 : (Try.f52.name == "runtime.NumGoroutine") = false := by kernel_rfl
theorem nm53 : (Try.f53.name == "runtime.NumGoroutine") = false := by kernel_rfl
theorem nm54 : (Try.f54.name == "runtime.NumGoroutine") = false := by kernel_rfl
theorem nm55 : (Try.f55.name == "runtime.NumGoroutine") = false := by kernel_rfl
theorem nm56 : (Try.f56.name == "runtime.NumGoroutine") = false := by kernel_rfl
theorem nm57 : (Try.f57.name == "runtime.NumGoroutine") = false := by kernel_rfl
theorem nm58 : (Try.f58.name == "runtime.NumGoroutine") = false := by kernel_rfl
theorem nm59 : (Try.f59.name == "runtime.NumGoroutine") = false := by kernel_rfl
theorem nm60 : (Try.f60.name == "runtime.NumGoroutine") = false := by kernel_rfl
theorem nm61 : (Try.f61.name == "runtime.NumGoroutine") = false := by kernel_rfl
theorem nm62 : (Try.f62.name == "runtime.NumGoroutine") = false := by kernel_rfl
theorem nm63 : (Try.f63.name == "runtime.NumGoroutine") = false := by kernel_rfl
theorem nm64 : (Try.f64.name == "runtime.NumGoroutine") = false := by kernel_rfl
theorem nm65 : (Try.f65.name == "runtime.NumGoroutine") = false := by kernel_rfl
theorem nm66 : (Try.f66.name == "runtime.NumGoroutine") = false := by kernel_rfl
theorem nm67 : (Try.f67.name == "runtime.NumGoroutine") = false := by kernel_rfl
theorem nm68 : (Try.f68.name == "runtime.NumGoroutine") = false := by kernel_rfl
theorem nm69 : (Try.f69.name == "runtime.NumGoroutine") = false := by kernel_rfl
theorem nm70 : (Try.f70.name == "runtime.NumGoroutine") = false := by kernel_rfl
theorem nm71 : (Try.f71.name == "runtime.NumGoroutine") = false := by kernel_rfl
theorem nm72 : (Try.f72.name == "runtime.NumGoroutine") = false := by kernel_rfl
theorem nm73 : (Try.f73.name == "runtime.NumGoroutine") = false := by kernel_rfl
theorem nm74 : (Try.f74.name == "runtime.NumGoroutine") = false := by kernel_rfl
theorem nm75 : (Try.f75.name == "runtime.NumGoroutine") = false := by kernel_rfl
theorem nm76 : (Try.f76.name == "runtime.NumGoroutine") = false := by kernel_rfl
theorem nm77 : (Try.f77.name == "runtime.NumGoroutine") = false := by kernel_rfl
theorem nm78 : (Try.f78.name == "runtime.NumGoroutine") = false := by kernel_rfl
theorem nm79 : (Try.f79.name == "runtime.NumGoroutine") = false := by kernel_rfl
theorem nm80 : (Try.f80.name == "runtime.NumGoroutine") = false := by kernel_rfl
theorem nm81 : (Try.f81.name == "runtime.NumGoroutine") = false := by kernel_rfl
theorem nm82 : (Try.f82.name == "runtime.NumGoroutine") = false := by kernel_rfl
theorem nm83 : (Try.f83.name == "runtime.NumGoroutine") = false := by kernel_rfl
theorem nm84 : (Try.f84.name == "runtime.NumGoroutine") = false := by kernel_rfl
theorem nm85 : (Try.f85.name == "runtime.NumGoroutine") = false := by kernel_rfl
theorem nm86 : (Try.f86.name == "runtime.NumGoroutine") = false := by kernel_rfl
theorem nm87 : (Try.f87.name == "runtime.NumGoroutine") = false := by kernel_rfl
theorem nm88 : (Try.f88.name == "runtime.NumGoroutine") = false := by kernel_rfl
theorem nm89 : (Try.f89.name == "runtime.NumGoroutine") = false := by kernel_rfl
theorem nm90 : (Try.f90.name == "runtime.NumGoroutine") = false := by kernel_rfl
theorem nm91 : (Try.f91.name == "runtime.NumGoroutine") = false := by kernel_rfl
theorem nm92 : (Try.f92.name == "runtime.NumGoroutine") = false := by kernel_rfl
theorem nm93 : (Try.f93.name == "runtime.NumGoroutine") = false := by kernel_rfl
theorem nm94 : (Try.f94.name == "runtime.NumGoroutine") = false := by kernel_rfl
theorem nm95 : (Try.f95.name == "runtime.NumGoroutine") = false := by kernel_rfl
theorem nm96 : (Try.f96.name == "runtime.NumGoroutine") = false := by kernel_rfl
theorem nm97 : (Try.f97.name == "runtime.NumGoroutine") = false := by kernel_rfl
theorem nm98 : (Try.f98.name == "runtime.NumGoroutine") = false := by kernel_rfl
theorem nm99 : (Try.f99.name == "runtime.NumGoroutine") = false := by kernel_rfl
theorem nm100 : (Try.f100.name == "runtime.NumGoroutine") = false := by kernel_rfl
theorem nm101 : (Try.f101.name == "runtime.NumGoroutine") = false := by kernel_rfl
theorem nm102 : (Try.f102.name == "runtime.NumGoroutine") = false := by kernel_rfl
theorem nm103 : (Try.f103.name == "runtime.NumGoroutine") = false := by kernel_rfl
theorem nm104 : (Try.f104.name == "runtime.NumGoroutine") = false := by kernel_rfl
theorem nm105 : (Try.f105.name == "runtime.NumGoroutine") = false := by kernel_rfl
theorem nm106 : (Try.f106.name == "runtime.NumGoroutine") = false := by kernel_rfl
theorem nm107 : (Try.f107.name == "runtime.NumGoroutine") = false := by kernel_rfl
theorem nm108 : (Try.f108.name == "runtime.NumGoroutine") = false := by kernel_rfl
theorem nm109 : (Try.f109.name == "runtime.NumGoroutine") = false := by kernel_rfl
theorem nm110 : (Try.f110.name == "runtime.NumGoroutine") = false := by kernel_rfl
theorem nm111 : (Try.f111.name == "runtime.NumGoroutine") = false := by kernel_rfl
theorem nm112 : (Try.f112.name == "runtime.NumGoroutine") = false := by kernel_rfl
theorem nm113 : (Try.f113.name == "runtime.NumGoroutine") = false := by kernel_rfl
theorem nm114 : (Try.f114.name == "runtime.NumGoroutine") = false := by kernel_rfl
theorem nm115 : (Try.f115.name == "runtime.NumGoroutine") = false := by kernel_rfl
theorem nm116 : (Try.f116.name == "runtime.NumGoroutine") = false := by kernel_rfl
theorem nm117 : (Try.f117.name == "runtime.NumGoroutine") = false := by kernel_rfl
theorem nm118 : (Try.f118.name == "runtime.NumGoroutine") = false := by kernel_rfl
theorem nm119 : (Try.f119.name == "runtime.NumGoroutine") = false := by kernel_rfl
theorem nm120 : (Try.f120.name == "runtime.NumGoroutine") = false := by kernel_rfl
theorem nm121 : (Try.f121.name == "runtime.NumGoroutine") = false := by kernel_rfl
theorem nm122 : (Try.f122.name == "runtime.NumGoroutine") = false := by kernel_rfl
theorem nm123 : (Try.f123.name == "runtime.NumGoroutine") = false := by kernel_rfl
theorem nm124 : (Try.f124.name == "runtime.NumGoroutine") = false := by kernel_rfl
theorem nm125 : (Try.f125.name == "runtime.NumGoroutine") = false := by kernel_rfl
theorem nm126 : (Try.f126.name == "runtime.NumGoroutine") = false := by kernel_rfl
theorem nm127 : (Try.f127.name == "runtime.NumGoroutine") = false := by kernel_rfl
theorem nm128 : (Try.f128.name == "runtime.NumGoroutine") = false := by kernel_rfl
theorem nm129 : (Try.f129.name == "runtime.NumGoroutine") = false := by kernel_rfl
theorem nm130 : (Try.f130.name == "runtime.NumGoroutine") = false := by kernel_rfl
theorem nm131 : (Try.f131.name == "runtime.NumGoroutine") = false := by kernel_rfl
theorem nm132 : (Try.f132.name == "runtime.NumGoroutine") = false := by kernel_rfl
theorem nm133 : (Try.f133.name == "runtime.NumGoroutine") = false := by kernel_rfl
theorem nm134 : (Try.f134.name == "runtime.NumGoroutine") = false := by kernel_rfl
theorem nm135 : (Try.f135.name == "runtime.NumGoroutine") = false := by kernel_rfl
theorem nm136 : (Try.f136.name == "runtime.NumGoroutine") = false := by kernel_rfl
theorem nm137 : (Try.f137.name == "runtime.NumGoroutine") = false := by kernel_rfl
theorem nm138 : (Try.f138.name == "runtime.NumGoroutine") = false := by kernel_rfl
theorem nm139 : (Try.f139.name == "runtime.NumGoroutine") = false := by kernel_rfl
theorem nm140 : (Try.f140.name == "runtime.NumGoroutine") = false := by kernel_rfl
theorem nm141 : (Try.f141.name == "runtime.NumGoroutine") = false := by kernel_rfl
theorem nm142 : (Try.f142.name == "runtime.NumGoroutine") = false := by kernel_rfl
theorem nm143 : (Try.f143.name == "runtime.NumGoroutine") = false := by kernel_rfl
theorem nm144 : (Try.f144.name == "runtime.NumGoroutine") = false := by kernel_rfl
theorem nm145 : (Try.f145.name == "runtime.NumGoroutine") = false := by kernel_rfl
theorem nm146 : (Try.f146.name == "runtime.NumGoroutine") = false := by kernel_rfl
theorem nm147 : (Try.f147.name == "runtime.NumGoroutine") = false := by kernel_rfl
theorem nm148 : (Try.f148.name == "runtime.NumGoroutine") = false := by kernel_rfl
theorem nm149 : (Try.f149.name == "runtime.NumGoroutine") = false := by kernel_rfl
theorem nm150 : (Try.f150.name == "runtime.NumGoroutine") = false := by kernel_rfl
theorem nm151 : (Try.f151.name == "runtime.NumGoroutine") = false := by kernel_rfl
theorem nm152 : (Try.f152.name == "runtime.NumGoroutine") = false := by kernel_rfl
theorem nm153 : (Try.f153.name == "runtime.NumGoroutine") = false := by kernel_rfl
theorem ti0 : Try.prog.info? 0 = some Try.t0 := by kernel_rfl
theorem ti1 : Try.prog.info? 1 = some Try.t1 := by kernel_rfl
theorem ti2 : Try.prog.info? 2 = some Try.t2 := by kernel_rfl
theorem ti3 : Try.prog.info? 3 = some Try.t3 := by kernel_rfl
theorem ti4 : Try.prog.info? 4 = some Try.t4 := by kernel_rfl
theorem ti5 : Try.prog.info? 5 = some Try.t5 := by kernel_rfl
theorem ti6 : Try.prog.info? 6 = some Try.t6 := by kernel_rfl
theorem ti7 : Try.prog.info? 7 = some Try.t7 := by kernel_rfl
theorem ti8 : Try.prog.info? 8 = some Try.t8 := by kernel_rfl
theorem ti9 : Try.prog.info? 9 = some Try.t9 := by kernel_rfl
theorem ti10 : Try.prog.info? 10 = some Try.t10 := by kernel_rfl
theorem ti11 : Try.prog.info? 11 = some Try.t11 := by kernel_rfl
theorem ti12 : Try.prog.info? 12 = some Try.t12 := by kernel_rfl
theorem ti13 : Try.prog.info? 13 = some Try.t13 := by kernel_rfl
theorem ti14 : Try.prog.info? 14 = some Try.t14 := by kernel_rfl
theorem ti15 : Try.prog.info? 15 = some Try.t15 := by kernel_rfl
theorem ti16 : Try.prog.info? 16 = some Try.t16 := by kernel_rfl
theorem ti17 : Try.prog.info? 17 = some Try.t17 := by kernel_rfl
theorem ti18 : Try.prog.info? 18 = some Try.t18 := by kernel_rfl
theorem ti19 : Try.prog.info? 19 = some Try.t19 := by kernel_rfl
theorem ti20 : Try.prog.info? 20 = some Try.t20 := by kernel_rfl
theorem ti21 : Try.prog.info? 21 = some Try.t21 := by kernel_rfl
theorem ti22 : Try.prog.info? 22 = some Try.t22 := by kernel_rfl
theorem ti23 : Try.prog.info? 23 = some Try.t23 := by kernel_rfl
theorem ti24 : Try.prog.info? 24 = some Try.t24 := by kernel_rfl
theorem ti25 : Try.prog.info? 25 = some Try.t25 := by kernel_rfl
theorem ti26 : Try.prog.info? 26 = some Try.t26 := by kernel_rfl
theorem ti27 : Try.prog.info? 27 = some Try.t27 := by kernel_rfl
theorem ti28 : Try.prog.info? 28 = some Try.t28 := by kernel_rfl
theorem ti29 : Try.prog.info? 29 = some Try.t29 := by kernel_rfl
theorem ti30 : Try.prog.info? 30 = some Try.t30 := by kernel_rfl
theorem ti31 : Try.prog.info? 31 = some Try.t31 := by kernel_rfl
theorem ti32 : Try.prog.info? 32 = some Try.t32 := by kernel_rfl
theorem ti33 : Try.prog.info? 33 = some Try.t33 := by kernel_rfl
theorem ti34 : Try.prog.info? 34 = some Try.t34 := by kernel_rfl
theorem ti35 : Try.prog.info? 35 = some Try.t35 := by kernel_rfl
theorem ti36 : Try.prog.info? 36 = some Try.t36 := by kernel_rfl
theorem ti37 : Try.prog.info? 37 = some Try.t37 := by kernel_rfl
theorem ti38 : Try.prog.info? 38 = some Try.t38 := by kernel_rfl
theorem ti39 : Try.prog.info? 39 = some Try.t39 := by kernel_rfl
theorem ti40 : Try.prog.info? 40 = some Try.t40 := by kernel_rfl
theorem ti41 : Try.prog.info? 41 = some Try.t41 := by kernel_rfl
theorem ti42 : Try.prog.info? 42 = some Try.t42 := by kernel_rfl
theorem ti43 : Try.prog.info? 43 = some Try.t43 := by kernel_rfl
theorem ti44 : Try.prog.info? 44 = some Try.t44 := by kernel_rfl
theorem ti45 : Try.prog.info? 45 = some Try.t45 := by kernel_rfl
theorem ti46 : Try.prog.info? 46 = some Try.t46 := by kernel_rfl
theorem ti47 : Try.prog.info? 47 = some Try.t47 := by kernel_rfl
theorem ti48 : Try.prog.info? 48 = some Try.t48 := by kernel_rfl
theorem ti49 : Try.prog.info? 49 = some Try.t49 := by kernel_rfl
theorem ti50 : Try.prog.info? 50 = some Try.t50 := by kernel_rfl
theorem ti51 : Try.prog.info? 51 = some Try.t51 := by kernel_rfl
theorem ti52 : Try.prog.info? 52 = some Try.t52 := by kernel_rfl
theorem ti53 : Try.prog.info? 53 = some Try.t53 := by kernel_rfl
theorem ti54 : Try.prog.info? 54 = some Try.t54 := by kernel_rfl
theorem ti55 : Try.prog.info? 55 = some Try.t55 := by kernel_rfl
theorem ti56 : Try.prog.info? 56 = some Try.t56 := by kernel_rfl
theorem ti57 : Try.prog.info? 57 = some Try.t57 := by kernel_rfl
theorem ti58 : Try.prog.info? 58 = some Try.t58 := by kernel_rfl
theorem ti59 : Try.prog.info? 59 = some Try.t59 := by kernel_rfl
theorem ti60 : Try.prog.info? 60 = some Try.t60 := by kernel_rfl
theorem ti61 : Try.prog.info? 61 = some Try.t61 := by kernel_rfl
theorem ti62 : Try.prog.info? 62 = some Try.t62 := by kernel_rfl
theorem ti63 : Try.prog.info? 63 = some Try.t63 := by kernel_rfl
theorem ti64 : Try.prog.info? 64 = some Try.t64 := by kernel_rfl
theorem ti65 : Try.prog.info? 65 = some Try.t65 := by kernel_rfl
theorem ti66 : Try.prog.info? 66 = some Try.t66 := by kernel_rfl
theorem ti67 : Try.prog.info? 67 = some Try.t67 := by kernel_rfl
theorem ti68 : Try.prog.info? 68 = some Try.t68 := by kernel_rfl
theorem ti69 : Try.prog.info? 69 = some Try.t69 := by kernel_rfl
theorem ti70 : Try.prog.info? 70 = some Try.t70 := by kernel_rfl
theorem ti71 : Try.prog.info? 71 = some Try.t71 := by kernel_rfl
theorem ti72 : Try.prog.info? 72 = some Try.t72 := by kernel_rfl
theorem ti73 : Try.prog.info? 73 = some Try.t73 := by kernel_rfl
theorem ti74 : Try.prog.info? 74 = some Try.t74 := by kernel_rfl
theorem ti75 : Try.prog.info? 75 = some Try.t75 := by kernel_rfl
theorem ti76 : Try.prog.info? 76 = some Try.t76 := by kernel_rfl
theorem ti77 : Try.prog.info? 77 = some Try.t77 := by kernel_rfl
theorem ti78 : Try.prog.info? 78 = some Try.t78 := by kernel_rfl
theorem ti79 : Try.prog.info? 79 = some Try.t79 := by kernel_rfl
theorem ti80 : Try.prog.info? 80 = some Try.t80 := by kernel_rfl
theorem ti81 : Try.prog.info? 81 = some Try.t81 := by kernel_rfl
theorem ti82 : Try.prog.info? 82 = some Try.t82 := by kernel_rfl
theorem ti83 : Try.prog.info? 83 = some Try.t83 := by kernel_rfl
theorem ti84 : Try.prog.info? 84 = some Try.t84 := by kernel_rfl
theorem ti85 : Try.prog.info? 85 = some Try.t85 := by kernel_rfl
theorem ti86 : Try.prog.info? 86 = some Try.t86 := by kernel_rfl
theorem ti87 : Try.prog.info? 87 = some Try.t87 := by kernel_rfl
theorem ti88 : Try.prog.info? 88 = some Try.t88 := by kernel_rfl
theorem ti89 : Try.prog.info? 89 = some Try.t89 := by kernel_rfl
theorem ti90 : Try.prog.info? 90 = some Try.t90 := by kernel_rfl
theorem ti91 : Try.prog.info? 91 = some Try.t91 := by kernel_rfl
theorem ti92 : Try.prog.info? 92 = some Try.t92 := by kernel_rfl
theorem ti93 : Try.prog.info? 93 = some Try.t93 := by kernel_rfl
theorem ti94 : Try.prog.info? 94 = some Try.t94 := by kernel_rfl
theorem ti95 : Try.prog.info? 95 = some Try.t95 := by kernel_rfl
theorem ti96 : Try.prog.info? 96 = some Try.t96 := by kernel_rfl
theorem ti97 : Try.prog.info? 97 = some Try.t97 := by kernel_rfl
theorem ti98 : Try.prog.info? 98 = some Try.t98 := by kernel_rfl
theorem ti99 : Try.prog.info? 99 = some Try.t99 := by kernel_rfl
theorem ti100 : Try.prog.info? 100 = some Try.t100 := by kernel_rfl
theorem ti101 : Try.prog.info? 101 = some Try.t101 := by kernel_rfl
theorem ti102 : Try.prog.info? 102 = some Try.t102 := by kernel_rfl
theorem ti103 : Try.prog.info? 103 = some Try.t103 := by kernel_rfl
theorem ti104 : Try.prog.info? 104 = some Try.t104 := by kernel_rfl
theorem ti105 : Try.prog.info? 105 = some Try.t105 := by kernel_rfl
theorem ti106 : Try.prog.info? 106 = some Try.t106 := by kernel_rfl
theorem ti107 : Try.prog.info? 107 = some Try.t107 := by kernel_rfl
theorem ti108 : Try.prog.info? 108 = some Try.t108 := by kernel_rfl
theorem ti109 : Try.prog.info? 109 = some Try.t109 := by kernel_rfl
theorem ti110 : Try.prog.info? 110 = some Try.t110 := by kernel_rfl
theorem ti111 : Try.prog.info? 111 = some Try.t111 := by kernel_rfl
theorem ti112 : Try.prog.info? 112 = some Try.t112 := by kernel_rfl
theorem ti113 : Try.prog.info? 113 = some Try.t113 := by kernel_rfl
theorem ti114 : Try.prog.info? 114 = some Try.t114 := by kernel_rfl
theorem ti115 : Try.prog.info? 115 = some Try.t115 := by kernel_rfl
theorem ti116 : Try.prog.info? 116 = some Try.t116 := by kernel_rfl
theorem ti117 : Try.prog.info? 117 = some Try.t117 := by kernel_rfl
theorem ti118 : Try.prog.info? 118 = some Try.t118 := by kernel_rfl
theorem ti119 : Try.prog.info? 119 = some Try.t119 := by kernel_rfl
theorem ti120 : Try.prog.info? 120 = some Try.t120 := by kernel_rfl
theorem ti121 : Try.prog.info? 121 = some Try.t121 := by kernel_rfl
theorem ti122 : Try.prog.info? 122 = some Try.t122 := by kernel_rfl
theorem ti123 : Try.prog.info? 123 = some Try.t123 := by kernel_rfl
theorem ti124 : Try.prog.info? 124 = some Try.t124 := by kernel_rfl
theorem ti125 : Try.prog.info? 125 = some Try.t125 := by kernel_rfl
theorem ti126 : Try.prog.info? 126 = some Try.t126 := by kernel_rfl
theorem ti127 : Try.prog.info? 127 = some Try.t127 := by kernel_rfl
theorem ti128 : Try.prog.info? 128 = some Try.t128 := by kernel_rfl
theorem ti129 : Try.prog.info? 129 = some Try.t129 := by kernel_rfl
theorem ti130 : Try.prog.info? 130 = some Try.t130 := by kernel_rfl
theorem ti131 : Try.prog.info? 131 = some Try.t131 := by kernel_rfl
theorem ti132 : Try.prog.info? 132 = some Try.t132 := by kernel_rfl
theorem ti133 : Try.prog.info? 133 = some Try.t133 := by kernel_rfl
theorem ti134 : Try.prog.info? 134 = some Try.t134 := by kernel_rfl
theorem ti135 : Try.prog.info? 135 = some Try.t135 := by kernel_rfl
theorem ti136 : Try.prog.info? 136 = some Try.t136 := by kernel_rfl
theorem ti137 : Try.prog.info? 137 = some Try.t137 := by kernel_rfl
theorem ti138 : Try.prog.info? 138 = some Try.t138 := by kernel_rfl
theorem ti139 : Try.prog.info? 139 = some Try.t139 := by kernel_rfl
theorem ti140 : Try.prog.info? 140 = some Try.t140 := by kernel_rfl
theorem ti141 : Try.prog.info? 141 = some Try.t141 := by kernel_rfl
theorem ti142 : Try.prog.info? 142 = some Try.t142 := by kernel_rfl
theorem ti143 : Try.prog.info? 143 = some Try.t143 := by kernel_rfl
theorem ti144 : Try.prog.info? 144 = some Try.t144 := by kernel_rfl
theorem ti145 : Try.prog.info? 145 = some Try.t145 := by kernel_rfl
theorem ti146 : Try.prog.info? 146 = some Try.t146 := by kernel_rfl
theorem ti147 : Try.prog.info? 147 = some Try.t147 := by kernel_rfl
theorem ti148 : Try.prog.info? 148 = some Try.t148 := by kernel_rfl
theorem ti149 : Try.prog.info? 149 = some Try.t149 := by kernel_rfl
theorem ti150 : Try.prog.info? 150 = some Try.t150 := by kernel_rfl
theorem ti151 : Try.prog.info? 151 = some Try.t151 := by kernel_rfl
theorem ti152 : Try.prog.info? 152 = some Try.t152 := by kernel_rfl
theorem ti153 : Try.prog.info? 153 = some Try.t153 := by kernel_rfl
theorem ti154 : Try.prog.info? 154 = some Try.t154 := by kernel_rfl
theorem ti155 : Try.prog.info? 155 = some Try.t155 := by kernel_rfl
theorem ti156 : Try.prog.info? 156 = some Try.t156 := by kernel_rfl
theorem ti157 : Try.prog.info? 157 = some Try.t157 := by kernel_rfl
theorem ti158 : Try.prog.info? 158 = some Try.t158 := by kernel_rfl
theorem ti159 : Try.prog.info? 159 = some Try.t159 := by kernel_rfl
theorem ti160 : Try.prog.info? 160 = some Try.t160 := by kernel_rfl
theorem ti161 : Try.prog.info? 161 = some Try.t161 := by kernel_rfl
theorem ti162 : Try.prog.info? 162 = some Try.t162 := by kernel_rfl
theorem ti163 : Try.prog.info? 163 = some Try.t163 := by kernel_rfl
theorem ti164 : Try.prog.info? 164 = some Try.t164 := by kernel_rfl
theorem ti165 : Try.prog.info? 165 = some Try.t165 := by kernel_rfl
theorem ti166 : Try.prog.info? 166 = some Try.t166 := by kernel_rfl
theorem ti167 : Try.prog.info? 167 = some Try.t167 := by kernel_rfl
theorem ti168 : Try.prog.info? 168 = some Try.t168 := by kernel_rfl
theorem ti169 : Try.prog.info? 169 = some Try.t169 := by kernel_rfl
theorem ti170 : Try.prog.info? 170 = some Try.t170 := by kernel_rfl
theorem ti171 : Try.prog.info? 171 = some Try.t171 := by kernel_rfl
theorem ti172 : Try.prog.info? 172 = some Try.t172 := by kernel_rfl
theorem ti173 : Try.prog.info? 173 = some Try.t173 := by kernel_rfl
theorem ti174 : Try.prog.info? 174 = some Try.t174 := by kernel_rfl
theorem ti175 : Try.prog.info? 175 = some Try.t175 := by kernel_rfl
theorem ti176 : Try.prog.info? 176 = some Try.t176 := by kernel_rfl
theorem ti177 : Try.prog.info? 177 = some Try.t177 := by kernel_rfl
theorem ti178 : Try.prog.info? 178 = some Try.t178 := by kernel_rfl
theorem ti179 : Try.prog.info? 179 = some Try.t179 := by kernel_rfl
theorem ti180 : Try.prog.info? 180 = some Try.t180 := by kernel_rfl
theorem ti181 : Try.prog.info? 181 = some Try.t181 := by kernel_rfl
theorem ti182 : Try.prog.info? 182 = some Try.t182 := by kernel_rfl
theorem ti183 : Try.prog.info? 183 = some Try.t183 := by kernel_rfl
theorem ti184 : Try.prog.info? 184 = some Try.t184 := by kernel_rfl
theorem ti185 : Try.prog.info? 185 = some Try.t185 := by kernel_rfl
theorem ti186 : Try.prog.info? 186 = some Try.t186 := by kernel_rfl
theorem ti187 : Try.prog.info? 187 = some Try.t187 := by kernel_rfl
theorem ti188 : Try.prog.info? 188 = some Try.t188 := by kernel_rfl
theorem tyAll : tyTree.all (fun k i => Try.prog.info? k = some i) :=
  ⟨ti0, ⟨ti1, ⟨ti3, ⟨ti7, ⟨ti15, ⟨ti31, ⟨ti63, ⟨ti127, trivial, trivial⟩, trivial⟩, ⟨ti95, ⟨ti159, trivial, trivial⟩, trivial⟩⟩, ⟨ti47, ⟨ti79, ⟨ti143, trivial, trivial⟩, trivial⟩, ⟨ti111, ⟨ti175, trivial, trivial⟩, trivial⟩⟩⟩, ⟨ti23, ⟨ti39, ⟨ti71, ⟨ti135, trivial, trivial⟩, trivial⟩, ⟨ti103, ⟨ti167, trivial, trivial⟩, trivial⟩⟩, ⟨ti55, ⟨ti87, ⟨ti151, trivial, trivial⟩, trivial⟩, ⟨ti119, ⟨ti183, trivial, trivial⟩, trivial⟩⟩⟩⟩, ⟨ti11, ⟨ti19, ⟨ti35, ⟨ti67, ⟨ti131, trivial, trivial⟩, trivial⟩, ⟨ti99, ⟨ti163, trivial, trivial⟩, trivial⟩⟩, ⟨ti51, ⟨ti83, ⟨ti147, trivial, trivial⟩, trivial⟩, ⟨ti115, ⟨ti179, trivial, trivial⟩, trivial⟩⟩⟩, ⟨ti27, ⟨ti43, ⟨ti75, ⟨ti139, trivial, trivial⟩, trivial⟩, ⟨ti107, ⟨ti171, trivial, trivial⟩, trivial⟩⟩, ⟨ti59, ⟨ti91, ⟨ti155, trivial, trivial⟩, trivial⟩, ⟨ti123, ⟨ti187, trivial, trivial⟩, trivial⟩⟩⟩⟩⟩, ⟨ti5, ⟨ti9, ⟨ti17, ⟨ti33, ⟨ti65, ⟨ti129, trivial, trivial⟩, trivial⟩, ⟨ti97, ⟨ti161, trivial, trivial⟩, trivial⟩⟩, ⟨ti49, ⟨ti81, ⟨ti145, trivial, trivial⟩, trivial⟩, ⟨ti113, ⟨ti177, trivial, trivial⟩, trivial⟩⟩⟩, ⟨ti25, ⟨ti41, ⟨ti73, ⟨ti137, trivial, trivial⟩, trivial⟩, ⟨ti105, ⟨ti169, trivial, trivial⟩, trivial⟩⟩, ⟨ti57, ⟨ti89, ⟨ti153, trivial, trivial⟩, trivial⟩, ⟨ti121, ⟨ti185, trivial, trivial⟩, trivial⟩⟩⟩⟩, ⟨ti13, ⟨ti21, ⟨ti37, ⟨ti69, ⟨ti133, trivial, trivial⟩, trivial⟩, ⟨ti101, ⟨ti165, trivial, trivial⟩, trivial⟩⟩, ⟨ti53, ⟨ti85, ⟨ti149, trivial, trivial⟩, trivial⟩, ⟨ti117, ⟨ti181, trivial, trivial⟩, trivial⟩⟩⟩, ⟨ti29, ⟨ti45, ⟨ti77, ⟨ti141, trivial, trivial⟩, trivial⟩, ⟨ti109, ⟨ti173, trivial, trivial⟩, trivial⟩⟩, ⟨ti61, ⟨ti93, ⟨ti157, trivial, trivial⟩, trivial⟩, ⟨ti125, trivial, trivial⟩⟩⟩⟩⟩⟩, ⟨ti2, ⟨ti4, ⟨ti8, ⟨ti16, ⟨ti32, ⟨ti64, ⟨ti128, trivial, trivial⟩, trivial⟩, ⟨ti96, ⟨ti160, trivial, trivial⟩, trivial⟩⟩, ⟨ti48, ⟨ti80, ⟨ti144, trivial, trivial⟩, trivial⟩, ⟨ti112, ⟨ti176, trivial, trivial⟩, trivial⟩⟩⟩, ⟨ti24, ⟨ti40, ⟨ti72, ⟨ti136, trivial, trivial⟩, trivial⟩, ⟨ti104, ⟨ti168, trivial, trivial⟩, trivial⟩⟩, ⟨ti56, ⟨ti88, ⟨ti152, trivial, trivial⟩, trivial⟩, ⟨ti120, ⟨ti184, trivial, trivial⟩, trivial⟩⟩⟩⟩, ⟨ti12, ⟨ti20, ⟨ti36, ⟨ti68, ⟨ti132, trivial, trivial⟩, trivial⟩, ⟨ti100, ⟨ti164, trivial, trivial⟩, trivial⟩⟩, ⟨ti52, ⟨ti84, ⟨ti148, trivial, trivial⟩, trivial⟩, ⟨ti116, ⟨ti180, trivial, trivial⟩, trivial⟩⟩⟩, ⟨ti28, ⟨ti44, ⟨ti76, ⟨ti140, trivial, trivial⟩, trivial⟩, ⟨ti108, ⟨ti172, trivial, trivial⟩, trivial⟩⟩, ⟨ti60, ⟨ti92, ⟨ti156, trivial, trivial⟩, trivial⟩, ⟨ti124, ⟨ti188, trivial, trivial⟩, trivial⟩⟩⟩⟩⟩, ⟨ti6, ⟨ti10, ⟨ti18, ⟨ti34, ⟨ti66, ⟨ti130, trivial, trivial⟩, trivial⟩, ⟨ti98, ⟨ti162, trivial, trivial⟩, trivial⟩⟩, ⟨ti50, ⟨ti82, ⟨ti146, trivial, trivial⟩, trivial⟩, ⟨ti114, ⟨ti178, trivial, trivial⟩, trivial⟩⟩⟩, ⟨ti26, ⟨ti42, ⟨ti74, ⟨ti138, trivial, trivial⟩, trivial⟩, ⟨ti106, ⟨ti170, trivial, trivial⟩, trivial⟩⟩, ⟨ti58, ⟨ti90, ⟨ti154, trivial, trivial⟩, trivial⟩, ⟨ti122, ⟨ti186, trivial, trivial⟩, trivial⟩⟩⟩⟩, ⟨ti14, ⟨ti22, ⟨ti38, ⟨ti70, ⟨ti134, trivial, trivial⟩, trivial⟩, ⟨ti102, ⟨ti166, trivial, trivial⟩, trivial⟩⟩, ⟨ti54, ⟨ti86, ⟨ti150, trivial, trivial⟩, trivial⟩, ⟨ti118, ⟨ti182, trivial, trivial⟩, trivial⟩⟩⟩, ⟨ti30, ⟨ti46, ⟨ti78, ⟨ti142, trivial, trivial⟩, trivial⟩, ⟨ti110, ⟨ti174, trivial, trivial⟩, trivial⟩⟩, ⟨ti62, ⟨ti94, ⟨ti158, trivial, trivial⟩, trivial⟩, ⟨ti126, trivial, trivial⟩⟩⟩⟩⟩⟩⟩
theorem fnAll : fnTree.all (fun k g => Try.prog.funcs[k]? = some g ∧ (g.name == "runtime.NumGoroutine") = false) :=
  ⟨⟨Try.func0, nm0⟩, ⟨⟨Try.func1, nm1⟩, ⟨⟨Try.func3, nm3⟩, ⟨⟨Try.func7, nm7⟩, ⟨⟨Try.func15, nm15⟩, ⟨⟨Try.func31, nm31⟩, ⟨⟨Try.func63, nm63⟩, ⟨⟨Try.func127, nm127⟩, trivial, trivial⟩, trivial⟩, ⟨⟨Try.func95, nm95⟩, trivial, trivial⟩⟩, ⟨⟨Try.func47, nm47⟩, ⟨⟨Try.func79, nm79⟩, ⟨⟨Try.func143, nm143⟩, trivial, trivial⟩, trivial⟩, ⟨⟨Try.func111, nm111⟩, trivial, trivial⟩⟩⟩, ⟨⟨Try.func23, nm23⟩, ⟨⟨Try.func39, nm39⟩, ⟨⟨Try.func71, nm71⟩, ⟨⟨Try.func135, nm135⟩, trivial, trivial⟩, trivial⟩, ⟨⟨Try.func103, nm103⟩, trivial, trivial⟩⟩, ⟨⟨Try.func55, nm55⟩, ⟨⟨Try.func87, nm87⟩, ⟨⟨Try.func151, nm151⟩, trivial, trivial⟩, trivial⟩, ⟨⟨Try.func119, nm119⟩, trivial, trivial⟩⟩⟩⟩, ⟨⟨Try.func11, nm11⟩, ⟨⟨Try.func19, nm19⟩, ⟨⟨Try.func35, nm35⟩, ⟨⟨Try.func67, nm67⟩, ⟨⟨Try.func131, nm131⟩, trivial, trivial⟩, trivial⟩, ⟨⟨Try.func99, nm99⟩, trivial, trivial⟩⟩, ⟨⟨Try.func51, nm51⟩, ⟨⟨Try.func83, nm83⟩, ⟨⟨Try.func147, nm147⟩, trivial, trivial⟩, trivial⟩, ⟨⟨Try.func115, nm115⟩, trivial, trivial⟩⟩⟩, ⟨⟨Try.func27, nm27⟩, ⟨⟨Try.func43, nm43⟩, ⟨⟨Try.func75, nm75⟩, ⟨⟨Try.func139, nm139⟩, trivial, trivial⟩, trivial⟩, ⟨⟨Try.func107, nm107⟩, trivial, trivial⟩⟩, ⟨⟨Try.func59, nm59⟩, ⟨⟨Try.func91, nm91⟩, trivial, trivial⟩, ⟨⟨Try.func123, nm123⟩, trivial, trivial⟩⟩⟩⟩⟩, ⟨⟨Try.func5, nm5⟩, ⟨⟨Try.func9, nm9⟩, ⟨⟨Try.func17, nm17⟩, ⟨⟨Try.func33, nm33⟩, ⟨⟨Try.func65, nm65⟩, ⟨⟨Try.func129, nm129⟩, trivial, trivial⟩, trivial⟩, ⟨⟨Try.func97, nm97⟩, trivial, trivial⟩⟩, ⟨⟨Try.func49, nm49⟩, ⟨⟨Try.func81, nm81⟩, ⟨⟨Try.func145, nm145⟩, trivial, trivial⟩, trivial⟩, ⟨⟨Try.func113, nm113⟩, trivial, trivial⟩⟩⟩, ⟨⟨Try.func25, nm25⟩, ⟨⟨Try.func41, nm41⟩, ⟨⟨Try.func73, nm73⟩, ⟨⟨Try.func137, nm137⟩, trivial, trivial⟩, trivial⟩, ⟨⟨Try.func105, nm105⟩, trivial, trivial⟩⟩, ⟨⟨Try.func57, nm57⟩, ⟨⟨Try.func89, nm89⟩, ⟨⟨Try.func153, nm153⟩, trivial, trivial⟩, trivial⟩, ⟨⟨Try.func121, nm121⟩, trivial, trivial⟩⟩⟩⟩, ⟨⟨Try.func13, nm13⟩, ⟨⟨Try.func21, nm21⟩, ⟨⟨Try.func37, nm37⟩, ⟨⟨Try.func69, nm69⟩, ⟨⟨Try.func133, nm133⟩, trivial, trivial⟩, trivial⟩, ⟨⟨Try.func101, nm101⟩, trivial, trivial⟩⟩, ⟨⟨Try.func53, nm53⟩, ⟨⟨Try.func85, nm85⟩, ⟨⟨Try.func149, nm149⟩, trivial, trivial⟩, trivial⟩, ⟨⟨Try.func117, nm117⟩, trivial, trivial⟩⟩⟩, ⟨⟨Try.func29, nm29⟩, ⟨⟨Try.func45, nm45⟩, ⟨⟨Try.func77, nm77⟩, ⟨⟨Try.func141, nm141⟩, trivial, trivial⟩, trivial⟩, ⟨⟨Try.func109, nm109⟩, trivial, trivial⟩⟩, ⟨⟨Try.func61, nm61⟩, ⟨⟨Try.func93, nm93⟩, trivial, trivial⟩, ⟨⟨Try.func125, nm125⟩, trivial, trivial⟩⟩⟩⟩⟩⟩, ⟨⟨Try.func2, nm2⟩, ⟨⟨Try.func4, nm4⟩, ⟨⟨Try.func8, nm8⟩, ⟨⟨Try.func16, nm16⟩, ⟨⟨Try.func32, nm32⟩, ⟨⟨Try.func64, nm64⟩, ⟨⟨Try.func128, nm128⟩, trivial, trivial⟩, trivial⟩, ⟨⟨Try.func96, nm96⟩, trivial, trivial⟩⟩, ⟨⟨Try.func48, nm48⟩, ⟨⟨Try.func80, nm80⟩, ⟨⟨Try.func144, nm144⟩, trivial, trivial⟩, trivial⟩, ⟨⟨Try.func112, nm112⟩, trivial, trivial⟩⟩⟩, ⟨⟨Try.func24, nm24⟩, ⟨⟨Try.func40, nm40⟩, ⟨⟨Try.func72, nm72⟩, ⟨⟨Try.func136, nm136⟩, trivial, trivial⟩, trivial⟩, ⟨⟨Try.func104, nm104⟩, trivial, trivial⟩⟩, ⟨⟨Try.func56, nm56⟩, ⟨⟨Try.func88, nm88⟩, ⟨⟨Try.func152, nm152⟩, trivial, trivial⟩, trivial⟩, ⟨⟨Try.func120, nm120⟩, trivial, trivial⟩⟩⟩⟩, ⟨⟨Try.func12, nm12⟩, ⟨⟨Try.func20, nm20⟩, ⟨⟨Try.func36, nm36⟩, ⟨⟨Try.func68, nm68⟩, ⟨⟨Try.func132, nm132⟩, trivial, trivial⟩, trivial⟩, ⟨⟨Try.func100, nm100⟩, trivial, trivial⟩⟩, ⟨⟨Try.func52, nm52⟩, ⟨⟨Try.func84, nm84⟩, ⟨⟨Try.func148, nm148⟩, trivial, trivial⟩, trivial⟩, ⟨⟨Try.func116, nm116⟩, trivial, trivial⟩⟩⟩, ⟨⟨Try.func28, nm28⟩, ⟨⟨Try.func44, nm44⟩, ⟨⟨Try.func76, nm76⟩, ⟨⟨Try.func140, nm140⟩, trivial, trivial⟩, trivial⟩, ⟨⟨Try.func108, nm108⟩, trivial, trivial⟩⟩, ⟨⟨Try.func60, nm60⟩, ⟨⟨Try.func92, nm92⟩, trivial, trivial⟩, ⟨⟨Try.func124, nm124⟩, trivial, trivial⟩⟩⟩⟩⟩, ⟨⟨Try.func6, nm6⟩, ⟨⟨Try.func10, nm10⟩, ⟨⟨Try.func18, nm18⟩, ⟨⟨Try.func34, nm34⟩, ⟨⟨Try.func66, nm66⟩, ⟨⟨Try.func130, nm130⟩, trivial, trivial⟩, trivial⟩, ⟨⟨Try.func98, nm98⟩, trivial, trivial⟩⟩, ⟨⟨Try.func50, nm50⟩, ⟨⟨Try.func82, nm82⟩, ⟨⟨Try.func146, nm146⟩, trivial, trivial⟩, trivial⟩, ⟨⟨Try.func114, nm114⟩, trivial, trivial⟩⟩⟩, ⟨⟨Try.func26, nm26⟩, ⟨⟨Try.func42, nm42⟩, ⟨⟨Try.func74, nm74⟩, ⟨⟨Try.func138, nm138⟩, trivial, trivial⟩, trivial⟩, ⟨⟨Try.func106, nm106⟩, trivial, trivial⟩⟩, ⟨⟨Try.func58, nm58⟩, ⟨⟨Try.func90, nm90⟩, trivial, trivial⟩, ⟨⟨Try.func122, nm122⟩, trivial, trivial⟩⟩⟩⟩, ⟨⟨Try.func14, nm14⟩, ⟨⟨Try.func22, nm22⟩, ⟨⟨Try.func38, nm38⟩, ⟨⟨Try.func70, nm70⟩, ⟨⟨Try.func134, nm134⟩, trivial, trivial⟩, trivial⟩, ⟨⟨Try.func102, nm102⟩, trivial, trivial⟩⟩, ⟨⟨Try.func54, nm54⟩, ⟨⟨Try.func86, nm86⟩, ⟨⟨Try.func150, nm150⟩, trivial, trivial⟩, trivial⟩, ⟨⟨Try.func118, nm118⟩, trivial, trivial⟩⟩⟩, ⟨⟨Try.func30, nm30⟩, ⟨⟨Try.func46, nm46⟩, ⟨⟨Try.func78, nm78⟩, ⟨⟨Try.func142, nm142⟩, trivial, trivial⟩, trivial⟩, ⟨⟨Try.func110, nm110⟩, trivial, trivial⟩⟩, ⟨⟨Try.func62, nm62⟩, ⟨⟨Try.func94, nm94⟩, trivial, trivial⟩, ⟨⟨Try.func126, nm126⟩, trivial, trivial⟩⟩⟩⟩⟩⟩⟩
theorem tab_fits : tab.Fits Try.prog := tabOf_fits tyAll fnAll (by kernel_rfl)
end Go.Am
/- Calls from heaps that have more blocks than are needed: what is not reached stays as it is. -/
namespace Go.Am
variable {P : Program}
/-- All blocks of a value are there. -/
def inV (H : AHeap) : Value → Prop
  | .pointer (some a) => H.get a.block ≠ .dead
  | .slice (some a) _ _ => H.get a.block ≠ .dead
  | .map (some r) => H.get r ≠ .dead
  | .chan r => H.get (r.getD 0 / OPEN / OPEN / OPEN) ≠ .dead
  | .func fn first captured => (∀ l, fn = .yield l → H.get l ≠ .dead) ∧ (∀ v ∈ first, inV H v) ∧ (∀ v ∈ captured, inV H v)
  | .iface _ v => inV H v
  | .agg cs => ∀ v ∈ cs, inV H v
  | .tuple vs => ∀ v ∈ vs, inV H v
  | _ => True
/-- A placement of those blocks alone that are there. -/
noncomputable def Place.only (σ : Place) (H : AHeap) : Place := ⟨fun k => open Classical in if H.get k = .dead then none else σ.at_ k, σ.room⟩
section
variable {σ : Place} {H : AHeap}
theorem only_some {k : Nat} {p : Nat × Nat} (h : (σ.only H).at_ k = some p) : H.get k ≠ .dead ∧ σ.at_ k = some p := by
  unfold Place.only at h
  simp only at h
  split at h
  · cases h
  · rename_i h0; exact ⟨h0, h⟩
theorem only_at {k : Nat} (h : H.get k ≠ .dead) : (σ.only H).at_ k = σ.at_ k := by
  unfold Place.only
  simp only
  rw [if_neg h]
theorem only_agree : Agree (σ.only H) σ := fun k p h => ⟨(only_some h).2, rfl⟩
theorem okv_only : ∀ v, okv σ v → inV H v → okv (σ.only H) v
  | .pointer none => fun _ _ => by simp [okv]
  | .pointer (some a) => fun hv hi => by
    simp only [okv,inV] at hv hi ⊢
    rw [only_at hi]; exact hv
  | .slice none l c => fun hv _ => by
    simp only [okv] at hv ⊢
    exact hv
  | .slice (some a) l c => fun hv hi => by
    simp only [okv,inV] at hv hi ⊢
    rw [only_at hi]
    exact hv
  | .map none => fun _ _ => by simp [okv]
  | .map (some r) => fun hv hi => by
    simp only [okv,inV] at hv hi ⊢
    rw [only_at hi]; exact hv
  | .chan r => fun hv hi => by
    simp only [okv,inV] at hv hi ⊢
    rw [only_at hi]; exact hv
  | .func fn first captured => fun hv hi => by
    simp only [okv,inV] at hv hi ⊢
    obtain ⟨h1, h2, h3⟩ := hv
    obtain ⟨k1, k2, k3⟩ := hi
    refine ⟨?_, fun v hm => okv_only v (h2 v hm) (k2 v hm), fun v hm => okv_only v (h3 v hm) (k3 v hm)⟩
    cases fn <;> simp only [okfn] at h1 ⊢
    rename_i l
    rw [only_at (k1 l rfl)]; exact h1
  | .iface t v => fun hv hi => by
    simp only [okv,inV] at hv hi ⊢
    exact okv_only v hv hi
  | .agg cs => fun hv hi => by
    simp only [okv,inV] at hv hi ⊢
    exact fun v hm => okv_only v (hv v hm) (hi v hm)
  | .tuple cs => fun hv hi => by
    simp only [okv,inV] at hv hi ⊢
    exact fun v hm => okv_only v (hv v hm) (hi v hm)
  | .bool _ => fun _ _ => by simp [okv]
  | .int _ _ => fun _ _ => by simp [okv]
  | .float _ _ => fun _ _ => by simp [okv]
  | .complex _ _ _ => fun _ _ => by simp [okv]
  | .string _ => fun _ _ => by simp [okv]
  | .nilFunc => fun _ _ => by simp [okv]
  | .nilIface => fun _ _ => by simp [okv]
theorem only_ren {v : Value} (hv : okv σ v) (hi : inV H v) : ren (σ.only H) v = ren σ v := (only_agree.ren (okv_only v hv hi)).symm
theorem only_map {l : List Value} (hv : ∀ v ∈ l, okv σ v) (hi : ∀ v ∈ l, inV H v) : l.map (ren (σ.only H)) = l.map (ren σ) := List.map_congr_left fun v hm => only_ren (hv v hm) (hi v hm)
end
/-- A block that does not lean on what is not there, and shares its place in memory with nothing that is not there. -/
def inB (H : AHeap) : ABlk → Prop
  | .dead => True
  | .rw c _ _ al => (∀ v ∈ c, inV H v) ∧ ∀ j ∈ al, H.get j ≠ .dead
  | .map es _ => ∀ e ∈ es, inV H e.1 ∧ inV H e.2.1
  | _ => False
theorem Holds.only {σ : Place} {H : AHeap} {w : World} {room b s : Nat} {k : ABlk} (h : Holds σ w room b s k) (hi : inB H k) : Holds (σ.only H) w room b s k := by
  cases k with
  | dead => trivial
  | ro c => exact hi.elim
  | rw c e o al =>
    obtain ⟨h0, h1, rest, h2, h3, h4⟩ := h
    exact ⟨h0, fun v hv => okv_only v (h1 v hv) (hi.1 v hv), rest, by rw [h2, only_map h1 hi.1], h3, h4⟩
  | map es clock =>
    obtain ⟨h0, h1, h2⟩ := h
    refine ⟨h0, fun e he => ⟨okv_only _ (h1 e he).1 (hi e he).1, okv_only _ (h1 e he).2 (hi e he).2⟩, ?_⟩
    rw [h2]
    congr 3
    exact List.map_congr_left fun e he => by rw [only_ren (h1 e he).1 (hi e he).1, only_ren (h1 e he).2 (hi e he).2]
  | loop => exact hi.elim
  | defer => exact hi.elim
theorem inB_al {H : AHeap} {k : ABlk} (hi : inB H k) (hd : k ≠ .dead) : ∃ al, k.al = some al ∧ ∀ j ∈ al, H.get j ≠ .dead := by
  cases k with
  | dead => exact absurd rfl hd
  | ro c => exact hi.elim
  | rw c e o al => exact ⟨al, rfl, hi.2⟩
  | map es clock => exact ⟨[], rfl, fun j hj => by simp at hj⟩
  | loop => exact hi.elim
  | defer => exact hi.elim
/-- Blocks that are there alone have places of their own. -/
theorem apart {σ : Place} {H H₀ : AHeap} {w : World} (r : Rel σ H₀ w) (hl : Less H H₀) (hb : ∀ k, inB H (H.get k)) {k k' b s s' : Nat} (hk : H.get k ≠ .dead) (hk' : H.get k' = .dead) (h : σ.at_ k = some (b, s)) (h' : σ.at_ k' = some (b, s')) : H₀.get k' = .dead := by
  have hne : k ≠ k' := fun e => by rw [e] at hk; exact hk hk'
  have he : H.get k = H₀.get k := (hl.2 k).resolve_right hk
  obtain ⟨al, h1, h2⟩ := inB_al (hb k) hk
  rw [he] at h1
  rcases r.excl k k' b s s' h h' hne al h1 with h3 | ⟨h3, _⟩
  · exact h3
  · exact absurd hk' (h2 k' h3)
theorem SCall.frame {f : FuncId} {args : List Value} {H H₀ H' H'' : AHeap} {v : Value} {m : Nat} (h : SCall P f args H v H' m) (hl : Less H H₀) (ha : ∀ x ∈ args, inV H x) (hb : ∀ k, inB H (H.get k))
    (hs : H''.size = H'.size) (hg1 : ∀ k, k < H.size → H.get k = .dead → H''.get k = H₀.get k) (hg2 : ∀ k, (k < H.size → H.get k ≠ .dead) → H''.get k = H'.get k) : SCall P f args H₀ v H'' m := by
  intro F n σ w hF hR hargs
  have hR1 : Rel (σ.only H) H w := by
    refine ⟨fun k b s hp => ?_, fun k b s hp => ?_, fun k k' b s s' hk hk' hne al hal => ?_⟩
    · rw [hl.1]; exact hR.lt k b s (only_some hp).2
    · obtain ⟨h0, h1⟩ := only_some hp
      have he : H.get k = H₀.get k := (hl.2 k).resolve_right h0
      have := hR.holds k b s h1
      rw [← he] at this
      exact this.only (hb k)
    · obtain ⟨h0, h1⟩ := only_some hk
      obtain ⟨h2, h3⟩ := only_some hk'
      have he : H.get k = H₀.get k := (hl.2 k).resolve_right h0
      have he' : H.get k' = H₀.get k' := (hl.2 k').resolve_right h2
      rw [he] at hal
      rw [he']
      exact hR.excl k k' b s s' h1 h3 hne al hal
  have hmap : args.map (ren (σ.only H)) = args.map (ren σ) := only_map hargs ha
  have h1 := h F n (σ.only H) w hF hR1 fun x hx => okv_only x (hargs x hx) (ha x hx)
  rw [hmap] at h1
  refine h1.mono ?_
  rintro e w' ⟨τ, rfl, k1, k2, x⟩
  have hagr := x.agr hR1
  -- the old places, and the new ones
  let υ : Place := ⟨fun k => if k < H.size then σ.at_ k else τ.at_ k, fun k => if k < H.size then σ.room k else τ.room k⟩
  have υlt : ∀ k, k < H.size → υ.at_ k = σ.at_ k ∧ υ.room k = σ.room k := fun k hk => ⟨if_pos hk, if_pos hk⟩
  have υge : ∀ k, ¬ k < H.size → υ.at_ k = τ.at_ k ∧ υ.room k = τ.room k := fun k hk => ⟨if_neg hk, if_neg hk⟩
  have τυ : Agree τ υ := fun k p hp => by
    by_cases hk : k < H.size
    · rw [(x.agree k hk).1] at hp
      obtain ⟨_, h3⟩ := only_some hp
      exact ⟨(υlt k hk).1.trans h3, (υlt k hk).2.trans ((x.agree k hk).2).symm⟩
    · exact ⟨(υge k hk).1.trans hp, (υge k hk).2⟩
  have συ : Agree σ υ := fun k p hp => by
    obtain ⟨b, s⟩ := p
    have hk := (hR.lt k b s hp).1
    rw [← hl.1] at hk
    exact ⟨(υlt k hk).1.trans hp, (υlt k hk).2⟩
  -- blocks that are not there stay
  have hstay : ∀ k b s, H.get k = .dead → H₀.get k ≠ .dead → σ.at_ k = some (b, s) → w'.heap[b]? = w.heap[b]? := fun k b s hd h0 hp =>
    x.frame b (hR.lt k b s hp).2 fun k' s' _ hp' => by
      obtain ⟨h3, h4⟩ := only_some hp'
      exact h0 (apart hR hl hb h3 hd h4 hp)
  have hsize : H.size ≤ H'.size := x.hsize
  refine ⟨υ, by rw [τυ.ren k1], τυ.okv k1, ⟨fun k b s hp => ?_, fun k b s hp => ?_, fun k k' b s s' hk hk' hne al hal => ?_⟩, ⟨fun k hk => υlt k (by rw [hl.1]; exact hk), by rw [hs, ← hl.1]; exact hsize, x.wsize, x.os, x.tape, x.output, fun k hm hk => ?_, fun b hb' hn => x.frame b hb' fun k s hm hp => hn k s hm (only_some hp).2, fun k b s hk hp => ?_⟩⟩
  · by_cases hk : k < H.size
    · rw [(υlt k hk).1] at hp
      exact ⟨by rw [hs]; omega, Nat.lt_of_lt_of_le (hR.lt k b s hp).2 x.wsize⟩
    · rw [(υge k hk).1] at hp
      rw [hs]; exact k2.lt k b s hp
  · by_cases hk : k < H.size
    · rw [(υlt k hk).1] at hp
      rw [(υlt k hk).2]
      by_cases hd : H.get k = .dead
      · rw [hg1 k hk hd]
        by_cases h0 : H₀.get k = .dead
        · rw [h0]; trivial
        · exact (hR.holds k b s hp).agree συ (hstay k b s hd h0 hp)
      · rw [hg2 k fun _ => hd]
        have hp' : τ.at_ k = some (b, s) := by rw [(x.agree k hk).1, only_at hd]; exact hp
        have := k2.holds k b s hp'
        rw [(x.agree k hk).2] at this
        exact this.agree τυ rfl
    · rw [(υge k hk).1] at hp
      rw [(υge k hk).2, hg2 k fun h => absurd h hk]
      exact (k2.holds k b s hp).agree τυ rfl
  · -- a block of the call, and one that is not there
    have mixed : ∀ q q' b s s', (q < H.size → H.get q ≠ .dead) → q' < H.size → H.get q' = .dead → υ.at_ q = some (b, s) → υ.at_ q' = some (b, s') → H₀.get q' = .dead := fun q q' b s s' hq hq1 hd hp hp' => by
      rw [(υlt q' hq1).1] at hp'
      by_cases hk : q < H.size
      · rw [(υlt q hk).1] at hp
        exact apart hR hl hb (hq hk) hd hp hp'
      · rw [(υge q hk).1] at hp
        rcases x.fresh q b s (by omega) hp with h3 | ⟨k0, s0, _, h4⟩
        · have := (hR.lt q' b s' hp').2; omega
        · obtain ⟨h5, h6⟩ := only_some h4
          exact apart hR hl hb h5 hd h6 hp'
    have back : ∀ q p, (q < H.size → H.get q ≠ .dead) → υ.at_ q = some p → τ.at_ q = some p := fun q p hq hp => by
      by_cases hk : q < H.size
      · rw [(υlt q hk).1] at hp
        rw [(x.agree q hk).1, only_at (hq hk)]; exact hp
      · rw [(υge q hk).1] at hp; exact hp
    by_cases hd : k < H.size ∧ H.get k = .dead
    · obtain ⟨h3, h4⟩ := hd
      rw [hg1 k h3 h4] at hal
      by_cases hd' : k' < H.size ∧ H.get k' = .dead
      · obtain ⟨h5, h6⟩ := hd'
        rw [(υlt k h3).1] at hk
        rw [(υlt k' h5).1] at hk'
        rw [hg1 k' h5 h6]
        exact hR.excl k k' b s s' hk hk' hne al hal
      · have := mixed k' k b s' s (fun h5 h6 => hd' ⟨h5, h6⟩) h3 h4 hk' hk
        rw [this] at hal
        cases hal
    · have hkk : k < H.size → H.get k ≠ .dead := fun h5 h6 => hd ⟨h5, h6⟩
      rw [hg2 k hkk] at hal
      by_cases hd' : k' < H.size ∧ H.get k' = .dead
      · obtain ⟨h5, h6⟩ := hd'
        rw [hg1 k' h5 h6]
        exact .inl (mixed k k' b s s' hkk h5 h6 hk hk')
      · have hkk' : k' < H.size → H.get k' ≠ .dead := fun h5 h6 => hd' ⟨h5, h6⟩
        rw [hg2 k' hkk']
        exact k2.excl k k' b s s' (back k _ hkk hk) (back k' _ hkk' hk') hne al hal
  · by_cases hd : H.get k = .dead
    · exact hg1 k (by rw [hl.1]; exact hk) hd
    · rw [hg2 k fun _ => hd, x.keep k hm (by rw [hl.1]; exact hk)]
      exact (hl.2 k).resolve_right hd
  · have hk' : ¬ k < H.size := by rw [hl.1]; omega
    rw [(υge k hk').1] at hp
    rcases x.fresh k b s (by omega) hp with h3 | ⟨k0, s0, h3, h4⟩
    · exact .inl h3
    · exact .inr ⟨k0, s0, h3, (only_some h4).2⟩
end Go.Am
