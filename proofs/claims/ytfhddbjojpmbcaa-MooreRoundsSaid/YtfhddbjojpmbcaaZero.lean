/- Nothing: the other loader names the zero machine itself. -/
import Derived.Test.YtfhddbjojpmbcaaAid
